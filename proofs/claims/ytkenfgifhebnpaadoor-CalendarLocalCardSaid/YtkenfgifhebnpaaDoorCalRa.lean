/- The contracts of the reference's YearDays, MonthDays, Known, Modulo. -/
import Derived.Test.YtkenfgifhebnpaaDoorBase
import Derived.Test.YtkenfgifhebnpaaDoorCalMath
namespace Go.Proofs.YtkenfgifhebnpaaDoor
open Go.RowKit
set_option linter.unusedVariables false
set_option maxRecDepth 100000

set_option maxHeartbeats 1000000 in
theorem year_core (x a b c r : Int) (w : World) (e1 : x.tmod 400 = a) (e2 : x.tmod 4 = b) (e3 : x.tmod 100 = c) (hr : (a = 0 ∧ r = 366) ∨ (a ≠ 0 ∧ b ≠ 0 ∧ r = 365) ∨ (a ≠ 0 ∧ b = 0 ∧ c ≠ 0 ∧ r = 366) ∨ (a ≠ 0 ∧ b = 0 ∧ c = 0 ∧ r = 365)) :
    Calls Tryd.prog 41 #[.int .i64 x] w fun e w' => e = .returned (.int .i64 r) ∧ w' = w := by
  rcases hr with ⟨ha, rfl⟩ | ⟨ha, hb, rfl⟩ | ⟨ha, hb, hc, rfl⟩ | ⟨ha, hb, hc, rfl⟩
  · subst ha
    have q1 : ((0 : Int) == 0) = true := rfl
    clear e2 e3
    go_enter Tryd.func41, Tryd.ntmps41
    go_wp2_with fail
    go_ret
    exact ⟨rfl, rfl⟩
  · clear e3
    go_enter Tryd.func41, Tryd.ntmps41
    go_wp2_with fail
    go_ret
    exact ⟨rfl, rfl⟩
  · subst hb
    have q1 : (a == 0) = false := by simpa using ha
    have q2 : (c != 0) = true := by simpa using hc
    have q3 : (c == 0) = false := by simpa using hc
    go_enter Tryd.func41, Tryd.ntmps41
    go_wp2_with fail
    go_ret
    exact ⟨rfl, rfl⟩
  · subst hb hc
    go_enter Tryd.func41, Tryd.ntmps41
    go_wp2_with fail
    go_ret
    exact ⟨rfl, rfl⟩
theorem yearDays_any (y : Nat) (w : World) : Calls Tryd.prog 41 #[.int .i64 y] w fun e w' => e = .returned (.int .i64 (Cal.yd y : Nat)) ∧ w' = w := by
  refine year_core y ((y : Int).tmod 400) ((y : Int).tmod 4) ((y : Int).tmod 100) _ w rfl rfl rfl ?_
  rw [Int.tmod_eq_emod_of_nonneg (by omega), Int.tmod_eq_emod_of_nonneg (by omega), Int.tmod_eq_emod_of_nonneg (by omega)]
  unfold Cal.yd
  split <;> omega

set_option maxHeartbeats 1000000 in
theorem monthDays_any (y m : Nat) (w : World) : Calls Tryd.prog 42 #[.int .i64 y, .int .i64 m] w fun e w' => e = .returned (.int .i64 (Cal.md y m : Nat)) ∧ w' = w := by
  have c := fun W => yearDays_any y W
  have h2 := Cal.yd_two y
  obtain ⟨r, hr⟩ : ∃ r, r = Cal.md y m := ⟨_, rfl⟩
  rw [← hr]
  have e2 : m = 2 → (r : Int) = (Cal.yd y : Int) - 337 := fun h => by rw [hr]; unfold Cal.md; rw [if_pos h]; omega
  have e3 : m ≠ 2 → (m = 4 ∨ m = 6 ∨ m = 9 ∨ m = 11) → (r : Int) = 30 := fun h h' => by rw [hr]; unfold Cal.md; rw [if_neg h, if_pos h']; rfl
  have e4 : m ≠ 2 → ¬ (m = 4 ∨ m = 6 ∨ m = 9 ∨ m = 11) → (r : Int) = 31 := fun h h' => by rw [hr]; unfold Cal.md; rw [if_neg h, if_neg h']; rfl
  obtain ⟨R, hR⟩ : ∃ R : Int, R = r := ⟨_, rfl⟩
  rw [← hR]
  rw [← hR] at e2 e3 e4
  obtain ⟨Y, hY⟩ : ∃ Y : Int, Y = (Cal.yd y : Int) := ⟨_, rfl⟩
  rw [← hY] at e2
  have c' : ∀ W, Calls Tryd.prog 41 #[.int .i64 y] W fun e w' => e = .returned (.int .i64 Y) ∧ w' = W := fun W => by rw [hY]; exact c W
  have hY2 : Y = 365 ∨ Y = 366 := by omega
  obtain ⟨x, hx⟩ : ∃ x : Int, x = m := ⟨_, rfl⟩
  have C := Lib.hid c'
  have HE := Lib.hid (And.intro e2 (And.intro e3 e4))
  by_cases h : m = 2
  · obtain rfl := HE.out.1 h
    subst h
    have hw : wrap64 (Y - 337) = Y - 337 := by unfold wrap64; omega
    clear HE e2 e3 e4 hx c c' h2 hY hY2 hR hr
    go_enter Tryd.func42, Tryd.ntmps42
    go_wp2_with fail
    refine (C.out _).mono ?_
    rintro e w' ⟨rfl, rfl⟩
    go_wp2_with fail
    go_ret
    exact ⟨by show Ending.returned (.int .i64 (wrap64 (Y - 337))) = _; rw [hw], rfl⟩
  · by_cases h' : m = 4 ∨ m = 6 ∨ m = 9 ∨ m = 11
    · obtain rfl := HE.out.2.1 h h'
      clear HE e2 e3 e4 c c' h2 hY hY2 hr C
      rcases h' with rfl | rfl | rfl | rfl
      all_goals
        go_enter Tryd.func42, Tryd.ntmps42
        go_wp2_with fail
        go_ret
        exact ⟨rfl, rfl⟩
    · obtain rfl := HE.out.2.2 h h'
      have x1 : ¬ (x = 2) := by omega
      have x2 : (x == 4) = false := beq_eq_false_iff_ne.2 (by omega)
      have x3 : (x == 6) = false := beq_eq_false_iff_ne.2 (by omega)
      have x4 : (x == 9) = false := beq_eq_false_iff_ne.2 (by omega)
      have x5 : (x == 11) = false := beq_eq_false_iff_ne.2 (by omega)
      rw [← hx]
      clear HE e2 e3 e4 c c' h2 hY hY2 hR hr C h h' hx
      go_enter Tryd.func42, Tryd.ntmps42
      go_wp2_with fail
      go_ret
      exact ⟨rfl, rfl⟩
set_option maxHeartbeats 1000000 in
theorem known_any (n : Int) (w : World) : Calls Tryd.prog 40 #[.int .i64 n] w fun e w' => e = .returned (.bool (decide (Cal.known n))) ∧ w' = w := by
  by_cases h1 : -146097 ≤ n
  · by_cases h2 : n ≤ 146096
    · rw [decide_eq_true (show Cal.known n from ⟨h1, h2⟩)]
      go_enter Tryd.func40, Tryd.ntmps40
      go_wp2_with fail
      go_ret
      exact ⟨rfl, rfl⟩
    · rw [decide_eq_false (show ¬ Cal.known n from fun h => h2 h.2)]
      go_enter Tryd.func40, Tryd.ntmps40
      go_wp2_with fail
      go_ret
      exact ⟨rfl, rfl⟩
  · rw [decide_eq_false (show ¬ Cal.known n from fun h => h1 h.1)]
    go_enter Tryd.func40, Tryd.ntmps40
    go_wp2_with fail
    go_ret
    exact ⟨rfl, rfl⟩
set_option maxHeartbeats 1000000 in
/-- A number modulo a positive one. -/
theorem modulo_any (n m : Int) (w : World) (hn : -4611686018427387904 ≤ n ∧ n ≤ 4611686018427387904) (hm : 1 ≤ m ∧ m ≤ 1000000) : Calls Tryd.prog 43 #[.int .i64 n, .int .i64 m] w fun e w' => e = .returned (.int .i64 (n % m)) ∧ w' = w := by
  obtain ⟨a, ha⟩ : ∃ a, a = n.tmod m := ⟨_, rfl⟩
  have ha1 : -m < a ∧ a < m := by
    rw [ha]
    have h1 := Int.lt_tmod_of_pos n (show 0 < m by omega)
    have h2 := Int.tmod_lt_of_pos n (show 0 < m by omega)
    omega
  have hw : wrap64 (a + m) = a + m := by unfold wrap64; omega
  have hz : (a + m).tmod m = n % m := by
    rw [Int.tmod_eq_emod_of_nonneg (by omega), Int.add_emod_right, ha]
    have h := Int.mul_tdiv_add_tmod n m
    conv => rhs; rw [← h]
    rw [Int.add_comm, Int.add_mul_emod_self_left]
  obtain ⟨z, hz'⟩ : ∃ z, z = n % m := ⟨_, rfl⟩
  rw [← hz'] at hz ⊢
  have hm0 : ¬ m = 0 := by omega
  replace ha := ha.symm
  obtain ⟨m1, m2⟩ := hm
  have hm1 : ¬ m < 1 := by omega
  obtain ⟨a1, a2⟩ := ha1
  have hm3 : (m == 0) = false := beq_eq_false_iff_ne.2 (by omega)
  have hm4 : (m == -1) = false := beq_eq_false_iff_ne.2 (by omega)
  have hm5 : m ≠ 0 := by omega
  clear hz' hn
  go_enter Tryd.func43, Tryd.ntmps43
  go_wp2_with fail
  go_ret
  exact ⟨rfl, rfl⟩
end Go.Proofs.YtkenfgifhebnpaaDoor
