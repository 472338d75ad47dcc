/- The contracts of calendar's known, leap, monthLength, Weekday, dayTime. -/
import Derived.Test.YtkenfgifhebnpaaDoorCalDoor
import Derived.Test.YtkenfgifhebnpaaDoorCalRc
import Derived.Test.YtkenfgifhebnpaaDoorWireMath
namespace Go.Proofs.YtkenfgifhebnpaaDoor
open Go.RowKit
set_option linter.unusedVariables false
set_option maxRecDepth 100000

set_option maxHeartbeats 1000000 in
theorem calKnown_any (n : Int) (w : World) : Calls Tryd.prog 36 #[.int .i64 n] w fun e w' => e = .returned (.bool (decide (Cal.known n))) ∧ w' = w := by
  by_cases h1 : -146097 ≤ n
  · by_cases h2 : n ≤ 146096
    · rw [decide_eq_true (show Cal.known n from ⟨h1, h2⟩)]
      go_enter Tryd.func36, Tryd.ntmps36
      go_wp2_with fail
      go_ret
      exact ⟨rfl, rfl⟩
    · rw [decide_eq_false (show ¬ Cal.known n from fun h => h2 h.2)]
      go_enter Tryd.func36, Tryd.ntmps36
      go_wp2_with fail
      go_ret
      exact ⟨rfl, rfl⟩
  · rw [decide_eq_false (show ¬ Cal.known n from fun h => h1 h.1)]
    go_enter Tryd.func36, Tryd.ntmps36
    go_wp2_with fail
    go_ret
    exact ⟨rfl, rfl⟩

/-- A year has 366 days. -/
def Cal.lp (y : Nat) : Prop := y % 400 = 0 ∨ (y % 4 = 0 ∧ y % 100 ≠ 0)
instance (y : Nat) : Decidable (Cal.lp y) := by unfold Cal.lp; exact inferInstance
set_option maxHeartbeats 1000000 in
theorem leap_core (x a b c : Int) (z : Bool) (w : World) (e1 : x.tmod 400 = a) (e2 : x.tmod 4 = b) (e3 : x.tmod 100 = c) (hr : (b = 0 ∧ c ≠ 0 ∧ z = true) ∨ (b = 0 ∧ c = 0 ∧ z = (a == 0)) ∨ (b ≠ 0 ∧ z = (a == 0))) :
    Calls Tryd.prog 60 #[.int .i64 x] w fun e w' => e = .returned (.bool z) ∧ w' = w := by
  rcases hr with ⟨hb, hc, rfl⟩ | ⟨hb, hc, rfl⟩ | ⟨hb, rfl⟩
  · subst hb
    have q2 : (c != 0) = true := by simpa using hc
    have q3 : (c == 0) = false := by simpa using hc
    go_enter Tryd.func60, Tryd.ntmps60
    go_wp2_with fail
    go_ret
    exact ⟨rfl, rfl⟩
  · subst hb hc
    go_enter Tryd.func60, Tryd.ntmps60
    go_wp2_with fail
    go_ret
    exact ⟨rfl, rfl⟩
  · have q1 : (b == 0) = false := by simpa using hb
    have q2 : (b != 0) = true := by simpa using hb
    go_enter Tryd.func60, Tryd.ntmps60
    go_wp2_with fail
    go_ret
    exact ⟨rfl, rfl⟩
theorem leap_any (y : Nat) (w : World) : Calls Tryd.prog 60 #[.int .i64 y] w fun e w' => e = .returned (.bool (decide (Cal.lp y))) ∧ w' = w := by
  refine leap_core y ((y : Int).tmod 400) ((y : Int).tmod 4) ((y : Int).tmod 100) _ w rfl rfl rfl ?_
  rw [Int.tmod_eq_emod_of_nonneg (by omega), Int.tmod_eq_emod_of_nonneg (by omega), Int.tmod_eq_emod_of_nonneg (by omega)]
  by_cases h4 : y % 4 = 0
  · by_cases h100 : y % 100 = 0
    · refine .inr (.inl ⟨by omega, by omega, ?_⟩)
      rw [Bool.eq_iff_iff, decide_eq_true_iff, beq_iff_eq]; unfold Cal.lp; omega
    · refine .inl ⟨by omega, by omega, ?_⟩
      exact decide_eq_true (Or.inr ⟨h4, h100⟩)
  · refine .inr (.inr ⟨by omega, ?_⟩)
    rw [Bool.eq_iff_iff, decide_eq_true_iff, beq_iff_eq]; unfold Cal.lp; omega

theorem mlT_md (y m : Nat) (h1 : 1 ≤ m) (h2 : m ≤ 12) : (Cal.md y m : Int) = mlT.getD (m - 1) 0 + if m = 2 ∧ Cal.lp y then 1 else 0 := by
  have hy : Cal.yd y = if Cal.lp y then 366 else 365 := rfl
  match m, h1, h2 with
  | 1, _, _ => rfl
  | 2, _, _ =>
    unfold Cal.md
    rw [if_pos rfl, hy]
    by_cases h : Cal.lp y
    · rw [if_pos h, if_pos ⟨rfl, h⟩]; rfl
    · rw [if_neg h, if_neg (fun x => h x.2)]; rfl
  | 3, _, _ => rfl
  | 4, _, _ => rfl
  | 5, _, _ => rfl
  | 6, _, _ => rfl
  | 7, _, _ => rfl
  | 8, _, _ => rfl
  | 9, _, _ => rfl
  | 10, _, _ => rfl
  | 11, _, _ => rfl
  | 12, _, _ => rfl
  | n + 13, _, h => exact absurd h (by omega)

set_option maxHeartbeats 1000000 in
theorem monthLength_any (y m : Nat) (w : World) (h1 : 1 ≤ m) (h2 : m ≤ 12) (hD : CDoor w) : Calls Tryd.prog 39 #[.int .i64 y, .int .i64 m] w fun e w' => e = .returned (.int .i64 (Cal.md y m : Nat)) ∧ w' = w := by
  have e := mlT_md y m h1 h2
  have hc := hD.2 (m - 1) (by omega)
  have hb := Cal.md_pos y m
  obtain ⟨k, rfl⟩ : ∃ k, m = k + 1 := ⟨m - 1, by omega⟩
  rw [Nat.add_sub_cancel] at e hc
  obtain ⟨G, hG⟩ : ∃ G : Int, G = mlT.getD k 0 := ⟨_, rfl⟩
  rw [← hG] at e hc
  obtain ⟨R, hR⟩ : ∃ R, R = Cal.md y (k + 1) := ⟨_, rfl⟩
  rw [← hR] at e hb ⊢
  have cL := fun W => leap_any y W
  obtain ⟨z, hz⟩ : ∃ z, z = decide (Cal.lp y) := ⟨_, rfl⟩
  rw [← hz] at cL
  have CL := Lib.hid cL
  obtain ⟨x, hx⟩ : ∃ x : Int, x = ((k + 1 : Nat) : Int) := ⟨_, rfl⟩
  rw [← hx]
  have hx1 : wrap64 (x - 1) = (k : Int) := by unfold wrap64; omega
  have hk12 : (k : Int) < 12 := by omega
  by_cases hk : k + 1 = 2
  · obtain rfl : k = 1 := by omega
    obtain rfl : x = 2 := by omega
    clear hx hx1
    cases z
    · rw [if_neg (fun h => by have := of_decide_eq_false hz.symm; exact this h.2)] at e
      obtain rfl : (R : Int) = G := by omega
      clear e hb cL hz hG hR hk h1 h2 hD
      go_enter Tryd.func39, Tryd.ntmps39
      go_wp2_with fail
      refine (CL.out _).mono ?_
      rintro e w' ⟨rfl, rfl⟩
      go_wp2_with fail
      go_ret
      exact ⟨rfl, rfl⟩
    · rw [if_pos ⟨rfl, of_decide_eq_true hz.symm⟩] at e
      have hw : wrap64 (G + 1) = (R : Int) := by unfold wrap64; omega
      have HW := Lib.hid hw
      clear e hb cL hz hG hR hk h1 h2 hD hw
      go_enter Tryd.func39, Tryd.ntmps39
      go_wp2_with fail
      refine (CL.out _).mono ?_
      rintro e w' ⟨rfl, rfl⟩
      go_wp2_with fail
      rw [HW.out]
      go_ret
      exact ⟨rfl, rfl⟩
  · have hx2 : (x == 2) = false := beq_eq_false_iff_ne.2 (by omega)
    rw [if_neg (fun h => hk h.1)] at e
    obtain rfl : (R : Int) = G := by omega
    clear e hb cL hz hG hR hk h1 h2 hD hx
    go_enter Tryd.func39, Tryd.ntmps39
    go_wp2_with fail
    go_ret
    exact ⟨rfl, rfl⟩

set_option maxHeartbeats 2000000 in
theorem calWeekday_same (n : Int) (w : World) : Calls Tryd.prog 13 #[.int .i64 n] w fun e w' => e = .returned (.int .i64 (Cal.wk n)) ∧ w' = w := by
  have cKn := fun W => calKnown_any n W
  by_cases h : Cal.known n
  · rw [decide_eq_true h] at cKn
    have e1 : Cal.wk n = (n + 5) % 7 := if_pos h
    have h1 := h.1
    have h2 := h.2
    have hz : Cal.wk n = (n + 146097 + 5) % 7 := by rw [e1]; omega
    generalize Cal.wk n = z at *
    have CKn := Lib.hid cKn
    have HZ := Lib.hid hz
    clear cKn h e1 hz
    go_enter Tryd.func13, Tryd.ntmps13
    go_wp2_with fail
    refine (CKn.out _).mono ?_
    rintro e w' ⟨rfl, hw'⟩
    obtain rfl := hw'.symm
    go_wp2_with fail
    go_ret
    exact ⟨by rw [HZ.out]; rfl, rfl⟩
  · rw [decide_eq_false h] at cKn
    rw [show Cal.wk n = 0 from if_neg h]
    have CKn := Lib.hid cKn
    clear cKn h
    go_enter Tryd.func13, Tryd.ntmps13
    go_wp2_with fail
    refine (CKn.out _).mono ?_
    rintro e w' ⟨rfl, hw'⟩
    obtain rfl := hw'.symm
    go_wp2_with fail
    go_ret
    exact ⟨rfl, rfl⟩

set_option maxHeartbeats 1000000 in
/-- The day and the minute of a time. -/
theorem dayTime_any (n : Int) (w : World) (hn : M.I64 n) : Calls Tryd.prog 50 #[.int .i64 n] w fun e w' => e = .returned (.tuple #[.int .i64 (n / 1440), .int .i64 (n % 1440)]) ∧ w' = w := by
  unfold M.I64 at hn
  obtain ⟨q, hq⟩ : ∃ q, q = n.tdiv 1440 := ⟨_, rfl⟩
  obtain ⟨r, hr⟩ : ∃ r, r = n.tmod 1440 := ⟨_, rfl⟩
  have hmul := Int.mul_tdiv_add_tmod n 1440
  have hlo := Int.lt_tmod_of_pos n (show (0 : Int) < 1440 by decide)
  have hhi := Int.tmod_lt_of_pos n (show (0 : Int) < 1440 by decide)
  have hsg : 0 ≤ n → 0 ≤ n.tmod 1440 := fun h => Int.tmod_nonneg _ h
  rw [← hq, ← hr] at hmul
  rw [← hr] at hlo hhi hsg
  have e1 : ¬ r < 0 → n / 1440 = q ∧ n % 1440 = r := fun h => by omega
  have e2 : r < 0 → n / 1440 = q - 1 ∧ n % 1440 = r + 1440 := fun h => by omega
  obtain ⟨D, hD⟩ : ∃ D, D = n / 1440 := ⟨_, rfl⟩
  obtain ⟨R, hR⟩ : ∃ R, R = n % 1440 := ⟨_, rfl⟩
  rw [← hD, ← hR] at e1 e2 ⊢
  have hw1 : wrap64 q = q := by unfold wrap64; omega
  have hw3 : r < 0 → wrap64 (q - 1) = q - 1 := fun h => by unfold wrap64; omega
  have hw4 : r < 0 → wrap64 (r + 1440) = r + 1440 := fun h => by unfold wrap64; omega
  replace hq := hq.symm
  replace hr := hr.symm
  by_cases h : r < 0
  · obtain ⟨rfl, rfl⟩ := e2 h
    have hw3 := hw3 h
    have hw4 := hw4 h
    clear e1 e2 hD hR hmul hlo hhi hsg hn
    go_enter Tryd.func50, Tryd.ntmps50
    go_wp2_with fail
    go_ret2
    exact ⟨by show Ending.returned (.tuple #[.int .i64 (wrap64 (q - 1)), .int .i64 (wrap64 (r + 1440))]) = _; rw [hw3, hw4], rfl⟩
  · obtain ⟨rfl, rfl⟩ := e1 h
    clear e1 e2 hD hR hmul hlo hhi hsg hn hw3 hw4
    go_enter Tryd.func50, Tryd.ntmps50
    go_wp2_with fail
    go_ret2
    exact ⟨rfl, rfl⟩
end Go.Proofs.YtkenfgifhebnpaaDoor
