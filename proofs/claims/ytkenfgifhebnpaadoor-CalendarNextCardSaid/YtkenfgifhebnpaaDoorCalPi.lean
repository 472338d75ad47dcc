/- The contracts of calendar's valid, summer and Local. -/
import Derived.Test.YtkenfgifhebnpaaDoorCalPc
import Derived.Test.YtkenfgifhebnpaaDoorCalRi
namespace Go.Proofs.YtkenfgifhebnpaaDoor
open Go.RowKit
set_option linter.unusedVariables false
set_option maxRecDepth 100000

set_option maxHeartbeats 4000000 in
theorem valid_any (o s f t : Int) (w : World) :
    Calls Tryd.prog 49 #[.agg #[.int .i64 o, .int .i64 s, .int .i64 f, .int .i64 t]] w fun e w' => e = .returned (.bool (decide (proper o s f t))) ∧ Below w.heap.size w w' := by
  obtain ⟨r, hr⟩ : ∃ r, r = decide (proper o s f t) := ⟨_, rfl⟩
  rw [← hr]
  by_cases out : (-900 ≤ o ∧ o ≤ 900 ∧ 0 ≤ s ∧ s ≤ 120 ∧ 1 ≤ f ∧ f ≤ t ∧ t ≤ 367)
  · have hf : r = true := by rw [hr]; apply decide_eq_true; unfold proper; omega
    clear hr
    subst hf
    obtain ⟨h1, h2, h3, h4, h5, h6, h7⟩ := out
    go_enter Tryd.func49, Tryd.ntmps49
    go_wp2_with fail
    go_ret
    exact ⟨rfl, (Below.refl _ _).alloc (Nat.le_refl _) _⟩
  · have hf : r = false := by rw [hr]; apply decide_eq_false; unfold proper; omega
    clear hr
    subst hf
    by_cases h1 : -900 ≤ o
    · by_cases h2 : o ≤ 900
      · by_cases h3 : 0 ≤ s
        · by_cases h4 : s ≤ 120
          · by_cases h5 : 1 ≤ f
            · by_cases h6 : f ≤ t
              · have h7 : ¬ t ≤ 367 := fun h => out ⟨h1, h2, h3, h4, h5, h6, h⟩
                clear out
                go_enter Tryd.func49, Tryd.ntmps49
                go_wp2_with fail
                go_ret
                exact ⟨rfl, (Below.refl _ _).alloc (Nat.le_refl _) _⟩
              · clear out
                go_enter Tryd.func49, Tryd.ntmps49
                go_wp2_with fail
                go_ret
                exact ⟨rfl, (Below.refl _ _).alloc (Nat.le_refl _) _⟩
            · clear out
              go_enter Tryd.func49, Tryd.ntmps49
              go_wp2_with fail
              go_ret
              exact ⟨rfl, (Below.refl _ _).alloc (Nat.le_refl _) _⟩
          · clear out
            go_enter Tryd.func49, Tryd.ntmps49
            go_wp2_with fail
            go_ret
            exact ⟨rfl, (Below.refl _ _).alloc (Nat.le_refl _) _⟩
        · clear out
          go_enter Tryd.func49, Tryd.ntmps49
          go_wp2_with fail
          go_ret
          exact ⟨rfl, (Below.refl _ _).alloc (Nat.le_refl _) _⟩
      · clear out
        go_enter Tryd.func49, Tryd.ntmps49
        go_wp2_with fail
        go_ret
        exact ⟨rfl, (Below.refl _ _).alloc (Nat.le_refl _) _⟩
    · clear out
      go_enter Tryd.func49, Tryd.ntmps49
      go_wp2_with fail
      go_ret
      exact ⟨rfl, (Below.refl _ _).alloc (Nat.le_refl _) _⟩

/-- Whether the day has summer time. -/
noncomputable def summ (d f t : Int) : Prop := f ≤ d - Cal.dayV (Cal.cy d) 1 1 + 1 ∧ d - Cal.dayV (Cal.cy d) 1 1 + 1 ≤ t - 1
noncomputable instance (d f t : Int) : Decidable (summ d f t) := by unfold summ; exact inferInstance
theorem january {d : Int} (h : Cal.known d) : ∃ Y : Nat, Cal.cy d = (Y : Int) ∧ 1600 ≤ Y ∧ Y ≤ 2400 ∧ Cal.dayV (Cal.cy d) 1 1 = -146097 + (Cal.yb Y : Int) ∧ Cal.yb Y ≤ 292194 := by
  have hok := (Cal.day_back h).1
  unfold Cal.okD at hok
  obtain ⟨Y, hY⟩ := Int.eq_ofNat_of_zero_le (show 0 ≤ Cal.cy d by omega)
  rw [hY] at hok ⊢
  rw [Int.toNat_natCast] at hok
  have hok1 : Cal.okD (Y : Int) 1 1 := by
    have := Cal.md_pos (Y : Int).toNat (1 : Int).toNat
    unfold Cal.okD; omega
  have e : Cal.dayV (Y : Int) 1 1 = -146097 + (Cal.yb (Y : Int).toNat : Int) + (Cal.mb (Y : Int).toNat (1 : Int).toNat : Int) + 1 - 1 := if_pos hok1
  rw [Int.toNat_natCast] at e
  have e2 : Cal.mb Y (1 : Int).toNat = 0 := rfl
  rw [e2] at e
  have hyb : Cal.yb Y ≤ 292194 := Cal.bY_le (Y - 1600) (by omega)
  exact ⟨Y, rfl, by omega, by omega, by omega, hyb⟩

set_option maxHeartbeats 4000000 in
theorem summer_any (d o s f t : Int) (w : World) (hd : Cal.known d) (ht : t ≤ 367) :
    Calls Tryd.prog 51 #[.int .i64 d, .agg #[.int .i64 o, .int .i64 s, .int .i64 f, .int .i64 t]] w fun e w' => e = .returned (.bool (decide (summ d f t))) ∧ Below w.heap.size w w' := by
  obtain ⟨Y, hY, h1, h2, hj, hyb⟩ := january hd
  have cY := fun W => yearOf_any d W hd
  have cB := fun W => yearBegin_any Y W h1 h2
  simp only [hY] at cY
  obtain ⟨r, hr⟩ : ∃ r, r = decide (summ d f t) := ⟨_, rfl⟩
  rw [← hr]
  obtain ⟨j, hjj⟩ : ∃ j, j = Cal.dayV (Cal.cy d) 1 1 := ⟨_, rfl⟩
  have hs : summ d f t ↔ f ≤ d - j + 1 ∧ d - j + 1 ≤ t - 1 := by unfold summ; rw [← hjj]
  rw [← hjj] at hj
  rw [← hj] at cB
  unfold Cal.known at hd
  have hw : wrap64 (wrap64 (d - j) + 1) = d - j + 1 := by unfold wrap64; omega
  obtain ⟨k, hk⟩ : ∃ k, k = d - j + 1 := ⟨_, rfl⟩
  rw [← hk] at hs hw
  have CY := Lib.hid cY
  have CB := Lib.hid cB
  have HW := Lib.hid hw
  have HR := Lib.hid (And.intro hr hs)
  have hk0 : Blk (w.alloc (.cells #[.int .i64 o, .int .i64 s, .int .i64 f, .int .i64 t] 39)) w.heap.size (zc o s f t) 39 := Blk.new w _ _
  have hb0 : Below w.heap.size w (w.alloc (.cells #[.int .i64 o, .int .i64 s, .int .i64 f, .int .i64 t] 39)) := (Below.refl _ _).alloc (Nat.le_refl _) _
  have hsz : w.heap.size ≤ (w.alloc (.cells #[.int .i64 o, .int .i64 s, .int .i64 f, .int .i64 t] 39)).heap.size := by simp
  have K0 := Lib.hid (And.intro hk0 (And.intro hb0 hsz))
  clear hk0 hb0 hsz cY cB hw hs hr hk hj hjj hY h1 h2 hyb hd
  go_enter Tryd.func51, Tryd.ntmps51
  go_wp2_with fail
  refine (CY.out _).mono ?_
  rintro e w1 ⟨rfl, hb1⟩
  have HB1 := Lib.hid (hb1.mono (Nat.le_refl _))
  clear hb1
  go_wp2_with fail
  refine (CB.out _).mono ?_
  rintro e w2 ⟨rfl, hb2⟩
  have hb := HB1.out.trans (hb2.mono HB1.out.size)
  have hz := K0.out.1.below hb K0.out.1.lt
  have z2 := hz.cell 2 _ rfl
  have z3 := hz.cell 3 _ rfl
  have HB := Lib.hid (K0.out.2.1.trans (hb.mono K0.out.2.2))
  clear hb hb2 hz HB1 K0 CY CB
  obtain ⟨x, hx⟩ : ∃ x, x = wrap64 (wrap64 (d - j) + 1) := ⟨_, rfl⟩
  have hxk : x = k := by rw [hx]; exact HW.out
  by_cases xa : f ≤ k
  · have ya : f ≤ wrap64 (wrap64 (d - j) + 1) := by rw [HW.out]; exact xa
    by_cases xb : k < t
    · have yb : wrap64 (wrap64 (d - j) + 1) < t := by rw [HW.out]; exact xb
      have hf : r = true := by rw [HR.out.1]; exact decide_eq_true (HR.out.2.2 ⟨xa, by omega⟩)
      subst hf
      clear xa xb hx hxk HW HR
      go_wp2_with fail
      go_ret
      exact ⟨rfl, HB.out⟩
    · have yb : ¬ wrap64 (wrap64 (d - j) + 1) < t := by rw [HW.out]; exact xb
      have hf : r = false := by rw [HR.out.1]; exact decide_eq_false (fun h => xb (by have := (HR.out.2.1 h).2; omega))
      subst hf
      clear xa xb hx hxk HW HR
      go_wp2_with fail
      go_ret
      exact ⟨by show Ending.returned (.bool (decide (wrap64 (wrap64 (d - j) + 1) < t))) = _; rw [decide_eq_false (Int.not_lt.2 yb)], HB.out⟩
  · have ya : ¬ f ≤ wrap64 (wrap64 (d - j) + 1) := by rw [HW.out]; exact xa
    have hf : r = false := by rw [HR.out.1]; exact decide_eq_false (fun h => xa (HR.out.2.1 h).1)
    subst hf
    clear xa hx hxk HW HR
    go_wp2_with fail
    go_ret
    exact ⟨rfl, HB.out⟩
end Go.Proofs.YtkenfgifhebnpaaDoor
