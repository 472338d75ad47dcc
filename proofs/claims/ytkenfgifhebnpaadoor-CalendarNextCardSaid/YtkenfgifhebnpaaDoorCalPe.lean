/- The contract of calendar.Day. -/
import Derived.Test.YtkenfgifhebnpaaDoorCalPd
namespace Go.Proofs.YtkenfgifhebnpaaDoor
open Go.RowKit
set_option linter.unusedVariables false
set_option maxRecDepth 100000

set_option maxHeartbeats 4000000 in
theorem calDay_any (y m d : Int) (w : World) (hy : M.I64 y) (hm : M.I64 m) (hd : M.I64 d) (hD : CDoor w) :
    Calls Tryd.prog 18 #[.int .i64 y, .int .i64 m, .int .i64 d] w fun e w' => e = .returned (.tuple #[.int .i64 (Cal.dayV y m d), .int .i64 (Cal.dayE y m d)]) ∧ Below w.heap.size w w' := by
  obtain ⟨V, hV⟩ : ∃ V, V = Cal.dayV y m d := ⟨_, rfl⟩
  obtain ⟨E, hE⟩ : ∃ E, E = Cal.dayE y m d := ⟨_, rfl⟩
  rw [← hV, ← hE]
  have hbad : ¬ Cal.okD y m d → V = 0 ∧ E = 5 := fun h => ⟨by rw [hV]; exact if_neg h, by rw [hE]; exact if_neg h⟩
  have hgood : Cal.okD y m d → V = -146097 + (Cal.yb y.toNat : Int) + (Cal.mb y.toNat m.toNat : Int) + d - 1 ∧ E = 0 := fun h => ⟨by rw [hV]; exact if_pos h, by rw [hE]; exact if_pos h⟩
  have HB := Lib.hid (And.intro hbad hgood)
  have HD := Lib.hid hD
  clear hbad hgood hV hE hy hm hd hD
  by_cases out : y < 1600 ∨ (¬ y < 1600 ∧ 2399 < y) ∨ (¬ y < 1600 ∧ ¬ 2399 < y ∧ m < 1) ∨ (¬ y < 1600 ∧ ¬ 2399 < y ∧ ¬ m < 1 ∧ 12 < m) ∨ (¬ y < 1600 ∧ ¬ 2399 < y ∧ ¬ m < 1 ∧ ¬ 12 < m ∧ d < 1)
  · obtain ⟨rfl, rfl⟩ := HB.out.1 (by
      intro h
      unfold Cal.okD at h
      omega)
    clear HB
    rcases out with h | ⟨h1, h⟩ | ⟨h1, h2, h⟩ | ⟨h1, h2, h3, h⟩ | ⟨h1, h2, h3, h4, h⟩
    all_goals
      go_enter Tryd.func18, Tryd.ntmps18
      go_wp2_with fail
      go_ret2
      exact ⟨rfl, Below.refl _ _⟩
  · obtain ⟨Y, rfl⟩ := Int.eq_ofNat_of_zero_le (show 0 ≤ y by omega)
    obtain ⟨M, rfl⟩ := Int.eq_ofNat_of_zero_le (show 0 ≤ m by omega)
    rw [Int.toNat_natCast, Int.toNat_natCast] at HB
    have h1 : ¬ (Y : Int) < 1600 := by omega
    have h2 : ¬ 2399 < (Y : Int) := by omega
    have h3 : ¬ (M : Int) < 1 := by omega
    have h4 : ¬ 12 < (M : Int) := by omega
    have h5 : ¬ d < 1 := by omega
    have n1 : ¬ Y < 1600 := by omega
    have n2 : ¬ 2399 < Y := by omega
    have n3 : ¬ M < 1 := by omega
    have n4 : ¬ 12 < M := by omega
    have cM := fun W => monthLength_any Y M W (by omega) (by omega)
    have hZ31 := (Cal.md_pos Y M).2
    obtain ⟨Z, hZ⟩ : ∃ Z, Z = Cal.md Y M := ⟨_, rfl⟩
    rw [← hZ] at cM hZ31
    have CM := Lib.hid cM
    by_cases hd : (Z : Int) < d
    · obtain ⟨rfl, rfl⟩ := HB.out.1 (by
        intro h
        have h := h.2.2.2.2.2
        rw [Int.toNat_natCast, Int.toNat_natCast] at h
        omega)
      clear HB out cM hZ hZ31
      go_enter Tryd.func18, Tryd.ntmps18
      go_wp2_with fail
      refine (CM.out _ HD.out).mono ?_
      rintro e w' ⟨rfl, hw'⟩
      obtain rfl := hw'.symm
      go_wp2_with fail
      go_ret2
      exact ⟨rfl, Below.refl _ _⟩
    · obtain ⟨hV, rfl⟩ := HB.out.2 ⟨by omega, by omega, by omega, by omega, by omega, by rw [Int.toNat_natCast, Int.toNat_natCast]; omega⟩
      have hyb := Cal.bY_le (Y - 1600) (by omega)
      have hyb : Cal.yb Y ≤ 292194 := hyb
      have cB := fun W => yearBegin_any Y W (by omega) (by omega)
      obtain ⟨b, hb⟩ : ∃ b : Int, b = -146097 + (Cal.yb Y : Int) := ⟨_, rfl⟩
      simp only [← hb] at cB
      have hb2 : -146097 ≤ b ∧ b ≤ 146097 := by omega
      have hw1 : wrap64 (wrap64 (b + d) - 1) = b + d - 1 := by unfold wrap64; omega
      have hV : V = b + d - 1 + (Cal.mb Y M : Int) := by rw [hV]; omega
      have HV := Lib.hid (And.intro hV (And.intro hw1 (And.intro (show 1600 ≤ Y ∧ Y ≤ 2399 ∧ 1 ≤ M ∧ M ≤ 12 by omega) (And.intro (show 1 ≤ d ∧ d ≤ 31 by omega) hb2))))
      have CB := Lib.hid cB
      clear HB out cM hZ hV hw1 hZ31 hyb cB hb hb2
      go_enter Tryd.func18, Tryd.ntmps18
      go_wp2_with fail
      refine (CM.out _ HD.out).mono ?_
      rintro e w' ⟨rfl, hw'⟩
      obtain rfl := hw'.symm
      clear hw' CM
      go_wp2_with fail
      refine (CB.out _).mono ?_
      rintro e w3 ⟨rfl, hb3⟩
      have B3 := Lib.hid hb3
      have D3 := Lib.hid (HD.out.below B3.out (Nat.le_refl _))
      clear h1 h2 h3 h4 h5 n1 n2 n3 n4 hd CB hb3
      go_wp2_with fail
      go_loopw [8, 9] (fun r k wr => ∃ u : Nat, 1 ≤ u ∧ u ≤ M ∧ r = .int .i64 (b + d - 1 + (Cal.mb Y u : Int)) ∧ k = .int .i64 (u : Int) ∧ w3 = wr) (fun _ k _ => M - (intOf k).toNat)
      case atStart => exact ⟨1, by omega, HV.out.2.2.1.2.2.1, by rw [Cal.mb_start, HV.out.2.1]; simp, rfl, rfl⟩
      case round =>
        obtain ⟨u, hv1, hv2, rfl, rfl, rfl⟩ := hrel
        have hmb : Cal.mb Y u ≤ 366 := by
          have h1 := Cal.mb_mono Y (i := u) (j := 13) (by have := HV.out.2.2.1; omega)
          have h2 : Cal.mb Y 13 = Cal.yd Y := Cal.bM_12 Y
          have h3 := Cal.yd_two Y
          omega
        by_cases hlt : u < M
        · have hli : (u : Int) < M := by omega
          have cL := fun W h => monthLength_any Y u W hv1 (by have := HV.out.2.2.1; omega) h
          have hb := Cal.mb_next Y hv1
          have hy2 := Cal.md_pos Y u
          obtain ⟨X, hX⟩ : ∃ X, X = Cal.md Y u := ⟨_, rfl⟩
          simp only [← hX] at cL
          rw [← hX] at hb hy2
          obtain ⟨r, hr⟩ : ∃ r : Int, r = b + d - 1 + (Cal.mb Y u : Int) := ⟨_, rfl⟩
          rw [← hr]
          have hw2 : wrap64 (r + (X : Int)) = b + d - 1 + (Cal.mb Y (u + 1) : Int) := by have := HV.out.2.2.2; unfold wrap64; omega
          have hw3 : wrap64 ((u : Int) + 1) = ((u + 1 : Nat) : Int) := by have := HV.out.2.2.1; unfold wrap64; omega
          have HN2 := Lib.hid (And.intro hw2 hw3)
          have CL := Lib.hid cL
          clear hmb hX hb cL hy2 hw2 hw3 hr
          go_wp2_with fail
          refine (CL.out _ D3.out).mono ?_
          rintro e w' ⟨rfl, hw'⟩
          obtain rfl := hw'.symm
          go_wp2_with fail
          rw [HN2.out.1, HN2.out.2]
          exact ⟨⟨u + 1, by omega, by omega, rfl, rfl, by first | rfl | trivial⟩, by simp only [intOf, Int.toNat_natCast]; omega⟩
        · obtain rfl : u = M := by omega
          obtain ⟨r, hr⟩ : ∃ r : Int, r = b + d - 1 + (Cal.mb Y u : Int) := ⟨_, rfl⟩
          rw [← hr]
          have hV : V = r := by rw [HV.out.1, hr]
          clear hmb hv1 hv2 hr
          subst hV
          go_wp2_with fail
          go_ret2
          exact ⟨rfl, B3.out⟩
end Go.Proofs.YtkenfgifhebnpaaDoor
