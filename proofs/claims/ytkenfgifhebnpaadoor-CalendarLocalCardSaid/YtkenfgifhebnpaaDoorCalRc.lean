/- The contracts of the reference's Day and Weekday. -/
import Derived.Test.YtkenfgifhebnpaaDoorCalRa
namespace Go.Proofs.YtkenfgifhebnpaaDoor
open Go.RowKit
set_option linter.unusedVariables false
set_option maxRecDepth 100000

set_option maxHeartbeats 2000000 in
theorem refWeekday_any (n : Int) (w : World) : Calls Tryd.prog 14 #[.int .i64 n] w fun e w' => e = .returned (.int .i64 (Cal.wk n)) ∧ w' = w := by
  have cKn := fun W => known_any n W
  by_cases h : Cal.known n
  · rw [decide_eq_true h] at cKn
    have e1 : Cal.wk n = (n + 5) % 7 := if_pos h
    have h1 := h.1
    have h2 := h.2
    have hw : wrap64 (n + 5) = n + 5 := by unfold wrap64; omega
    have cM := fun W => modulo_any (n + 5) 7 W (by omega) (by omega)
    rw [← e1] at cM
    generalize Cal.wk n = z at *
    obtain ⟨x, hx⟩ : ∃ x, x = n + 5 := ⟨_, rfl⟩
    rw [← hx] at cM
    have cM : ∀ W, Calls Tryd.prog 43 #[.int .i64 (wrap64 (n + 5)), .int .i64 7] W fun e w' => e = .returned (.int .i64 z) ∧ w' = W := fun W => by rw [hw, ← hx]; exact cM W
    have CM := Lib.hid cM
    have CKn := Lib.hid cKn
    clear cM cKn h e1 h1 h2 hw hx
    go_enter Tryd.func14, Tryd.ntmps14
    go_wp2_with fail
    refine (CKn.out _).mono ?_
    rintro e w' ⟨rfl, hw'⟩
    obtain rfl := hw'.symm
    go_wp2_with fail
    refine (CM.out _).mono ?_
    rintro e w' ⟨rfl, hw'⟩
    obtain rfl := hw'.symm
    go_wp2_with fail
    go_ret
    exact ⟨rfl, rfl⟩
  · rw [decide_eq_false h] at cKn
    rw [show Cal.wk n = 0 from if_neg h]
    have CKn := Lib.hid cKn
    clear cKn h
    go_enter Tryd.func14, Tryd.ntmps14
    go_wp2_with fail
    refine (CKn.out _).mono ?_
    rintro e w' ⟨rfl, hw'⟩
    obtain rfl := hw'.symm
    go_wp2_with fail
    go_ret
    exact ⟨rfl, rfl⟩

set_option maxHeartbeats 4000000 in
theorem refDay_any (y m d : Int) (w : World) : Calls Tryd.prog 19 #[.int .i64 y, .int .i64 m, .int .i64 d] w fun e w' => e = .returned (.tuple #[.int .i64 (Cal.dayV y m d), .int .i64 (Cal.dayE y m d)]) ∧ w' = w := by
  obtain ⟨V, hV⟩ : ∃ V, V = Cal.dayV y m d := ⟨_, rfl⟩
  obtain ⟨E, hE⟩ : ∃ E, E = Cal.dayE y m d := ⟨_, rfl⟩
  rw [← hV, ← hE]
  have hbad : ¬ Cal.okD y m d → V = 0 ∧ E = 5 := fun h => ⟨by rw [hV]; exact if_neg h, by rw [hE]; exact if_neg h⟩
  have hgood : Cal.okD y m d → V = -146097 + (Cal.yb y.toNat : Int) + (Cal.mb y.toNat m.toNat : Int) + d - 1 ∧ E = 0 := fun h => ⟨by rw [hV]; exact if_pos h, by rw [hE]; exact if_pos h⟩
  have HB := Lib.hid (And.intro hbad hgood)
  clear hbad hgood hV hE
  by_cases out : y < 1600 ∨ (¬ y < 1600 ∧ 2399 < y) ∨ (¬ y < 1600 ∧ ¬ 2399 < y ∧ m < 1) ∨ (¬ y < 1600 ∧ ¬ 2399 < y ∧ ¬ m < 1 ∧ 12 < m) ∨ (¬ y < 1600 ∧ ¬ 2399 < y ∧ ¬ m < 1 ∧ ¬ 12 < m ∧ d < 1) ∨ (¬ y < 1600 ∧ ¬ 2399 < y ∧ ¬ m < 1 ∧ ¬ 12 < m ∧ ¬ d < 1 ∧ 31 < d)
  · obtain ⟨rfl, rfl⟩ := HB.out.1 (by
      intro h
      have hm := (Cal.md_pos y.toNat m.toNat).2
      unfold Cal.okD at h
      omega)
    clear HB
    rcases out with h | ⟨h1, h⟩ | ⟨h1, h2, h⟩ | ⟨h1, h2, h3, h⟩ | ⟨h1, h2, h3, h4, h⟩ | ⟨h1, h2, h3, h4, h5, h⟩
    all_goals
      go_enter Tryd.func19, Tryd.ntmps19
      go_wp2_with fail
      go_ret2
      exact ⟨rfl, rfl⟩
  · obtain ⟨Y, rfl⟩ := Int.eq_ofNat_of_zero_le (show 0 ≤ y by omega)
    obtain ⟨M, rfl⟩ := Int.eq_ofNat_of_zero_le (show 0 ≤ m by omega)
    rw [Int.toNat_natCast, Int.toNat_natCast] at HB
    have h1 : ¬ (Y : Int) < 1600 := by omega
    have h2 : ¬ 2399 < (Y : Int) := by omega
    have h3 : ¬ (M : Int) < 1 := by omega
    have h4 : ¬ 12 < (M : Int) := by omega
    have h5 : ¬ d < 1 := by omega
    have h6 : ¬ 31 < d := by omega
    have n1 : ¬ Y < 1600 := by omega
    have n2 : ¬ 2399 < Y := by omega
    have n3 : ¬ M < 1 := by omega
    have n4 : ¬ 12 < M := by omega
    have cM := fun W => monthDays_any Y M W
    obtain ⟨Z, hZ⟩ : ∃ Z, Z = Cal.md Y M := ⟨_, rfl⟩
    rw [← hZ] at cM
    have CM := Lib.hid cM
    by_cases hd : (Z : Int) < d
    · obtain ⟨rfl, rfl⟩ := HB.out.1 (by
        intro h
        have h := h.2.2.2.2.2
        rw [Int.toNat_natCast, Int.toNat_natCast] at h
        omega)
      clear HB out cM hZ
      go_enter Tryd.func19, Tryd.ntmps19
      go_wp2_with fail
      refine (CM.out _).mono ?_
      rintro e w' ⟨rfl, hw'⟩
      obtain rfl := hw'.symm
      go_wp2_with fail
      go_ret2
      exact ⟨rfl, rfl⟩
    · obtain ⟨hV, rfl⟩ := HB.out.2 ⟨by omega, by omega, by omega, by omega, by omega, by rw [Int.toNat_natCast, Int.toNat_natCast]; omega⟩
      have hw1 : wrap64 (wrap64 (-146097 + d) - 1) = -146097 + d - 1 := by unfold wrap64; omega
      have HV := Lib.hid (And.intro hV (And.intro hw1 (And.intro (show 1600 ≤ Y ∧ Y ≤ 2399 ∧ 1 ≤ M ∧ M ≤ 12 by omega) (show 1 ≤ d ∧ d ≤ 31 by omega))))
      clear HB out cM hZ hV hw1
      go_enter Tryd.func19, Tryd.ntmps19
      go_wp2_with fail
      refine (CM.out _).mono ?_
      rintro e w' ⟨rfl, hw'⟩
      obtain rfl := hw'.symm
      go_wp2_with fail
      clear h1 h2 h3 h4 h5 h6 n1 n2 n3 n4 hd hw' CM
      go_loopw [8, 9] (fun n k wr => ∃ v : Nat, 1600 ≤ v ∧ v ≤ Y ∧ n = .int .i64 (-146097 + d - 1 + (Cal.yb v : Int)) ∧ k = .int .i64 (v : Int) ∧ w = wr) (fun _ k _ => Y - (intOf k).toNat)
      case atStart => exact ⟨1600, by omega, HV.out.2.2.1.1, by rw [Cal.yb_start]; simp, rfl, rfl⟩
      case round =>
        obtain ⟨v, hv1, hv2, rfl, rfl, rfl⟩ := hrel
        have hyb := Cal.bY_le (v - 1600) (by have := HV.out.2.2.1; omega)
        have hyb : Cal.yb v ≤ 292194 := hyb
        by_cases hlt : v < Y
        · have hli : (v : Int) < Y := by omega
          have cY := fun W => yearDays_any v W
          have hb := Cal.yb_next hv1
          have hy2 := Cal.yd_two v
          obtain ⟨X, hX⟩ : ∃ X, X = Cal.yd v := ⟨_, rfl⟩
          rw [← hX] at cY hb hy2
          obtain ⟨n, hn⟩ : ∃ n : Int, n = -146097 + d - 1 + (Cal.yb v : Int) := ⟨_, rfl⟩
          rw [← hn]
          have hw2 : wrap64 (n + (X : Int)) = -146097 + d - 1 + (Cal.yb (v + 1) : Int) := by have := HV.out.2.2.2; unfold wrap64; omega
          have hw3 : wrap64 ((v : Int) + 1) = ((v + 1 : Nat) : Int) := by have := HV.out.2.2.1; unfold wrap64; omega
          have HN := Lib.hid (And.intro hw2 hw3)
          have CY := Lib.hid cY
          clear hyb hX hb cY hy2 hw2 hw3 hn
          go_wp2_with fail
          refine (CY.out _).mono ?_
          rintro e w' ⟨rfl, hw'⟩
          obtain rfl := hw'.symm
          go_wp2_with fail
          rw [HN.out.1, HN.out.2]
          exact ⟨⟨v + 1, by omega, by omega, rfl, rfl, by first | rfl | trivial⟩, by simp only [intOf, Int.toNat_natCast]; omega⟩
        · obtain rfl : v = Y := by omega
          have hyb1 := hyb
          obtain ⟨n, hn⟩ : ∃ n : Int, n = -146097 + d - 1 + (Cal.yb v : Int) := ⟨_, rfl⟩
          rw [← hn]
          have HN := Lib.hid (And.intro hn hyb1)
          clear hyb hyb1 hv1 hv2 hn
          go_wp2_with fail
          clear hlt
          go_loopw [8, 10] (fun r k wr => ∃ u : Nat, 1 ≤ u ∧ u ≤ M ∧ r = .int .i64 (n + (Cal.mb v u : Int)) ∧ k = .int .i64 (u : Int) ∧ w = wr) (fun _ k _ => M - (intOf k).toNat)
          case atStart => exact ⟨1, by omega, HV.out.2.2.1.2.2.1, by rw [Cal.mb_start]; simp, rfl, rfl⟩
          case round =>
            obtain ⟨u, hv1, hv2, rfl, rfl, rfl⟩ := hrel
            have hmb : Cal.mb v u ≤ 366 := by
              have h1 := Cal.mb_mono v (i := u) (j := 13) (by have := HV.out.2.2.1; omega)
              have h2 : Cal.mb v 13 = Cal.yd v := Cal.bM_12 v
              have h3 := Cal.yd_two v
              omega
            by_cases hlt : u < M
            · have hli : (u : Int) < M := by omega
              have cY := fun W => monthDays_any v u W
              have hb := Cal.mb_next v hv1
              have hy2 := Cal.md_pos v u
              obtain ⟨X, hX⟩ : ∃ X, X = Cal.md v u := ⟨_, rfl⟩
              rw [← hX] at cY hb hy2
              obtain ⟨r, hr⟩ : ∃ r : Int, r = n + (Cal.mb v u : Int) := ⟨_, rfl⟩
              rw [← hr]
              have hw2 : wrap64 (r + (X : Int)) = n + (Cal.mb v (u + 1) : Int) := by have := HV.out.2.2.2; have := HN.out; unfold wrap64; omega
              have hw3 : wrap64 ((u : Int) + 1) = ((u + 1 : Nat) : Int) := by have := HV.out.2.2.1; unfold wrap64; omega
              have HN2 := Lib.hid (And.intro hw2 hw3)
              have CY := Lib.hid cY
              clear hmb hX hb cY hy2 hw2 hw3 hr
              go_wp2_with fail
              refine (CY.out _).mono ?_
              rintro e w' ⟨rfl, hw'⟩
              obtain rfl := hw'.symm
              go_wp2_with fail
              rw [HN2.out.1, HN2.out.2]
              exact ⟨⟨u + 1, by omega, by omega, rfl, rfl, by first | rfl | trivial⟩, by simp only [intOf, Int.toNat_natCast]; omega⟩
            · obtain rfl : u = M := by omega
              obtain ⟨r, hr⟩ : ∃ r : Int, r = n + (Cal.mb v u : Int) := ⟨_, rfl⟩
              rw [← hr]
              have hV : V = r := by rw [HV.out.1, hr, HN.out.1]; omega
              clear hmb hv1 hv2 hr
              subst hV
              go_wp2_with fail
              go_ret2
              exact ⟨rfl, rfl⟩
end Go.Proofs.YtkenfgifhebnpaaDoor
