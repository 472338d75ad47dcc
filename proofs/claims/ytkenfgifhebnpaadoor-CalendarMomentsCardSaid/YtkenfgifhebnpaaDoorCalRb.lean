/- The contracts of the reference's Civil, Day, Weekday. -/
import Derived.Test.YtkenfgifhebnpaaDoorCalRa
namespace Go.Proofs.YtkenfgifhebnpaaDoor
open Go.RowKit
set_option linter.unusedVariables false
set_option maxRecDepth 100000

set_option maxHeartbeats 4000000 in
theorem refCivil_any (n : Int) (w : World) : Calls Tryd.prog 12 #[.int .i64 n] w fun e w' => e = .returned (.tuple #[.int .i64 (Cal.cy n), .int .i64 (Cal.cm n), .int .i64 (Cal.cd n)]) ∧ w' = w := by
  by_cases h : Cal.known n
  · have cKn := fun W => known_any n W
    rw [decide_eq_true h] at cKn
    have h1 := h.1
    have h2 := h.2
    obtain ⟨t, ht⟩ : ∃ t : Nat, (t : Int) = n + 146097 := ⟨(n + 146097).toNat, by omega⟩
    have hc := Cal.civ_spec (t := t) (by omega)
    have e1 : Cal.cy n = 1600 + (Cal.cK t : Int) := by unfold Cal.cy; rw [if_pos h, show (n + 146097).toNat = t by omega]
    have e2 : Cal.cm n = (Cal.cM t : Int) := by unfold Cal.cm; rw [if_pos h, show (n + 146097).toNat = t by omega]
    have e3 : Cal.cd n = (Cal.cD t : Int) := by unfold Cal.cd; rw [if_pos h, show (n + 146097).toNat = t by omega]
    rw [e1, e2, e3]
    generalize Cal.cK t = K at *
    generalize Cal.cM t = M at *
    generalize Cal.cD t = D at *
    have hy : Cal.yb (1600 + K) ≤ t ∧ t < Cal.yb (1600 + K + 1) := by
      rw [show 1600 + K + 1 = 1600 + (K + 1) by omega, Cal.yb_of, Cal.yb_of]; exact hc.year
    have hm : Cal.mb (1600 + K) M ≤ t - Cal.yb (1600 + K) ∧ t - Cal.yb (1600 + K) < Cal.mb (1600 + K) (M + 1) := by
      rw [Cal.yb_of]; exact hc.month
    have hte : t = Cal.yb (1600 + K) + Cal.mb (1600 + K) M + (D - 1) := by rw [Cal.yb_of]; exact hc.te
    have hkl := hc.kl
    obtain ⟨E, hE⟩ : ∃ E, E = 1600 + K := ⟨_, rfl⟩
    rw [← hE] at hy hm hte
    have heI : (1600 + (K : Int)) = (E : Int) := by omega
    rw [heI]
    have hE1 : 1600 ≤ E ∧ E < 2400 := by omega
    have hMM : 1 ≤ M ∧ M ≤ 12 ∧ 1 ≤ D := ⟨hc.m1, hc.m12, hc.d1⟩
    clear hkl hE heI
    have hw : wrap64 (n + 146097) = t := by unfold wrap64; omega
    have ht2 : t < 292194 := by omega
    have HW := Lib.hid hw
    have HC := Lib.hid (And.intro hE1 (And.intro hMM hte))
    have HY := Lib.hid (And.intro hy (And.intro hm ht2))
    have CKn := Lib.hid cKn
    clear cKn h h1 h2 ht hc e1 e2 e3 hy hm ht2 hE1 hMM hte
    go_enter Tryd.func12, Tryd.ntmps12
    go_wp2_with fail
    refine (CKn.out _).mono ?_
    rintro e w' ⟨rfl, hw'⟩
    obtain rfl := hw'.symm
    go_wp2_with fail
    clear hw hw' CKn
    go_loopw [5, 6] (fun l y wr => ∃ v : Nat, 1600 ≤ v ∧ v ≤ E ∧ l = .int .i64 ((t - Cal.yb v : Nat) : Int) ∧ y = .int .i64 (v : Int) ∧ w = wr) (fun _ y _ => E - (intOf y).toNat)
    case atStart => exact ⟨1600, by omega, HC.out.1.1, by rw [HW.out]; rfl, rfl, rfl⟩
    case round =>
      obtain ⟨v, hv1, hv2, rfl, rfl, rfl⟩ := hrel
      have cY := fun W => yearDays_any v W
      have hb := Cal.yb_next hv1
      have hy2 := Cal.yd_two v
      obtain ⟨L, hL⟩ : ∃ L, L = t - Cal.yb v := ⟨_, rfl⟩
      obtain ⟨Y, hY⟩ : ∃ Y, Y = Cal.yd v := ⟨_, rfl⟩
      rw [← hY] at cY hb hy2
      rw [← hL]
      have CY := Lib.hid cY
      by_cases hlt : v < E
      · have hm1 := Cal.yb_mono (i := v + 1) (j := E) (by omega)
        have hle : Y ≤ L := by have := HY.out.1.1; omega
        have hli : (Y : Int) ≤ L := by omega
        have hnext : L - Y = t - Cal.yb (v + 1) := by omega
        have hL3 : L < 292194 := by have := HY.out.2.2; omega
        have hw2 : wrap64 ((L : Int) - Y) = ((L - Y : Nat) : Int) := by unfold wrap64; omega
        have hw3 : wrap64 ((v : Int) + 1) = ((v + 1 : Nat) : Int) := by have := HC.out.1.2; unfold wrap64; omega
        rw [hnext] at hw2
        have HN := Lib.hid (And.intro hw2 hw3)
        clear hm1 hY hL hb cY hy2 hnext hL3 hw2 hw3
        go_wp2_with fail
        refine (CY.out _).mono ?_
        rintro e w' ⟨rfl, hw'⟩
        obtain rfl := hw'.symm
        go_wp2_with fail
        refine (CY.out _).mono ?_
        rintro e w' ⟨rfl, hw'⟩
        obtain rfl := hw'.symm
        go_wp2_with fail
        rw [HN.out.1, HN.out.2]
        exact ⟨⟨v + 1, by omega, by omega, rfl, rfl, by first | rfl | trivial⟩, by simp only [intOf, Int.toNat_natCast]; omega⟩
      · obtain rfl : v = E := by omega
        have hle : L < Y := by have := HY.out.1; omega
        have hli : (L : Int) < Y := by omega
        have HL := Lib.hid hL
        clear hb hY hL cY hy2 hv1 hv2 hlt
        go_wp2_with fail
        refine (CY.out _).mono ?_
        rintro e w' ⟨rfl, hw'⟩
        obtain rfl := hw'.symm
        go_wp2_with fail
        rw [show decide (Y ≤ L) = false from decide_eq_false (by omega)]
        clear hw' hli hle CY
        go_loopw [5, 7] (fun l m wr => ∃ u : Nat, 1 ≤ u ∧ u ≤ M ∧ l = .int .i64 ((L - Cal.mb v u : Nat) : Int) ∧ m = .int .i64 (u : Int) ∧ w = wr) (fun _ m _ => M - (intOf m).toNat)
        case atStart => exact ⟨1, by omega, HC.out.2.1.1, rfl, rfl, rfl⟩
        case round =>
          obtain ⟨u, hv1, hv2, rfl, rfl, rfl⟩ := hrel
          have cY := fun W => monthDays_any v u W
          have hb := Cal.mb_next v hv1
          have hy2 := Cal.md_pos v u
          have hL3 : L < 292194 := by have := HL.out; have := HY.out.2.2; omega
          have hm := HY.out.2.1
          rw [← HL.out] at hm
          obtain ⟨G, hG⟩ : ∃ G, G = L - Cal.mb v u := ⟨_, rfl⟩
          obtain ⟨Z, hZ⟩ : ∃ Z, Z = Cal.md v u := ⟨_, rfl⟩
          rw [← hZ] at cY hb hy2
          rw [← hG]
          have CY := Lib.hid cY
          by_cases hlt : u < M
          · have hm1 := Cal.mb_mono v (i := u + 1) (j := M) (by omega)
            have hle : Z ≤ G := by omega
            have hli : (Z : Int) ≤ G := by omega
            have hnext : G - Z = L - Cal.mb v (u + 1) := by omega
            have hw2 : wrap64 ((G : Int) - Z) = ((G - Z : Nat) : Int) := by unfold wrap64; omega
            have hw3 : wrap64 ((u : Int) + 1) = ((u + 1 : Nat) : Int) := by have := HC.out.2.1; unfold wrap64; omega
            rw [hnext] at hw2
            have HN := Lib.hid (And.intro hw2 hw3)
            clear hm1 hZ hG hb cY hy2 hnext hL3 hw2 hw3 hm
            go_wp2_with fail
            refine (CY.out _).mono ?_
            rintro e w' ⟨rfl, hw'⟩
            obtain rfl := hw'.symm
            go_wp2_with fail
            refine (CY.out _).mono ?_
            rintro e w' ⟨rfl, hw'⟩
            obtain rfl := hw'.symm
            go_wp2_with fail
            rw [HN.out.1, HN.out.2]
            exact ⟨⟨u + 1, by omega, by omega, rfl, rfl, by first | rfl | trivial⟩, by simp only [intOf, Int.toNat_natCast]; omega⟩
          · obtain rfl : u = M := by omega
            have hle : G < Z := by omega
            have hli : (G : Int) < Z := by omega
            have hw4 : wrap64 ((G : Int) + 1) = (D : Int) := by
              have h1 := HC.out.2.2
              have h2 := HL.out
              have h3 := HC.out.2.1.2.2
              have h4 := HY.out.1.1
              unfold wrap64; omega
            have HD := Lib.hid hw4
            clear hb hZ hG cY hy2 hL3 hm hlt hv1 hv2 hw4
            go_wp2_with fail
            refine (CY.out _).mono ?_
            rintro e w' ⟨rfl, hw'⟩
            obtain rfl := hw'.symm
            go_wp2_with fail
            rw [HD.out]
            go_ret3
            exact ⟨rfl, rfl⟩
  · have cKn := fun W => known_any n W
    rw [decide_eq_false h] at cKn
    have e1 : Cal.cy n = 0 := if_neg h
    have e2 : Cal.cm n = 0 := if_neg h
    have e3 : Cal.cd n = 0 := if_neg h
    rw [e1, e2, e3]
    have CKn := Lib.hid cKn
    clear cKn h e1 e2 e3
    go_enter Tryd.func12, Tryd.ntmps12
    go_wp2_with fail
    refine (CKn.out _).mono ?_
    rintro e w' ⟨rfl, hw'⟩
    obtain rfl := hw'.symm
    go_wp2_with fail
    go_ret3
    exact ⟨rfl, rfl⟩
end Go.Proofs.YtkenfgifhebnpaaDoor
