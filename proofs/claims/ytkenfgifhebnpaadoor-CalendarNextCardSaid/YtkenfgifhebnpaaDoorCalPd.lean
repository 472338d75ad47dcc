/- The contracts of calendar.Civil and calendar.Day. -/
import Derived.Test.YtkenfgifhebnpaaDoorCalPc
namespace Go.Proofs.YtkenfgifhebnpaaDoor
open Go.RowKit
set_option linter.unusedVariables false
set_option maxRecDepth 100000

set_option maxHeartbeats 4000000 in
theorem calCivil_any (n : Int) (w : World) (hn : M.I64 n) (hD : CDoor w) :
    Calls Tryd.prog 11 #[.int .i64 n] w fun e w' => e = .returned (.tuple #[.int .i64 (Cal.cy n), .int .i64 (Cal.cm n), .int .i64 (Cal.cd n)]) ∧ Below w.heap.size w w' := by
  have cKn := fun W => calKnown_any n W
  by_cases h : Cal.known n
  · rw [decide_eq_true h] at cKn
    have hc := Cal.civ_spec (t := (n + 146097).toNat) (by unfold Cal.known at h; omega)
    have hy := hc.year
    have hmo := hc.month
    have hm12 := hc.m12
    have hm1 := hc.m1
    have hd1 := hc.d1
    have hdm := hc.dm
    have hte := hc.te
    have hk := hc.kl
    have cY := fun W => yearOf_any n W h
    have e1 : Cal.cy n = ((1600 + Cal.cK (n + 146097).toNat : Nat) : Int) := by rw [show Cal.cy n = 1600 + (Cal.cK (n + 146097).toNat : Int) from if_pos h]; omega
    have e2 : Cal.cm n = (Cal.cM (n + 146097).toNat : Int) := if_pos h
    have e3 : Cal.cd n = (Cal.cD (n + 146097).toNat : Int) := if_pos h
    simp only [e1] at cY
    rw [e1, e2, e3]
    obtain ⟨t, ht⟩ : ∃ t, t = (n + 146097).toNat := ⟨_, rfl⟩
    rw [← ht] at hy hmo hm12 hm1 hd1 hdm hte hk cY ⊢
    have hnt : n = -146097 + (t : Int) := by unfold Cal.known at h; omega
    obtain ⟨K, hK⟩ : ∃ K, K = Cal.cK t := ⟨_, rfl⟩
    obtain ⟨M, hM⟩ : ∃ K, K = Cal.cM t := ⟨_, rfl⟩
    obtain ⟨D, hDD⟩ : ∃ K, K = Cal.cD t := ⟨_, rfl⟩
    rw [← hK] at hy hmo hdm hte hk cY ⊢
    rw [← hM] at hmo hm12 hm1 hdm hte ⊢
    rw [← hDD] at hd1 hdm hte ⊢
    obtain ⟨Y, hY⟩ : ∃ Y, Y = 1600 + K := ⟨_, rfl⟩
    have cB := fun W => yearBegin_any Y W (by omega) (by omega)
    rw [show Cal.yb Y = Cal.bY K by rw [hY, Cal.yb_of]] at cB
    rw [← hY] at hmo hdm hte cY ⊢
    obtain ⟨P, hP⟩ : ∃ P, P = t - Cal.bY K := ⟨_, rfl⟩
    rw [← hP] at hmo
    have hP3 : P < 366 := by
      have h1 := Cal.bM_mono Y (i := M) (j := 12) hm12
      rw [Cal.bM_12] at h1
      have := Cal.yd_two Y
      omega
    have hsub : wrap64 (n - (-146097 + (Cal.bY K : Int))) = (P : Int) := by unfold wrap64; omega
    obtain ⟨z, hz⟩ : ∃ z, z = -146097 + (Cal.bY K : Int) := ⟨_, rfl⟩
    simp only [← hz] at cB
    rw [← hz] at hsub
    have hPD : P = Cal.mb Y M + (D - 1) := by show P = Cal.bM Y (M - 1) + (D - 1); omega
    have hP2 : P < Cal.mb Y M + Cal.md Y M := by omega
    have CKn := Lib.hid cKn
    have CY := Lib.hid cY
    have CB := Lib.hid cB
    have HD := Lib.hid hD
    have HP := Lib.hid (And.intro hPD (And.intro hP2 (And.intro hm1 (And.intro hm12 (And.intro hd1 hP3)))))
    clear hy hmo hm12 hm1 hd1 hdm hte hk hc cY cB cKn e1 e2 e3 hP hK hM hDD hnt hz hPD hP2 hP3 ht h hn hD hY
    go_enter Tryd.func11, Tryd.ntmps11
    go_wp2_with fail
    refine (CKn.out _).mono ?_
    rintro e w' ⟨rfl, hw'⟩
    obtain rfl := hw'.symm
    go_wp2_with fail
    refine (CY.out _).mono ?_
    rintro e w2 ⟨rfl, hb2⟩
    have B2 := Lib.hid hb2
    clear hb2 hw' CKn CY
    go_wp2_with fail
    refine (CB.out _).mono ?_
    rintro e w3 ⟨rfl, hb3⟩
    have B3 := Lib.hid (B2.out.trans (hb3.mono B2.out.size))
    have D3 := Lib.hid (HD.out.below B3.out (Nat.le_refl _))
    clear hb3 B2 CB
    have HS := Lib.hid hsub
    clear hsub
    go_wp2_with fail
    go_loopw [6, 7] (fun m p wr => ∃ u : Nat, 1 ≤ u ∧ u ≤ M ∧ m = .int .i64 u ∧ p = .int .i64 ((P - Cal.mb Y u : Nat) : Int) ∧ w3 = wr) (fun m _ _ => M - (intOf m).toNat)
    case atStart => exact ⟨1, by omega, HP.out.2.2.1, rfl, by rw [HS.out]; rfl, rfl⟩
    case round =>
      obtain ⟨u, hu1, hu2, rfl, rfl, rfl⟩ := hrel
      have hb := Cal.mb_next Y hu1
      have hle := Cal.mb_mono Y (i := u) (j := M) hu2
      have cL := fun W h => monthLength_any Y u W hu1 (by have := HP.out.2.2.2.1; omega) h
      have hL := Cal.md_pos Y u
      obtain ⟨L, hLL⟩ : ∃ L, L = Cal.md Y u := ⟨_, rfl⟩
      simp only [← hLL] at cL
      rw [← hLL] at hb hL
      obtain ⟨G, hG⟩ : ∃ G, G = P - Cal.mb Y u := ⟨_, rfl⟩
      rw [← hG]
      have hG3 : (G : Int) < 366 := by have := HP.out.2.2.2.2.2; omega
      have CL := Lib.hid cL
      by_cases hlt : u < M
      · have hle2 := Cal.mb_mono Y (i := u + 1) (j := M) hlt
        have hge : L ≤ G := by have := HP.out.1; omega
        have hgi : (L : Int) ≤ G := by omega
        have hw2 : (G : Int) - L = ((P - Cal.mb Y (u + 1) : Nat) : Int) := by omega
        have HW := Lib.hid hw2
        have HU := Lib.hid (And.intro hu1 hlt)
        have hu12 : (u : Int) < 12 := by have := HP.out.2.2.2.1; omega
        clear hb hle cL hL hLL hG hw2 hle2 hu1 hu2 hlt
        go_wp2_with fail
        refine (CL.out _ D3.out).mono ?_
        rintro e w' ⟨rfl, hw'⟩
        obtain rfl := hw'.symm
        go_wp2_with fail
        refine (CL.out _ D3.out).mono ?_
        rintro e w' ⟨rfl, hw'⟩
        obtain rfl := hw'.symm
        go_wp2_with fail
        first
        | exact ⟨⟨u + 1, by omega, HU.out.2, by go_num, by rw [← HW.out], by first | rfl | trivial⟩, by have := HU.out; simp [intOf]; omega⟩
        | (rw [HW.out]; exact ⟨⟨u + 1, by omega, HU.out.2, by go_num, rfl, by first | rfl | trivial⟩, by have := HU.out; simp [intOf]; omega⟩)
      · obtain rfl : u = M := by omega
        have hge : ¬ L ≤ G := by have := HP.out.2.1; omega
        have hgi : ¬ (L : Int) ≤ G := by omega
        have hres : (G : Int) + 1 = (D : Int) := by have h1 := HP.out.1; have h2 := HP.out.2.2.2.2.1; omega
        have HR := Lib.hid hres
        clear hb hle cL hL hLL hG hres hlt hu2
        go_wp2_with fail
        refine (CL.out _ D3.out).mono ?_
        rintro e w' ⟨rfl, hw'⟩
        obtain rfl := hw'.symm
        go_wp2_with fail
        go_ret3
        exact ⟨by rw [← HR.out]; rfl, B3.out⟩
  · rw [decide_eq_false h] at cKn
    have e1 : Cal.cy n = 0 := if_neg h
    have e2 : Cal.cm n = 0 := if_neg h
    have e3 : Cal.cd n = 0 := if_neg h
    rw [e1, e2, e3]
    have CKn := Lib.hid cKn
    clear cKn h e1 e2 e3 hn hD
    go_enter Tryd.func11, Tryd.ntmps11
    go_wp2_with fail
    refine (CKn.out _).mono ?_
    rintro e w' ⟨rfl, hw'⟩
    obtain rfl := hw'.symm
    go_wp2_with fail
    go_ret3
    exact ⟨rfl, Below.refl _ _⟩
end Go.Proofs.YtkenfgifhebnpaaDoor
