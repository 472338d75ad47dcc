/- The contract of the reference's Mac; the walk of HashMacMatchesSpec. -/
import Derived.Test.YtmlnpnlajgnohaaDoorHashRc
namespace Go.Proofs.YtmlnpnlajgnohaaDoor
open Go.RowKit
set_option linter.unusedVariables false

set_option maxRecDepth 100000 in
set_option maxHeartbeats 4000000 in
theorem refMac_any (s t : ByteArray) (w : World) (hs : s.size ≤ 1000) (ht : t.size ≤ 1000) (hR : RTab w) :
    Calls Tryd.prog 19 #[.string s, .string t] w fun e w' => e = .returned (.string (bs (mac (sb s) (sb t)))) ∧ Below w.heap.size w w' := by
  obtain ⟨i0, hi, hz0, hz1, hz2⟩ := info_parts info_u8
  have HR := Lib.hid hR
  obtain ⟨P1, hP1⟩ : ∃ P, P = padK (macKey (sb s)) 54 := ⟨_, rfl⟩
  obtain ⟨P2, hP2⟩ : ∃ P, P = padK (macKey (sb s)) 92 := ⟨_, rfl⟩
  have c1 := fun W h => refPadKey_any s 54 54 W rfl hs h
  have c2 := fun W h => refPadKey_any s 92 92 W rfl hs h
  rw [← hP1] at c1
  rw [← hP2] at c2
  have l1 : P1.length = 64 := by rw [hP1]; exact padK_len _ _ (macKey_len _)
  have l2 : P2.length = 64 := by rw [hP2]; exact padK_len _ _ (macKey_len _)
  obtain ⟨L1, hL1⟩ : ∃ L, L = P1 ++ sb t := ⟨_, rfl⟩
  obtain ⟨h1, hh1⟩ : ∃ h, h = H.sha L1 := ⟨_, rfl⟩
  obtain ⟨L2, hL2⟩ : ∃ L, L = P2 ++ h1 := ⟨_, rfl⟩
  have hmac : mac (sb s) (sb t) = H.sha L2 := by unfold mac; rw [hL2, hh1, hL1, hP1, hP2]
  have n1 : L1.length = 64 + t.size := by rw [hL1, List.length_append, l1, sb_len]
  have hl : h1.length = 32 := by rw [hh1, H.sha_len]
  have n2 : L2.length = 96 := by rw [hL2, List.length_append, l2, hl]
  rw [hmac]
  have C1 := Lib.hid c1
  have C2 := Lib.hid c2
  have HL := Lib.hid (And.intro l1 (And.intro l2 (And.intro n1 (And.intro hl n2))))
  have HD := Lib.hid (And.intro hL1 (And.intro hh1 hL2))
  clear c1 c2 hP1 hP2 l1 l2 hL1 hh1 hL2 hmac n1 hl n2 hR
  go_enter Tryd.func19, Tryd.ntmps19
  go_wp2_with fail
  refine (C1.out w HR.out).mono ?_
  rintro e w1 ⟨v1, rfl, hown1, hb1⟩
  rw [HL.out.1] at hown1
  have hs1 := hb1.size
  go_wp2_with (at_builtin; refine Lib.wpList_append_own_string _ rfl (.tmp 9) (.tmp 10) 22 9 rfl w.heap.size 5 i0 Tryd.underlying22 Tryd.underlying9 hi hz0 hz1 hz2 _ _ _ rfl hown1 t rfl (by unfold maxLen; omega) (by omega) hs1 ?_; intro v2 w2 hown2 hgrow2 _)
  have hb2 : Below w.heap.size w w2 := hb1.grown hgrow2 hs1 (fun k hk => (hown1.lt k hk).1)
  have ho2 : w2.ownsRow w.heap.size 5 1 v2 L1.length (L1.map bv) := by
    rw [HL.out.2.2.1, HD.out.1, List.map_append]
    exact hown2
  have HR2 := Lib.hid (HR.out.below hb2 (Nat.le_refl _))
  clear hown1 hb1 hs1 hown2 hgrow2
  refine (C2.out w2 HR2.out).mono ?_
  rintro e w3 ⟨v3, rfl, hown3, hb3⟩
  rw [HL.out.2.1] at hown3
  have ho3 := own_below ho2 hb3 (Nat.le_refl _)
  obtain ⟨A1, c1, rfl, hr1, -, -⟩ := own_rd (B := 0) ho3
  have hb3' := hb2.trans (hb3.mono hb2.size)
  have cS := refSum_any A1 c1 L1 w3 hr1 (by rw [HL.out.2.2.1]; omega) (HR2.out.below hb3 (Nat.le_refl _))
  rw [← HD.out.2.1] at cS
  have HR3 := Lib.hid (HR2.out.below hb3 (Nat.le_refl _))
  have CS := Lib.hid cS
  obtain ⟨B2, hB2⟩ : ∃ B2, B2 = w2.heap.size := ⟨_, rfl⟩
  rw [← hB2] at hown3
  have hB3 : w.heap.size ≤ B2 ∧ B2 ≤ w3.heap.size := by rw [hB2]; exact ⟨hb2.size, hb3.size⟩
  clear ho2 ho3 hr1 hb2 hb3 cS hB2
  go_wp2_with fail
  refine CS.out.mono ?_
  rintro e w4 ⟨rfl, hb4⟩
  have hb4' := hb3'.trans (hb4.mono hb3'.size)
  have hown4 := own_below hown3 hb4 (Nat.le_refl _)
  have hs4 := hb4.size
  have HR4 := Lib.hid (HR3.out.below hb4 (Nat.le_refl _))
  clear hb3' hown3 hb4 CS
  go_wp2_with fail
  refine (bytes32_any h1 w4 HL.out.2.2.2.1).mono ?_
  obtain ⟨q, hq⟩ : ∃ q, q = bs h1 := ⟨_, rfl⟩
  rw [← hq]
  have hqs : q.size = 32 := by rw [hq, bbytes_size, HL.out.2.2.2.1]
  have hqb : sb q = h1 := by rw [hq, sb_bs]
  have HQ := Lib.hid (And.intro hqs hqb)
  have hqs' : q.size ≤ 100 := by omega
  clear hq hqs hqb
  rintro e w5 ⟨rfl, hb5⟩
  have hb5' := hb4'.trans (hb5.mono hb4'.size)
  have hown5 := own_below hown4 hb5 (Nat.le_refl _)
  have hs5 := hb5.size
  have HR5 := Lib.hid (HR4.out.below hb5 (Nat.le_refl _))
  have hBB : B2 ≤ w5.heap.size := by omega
  clear hb4' hown4 hb5 hs4 hs5
  go_wp2_with (at_builtin; refine Lib.wpList_append_own_string _ rfl (.tmp 14) (.tmp 17) 22 9 rfl B2 5 i0 Tryd.underlying22 Tryd.underlying9 hi hz0 hz1 hz2 _ _ _ rfl hown5 q rfl (by unfold maxLen; omega) (by omega) hBB ?_; intro v6 w6 hown6 hgrow6 _)
  have hb6 : Below w.heap.size w w6 := hb5'.grown hgrow6 hb5'.size (fun k hk => Nat.le_trans hB3.1 (hown5.lt k hk).1)
  have ho6 : w6.ownsRow B2 5 1 v6 L2.length (L2.map bv) := by
    have e1 : L2 = P2 ++ sb q := by rw [HD.out.2.2, HQ.out.2]
    rw [e1, List.length_append, List.map_append, HL.out.2.1, sb_len]
    exact hown6
  obtain ⟨A2, c2, rfl, hr2, -, -⟩ := own_rd (B := 0) ho6
  have HR6 := Lib.hid (HR.out.below hb6 (Nat.le_refl _))
  clear hown5 hb5' hown6 hgrow6 ho6
  refine (refSum_any A2 c2 L2 w6 hr2 (by rw [HL.out.2.2.2.2]; omega) HR6.out).mono ?_
  clear hr2
  rintro e w7 ⟨rfl, hb7⟩
  have hb7' := hb6.trans (hb7.mono hb6.size)
  clear hb6 hb7
  go_wp2_with fail
  refine (bytes32_any (H.sha L2) w7 (H.sha_len _)).mono ?_
  rintro e w8 ⟨rfl, hb8⟩
  have hb8' := Lib.hid (hb7'.trans (hb8.mono hb7'.size))
  clear hb7' hb8
  go_wp2_with fail
  go_ret
  exact ⟨rfl, hb8'.out⟩

set_option maxHeartbeats 4000000 in
set_option maxRecDepth 100000 in
theorem mac_walk (a b : ByteArray) (W : World) (hR : RTab W) (hT : HTab W) : Calls Tryd.prog 5 #[.string a, .string b] W (Tells true W) := by
  by_cases ha : 400 < a.size
  · have hd : decide ((400 : Int) < a.size) = true := by simp; omega
    have hd' : (400 : Int) < a.size := by omega
    clear ha
    go_enter Tryd.func5, Tryd.ntmps5
    go_wp2_with fail
    refine (sanity_any W hT).mono ?_
    rintro e w1 ⟨rfl, hb1⟩
    clear hT
    go_wp2_with fail
    go_ret
    exact ⟨rfl, hb1⟩
  by_cases hb : 400 < b.size
  · have hd : decide ((400 : Int) < a.size) = false := by simp; omega
    have hd' : (a.size : Int) ≤ 400 := by omega
    have hd2 : decide ((400 : Int) < b.size) = true := by simp; omega
    have hd2' : (400 : Int) < b.size := by omega
    clear ha hb
    go_enter Tryd.func5, Tryd.ntmps5
    go_wp2_with fail
    refine (sanity_any W hT).mono ?_
    rintro e w1 ⟨rfl, hb1⟩
    clear hT
    go_wp2_with fail
    go_ret
    exact ⟨rfl, hb1⟩
  have hd : decide ((400 : Int) < a.size) = false := by simp; omega
  have hd' : (a.size : Int) ≤ 400 := by omega
  have hd2 : decide ((400 : Int) < b.size) = false := by simp; omega
  have hd2' : (b.size : Int) ≤ 400 := by omega
  have hs := Lib.hid (And.intro (show a.size ≤ 400 by omega) (show b.size ≤ 400 by omega))
  have HR := Lib.hid hR
  have HT := Lib.hid hT
  obtain ⟨m, hm⟩ : ∃ m, m = bs (mac (sb a) (sb b)) := ⟨_, rfl⟩
  have Hm := Lib.hid hm
  clear ha hb hm hR
  go_enter Tryd.func5, Tryd.ntmps5
  go_wp2_with fail
  refine (sanity_any W hT).mono ?_
  rintro e w1 ⟨rfl, hb1⟩
  have HT1 := Lib.hid (HT.out.next hb1)
  have HR1 := Lib.hid (HR.out.below hb1 (Nat.le_refl _))
  clear hT
  go_wp2_with fail
  refine (mac_to a b m w1 Hm.out (by have := hs.out; omega) (by have := hs.out; omega) HT1.out).mono ?_
  rintro e w2 ⟨rfl, hb'⟩
  have hb2 := hb1.trans (hb'.mono hb1.size)
  have HR2 := Lib.hid (HR1.out.below hb' (Nat.le_refl _))
  clear hb1 hb'
  go_wp2_with fail
  refine (refMac_any a b w2 (by have := hs.out; omega) (by have := hs.out; omega) HR2.out).mono ?_
  rw [← Hm.out]
  rintro e w3 ⟨rfl, hb'⟩
  have hb3 := Lib.hid (hb2.trans (hb'.mono hb2.size))
  clear hb2 hb'
  go_wp2_with fail
  go_ret
  exact ⟨rfl, hb3.out⟩
end Go.Proofs.YtmlnpnlajgnohaaDoor
