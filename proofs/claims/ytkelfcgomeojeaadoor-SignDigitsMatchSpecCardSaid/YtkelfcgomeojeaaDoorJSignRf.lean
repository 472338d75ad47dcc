import Derived.Test.YtkelfcgomeojeaaDoorJHashRc
import Derived.Test.YtkelfcgomeojeaaDoorJSignRa
import Derived.Test.YtkelfcgomeojeaaDoorJSignRd

section
/- The contract of the reference's Mac. -/

namespace Go.Proofs.YtkelfcgomeojeaaDoor
open Go.RowKit
set_option linter.unusedVariables false
set_option maxRecDepth 100000

set_option maxRecDepth 100000 in
set_option maxHeartbeats 4000000 in
theorem refMac_any (s t : ByteArray) (w : World) (hs : s.size ≤ 1000) (ht : t.size ≤ 1000) (hR : RTab w) :
    Calls Tryd.prog 52 #[.string s, .string t] w fun e w' => e = .returned (.string (bs (mac (sb s) (sb t)))) ∧ Below w.heap.size w w' := by
  obtain ⟨i0, hi, hz0, hz1, hz2⟩ := info_parts info_u8
  have HR := Lib.hid hR
  obtain ⟨P1, hP1⟩ : ∃ P, P = padK (macKey (sb s)) 54 := ⟨_, rfl⟩
  obtain ⟨P2, hP2⟩ : ∃ P, P = padK (macKey (sb s)) 92 := ⟨_, rfl⟩
  have c1 := fun W h => refPadKey_any s 54 54 W rfl hs h
  have c2 := fun W h => refPadKey_any s 92 92 W rfl hs h
  rw [← hP1] at c1
  rw [← hP2] at c2
  have l1 : P1.length = 64 := by rw [hP1]; exact padK_len _ _ (macKey_len _)
  have l2 : P2.length = 64 := by rw [hP2]; exact padK_len _ _ (macKey_len _)
  obtain ⟨L1, hL1⟩ : ∃ L, L = P1 ++ sb t := ⟨_, rfl⟩
  obtain ⟨h1, hh1⟩ : ∃ h, h = H.sha L1 := ⟨_, rfl⟩
  obtain ⟨L2, hL2⟩ : ∃ L, L = P2 ++ h1 := ⟨_, rfl⟩
  have hmac : mac (sb s) (sb t) = H.sha L2 := by unfold mac; rw [hL2, hh1, hL1, hP1, hP2]
  have n1 : L1.length = 64 + t.size := by rw [hL1, List.length_append, l1, sb_len]
  have hl : h1.length = 32 := by rw [hh1, H.sha_len]
  have n2 : L2.length = 96 := by rw [hL2, List.length_append, l2, hl]
  rw [hmac]
  have C1 := Lib.hid c1
  have C2 := Lib.hid c2
  have HL := Lib.hid (And.intro l1 (And.intro l2 (And.intro n1 (And.intro hl n2))))
  have HD := Lib.hid (And.intro hL1 (And.intro hh1 hL2))
  clear c1 c2 hP1 hP2 l1 l2 hL1 hh1 hL2 hmac n1 hl n2 hR
  go_enter Tryd.func52, Tryd.ntmps52
  go_wp2_with fail
  refine (C1.out w HR.out).mono ?_
  rintro e w1 ⟨v1, rfl, hown1, hb1⟩
  rw [HL.out.1] at hown1
  have hs1 := hb1.size
  go_wp2_with (at_builtin; refine Lib.wpList_append_own_string _ rfl (.tmp 9) (.tmp 10) 51 9 rfl w.heap.size 5 i0 Tryd.underlying51 Tryd.underlying9 hi hz0 hz1 hz2 _ _ _ rfl hown1 t rfl (by unfold maxLen; omega) (by omega) hs1 ?_; intro v2 w2 hown2 hgrow2 _)
  have hb2 : Below w.heap.size w w2 := hb1.grown hgrow2 hs1 (fun k hk => (hown1.lt k hk).1)
  have ho2 : w2.ownsRow w.heap.size 5 1 v2 L1.length (L1.map bv) := by
    rw [HL.out.2.2.1, HD.out.1, List.map_append]
    exact hown2
  have HR2 := Lib.hid (HR.out.below hb2 (Nat.le_refl _))
  clear hown1 hb1 hs1 hown2 hgrow2
  refine (C2.out w2 HR2.out).mono ?_
  rintro e w3 ⟨v3, rfl, hown3, hb3⟩
  rw [HL.out.2.1] at hown3
  have ho3 := own_below ho2 hb3 (Nat.le_refl _)
  obtain ⟨A1, c1, rfl, hr1, -, -⟩ := own_rd (B := 0) ho3
  have hb3' := hb2.trans (hb3.mono hb2.size)
  have cS := refSum_any A1 c1 L1 w3 hr1 (by rw [HL.out.2.2.1]; omega) (HR2.out.below hb3 (Nat.le_refl _))
  rw [← HD.out.2.1] at cS
  have HR3 := Lib.hid (HR2.out.below hb3 (Nat.le_refl _))
  have CS := Lib.hid cS
  obtain ⟨B2, hB2⟩ : ∃ B2, B2 = w2.heap.size := ⟨_, rfl⟩
  rw [← hB2] at hown3
  have hB3 : w.heap.size ≤ B2 ∧ B2 ≤ w3.heap.size := by rw [hB2]; exact ⟨hb2.size, hb3.size⟩
  clear ho2 ho3 hr1 hb2 hb3 cS hB2
  go_wp2_with fail
  refine CS.out.mono ?_
  rintro e w4 ⟨rfl, hb4⟩
  have hb4' := hb3'.trans (hb4.mono hb3'.size)
  have hown4 := own_below hown3 hb4 (Nat.le_refl _)
  have hs4 := hb4.size
  have HR4 := Lib.hid (HR3.out.below hb4 (Nat.le_refl _))
  clear hb3' hown3 hb4 CS
  go_wp2_with fail
  refine (bytes32_any h1 w4 HL.out.2.2.2.1).mono ?_
  obtain ⟨q, hq⟩ : ∃ q, q = bs h1 := ⟨_, rfl⟩
  rw [← hq]
  have hqs : q.size = 32 := by rw [hq, bbytes_size, HL.out.2.2.2.1]
  have hqb : sb q = h1 := by rw [hq, sb_bs]
  have HQ := Lib.hid (And.intro hqs hqb)
  have hqs' : q.size ≤ 100 := by omega
  clear hq hqs hqb
  rintro e w5 ⟨rfl, hb5⟩
  have hb5' := hb4'.trans (hb5.mono hb4'.size)
  have hown5 := own_below hown4 hb5 (Nat.le_refl _)
  have hs5 := hb5.size
  have HR5 := Lib.hid (HR4.out.below hb5 (Nat.le_refl _))
  have hBB : B2 ≤ w5.heap.size := by omega
  clear hb4' hown4 hb5 hs4 hs5
  go_wp2_with (at_builtin; refine Lib.wpList_append_own_string _ rfl (.tmp 14) (.tmp 17) 51 9 rfl B2 5 i0 Tryd.underlying51 Tryd.underlying9 hi hz0 hz1 hz2 _ _ _ rfl hown5 q rfl (by unfold maxLen; omega) (by omega) hBB ?_; intro v6 w6 hown6 hgrow6 _)
  have hb6 : Below w.heap.size w w6 := hb5'.grown hgrow6 hb5'.size (fun k hk => Nat.le_trans hB3.1 (hown5.lt k hk).1)
  have ho6 : w6.ownsRow B2 5 1 v6 L2.length (L2.map bv) := by
    have e1 : L2 = P2 ++ sb q := by rw [HD.out.2.2, HQ.out.2]
    rw [e1, List.length_append, List.map_append, HL.out.2.1, sb_len]
    exact hown6
  obtain ⟨A2, c2, rfl, hr2, -, -⟩ := own_rd (B := 0) ho6
  have HR6 := Lib.hid (HR.out.below hb6 (Nat.le_refl _))
  clear hown5 hb5' hown6 hgrow6 ho6
  refine (refSum_any A2 c2 L2 w6 hr2 (by rw [HL.out.2.2.2.2]; omega) HR6.out).mono ?_
  clear hr2
  rintro e w7 ⟨rfl, hb7⟩
  have hb7' := hb6.trans (hb7.mono hb6.size)
  clear hb6 hb7
  go_wp2_with fail
  refine (bytes32_any (H.sha L2) w7 (H.sha_len _)).mono ?_
  rintro e w8 ⟨rfl, hb8⟩
  have hb8' := Lib.hid (hb7'.trans (hb8.mono hb7'.size))
  clear hb7' hb8
  go_wp2_with fail
  go_ret
  exact ⟨rfl, hb8'.out⟩

end Go.Proofs.YtkelfcgomeojeaaDoor
end

section
/- The reference's start. -/



namespace Go.Proofs.YtkelfcgomeojeaaDoor
open Go.RowKit
set_option linter.unusedVariables false
set_option maxRecDepth 100000

set_option maxRecDepth 100000 in
set_option maxHeartbeats 4000000 in
theorem refStart_any (s : ByteArray) (i c : Nat) (w : World) (hs : s.size ≤ 1000) (hi : i ≤ 1000000) (hc : c ≤ 1000000) (hR : RTab w) :
    Calls Tryd.prog 31 #[.string s, .int .i64 i, .int .i64 c] w fun e w' => e = .returned (.agg ((Sg.start (sb s) i c).map bv).toArray) ∧ Below w.heap.size w w' := by
  obtain ⟨hzd, -⟩ := zero_of_info dig_zero
  obtain ⟨Zd, hZd⟩ : ∃ Zd, Zd = (H.zeros 16).map bv := ⟨_, rfl⟩
  rw [← hZd] at hzd
  have lZd : Zd.length = 16 := by rw [hZd, List.length_map, H.zeros_len]
  obtain ⟨I2, hI2⟩ : ∃ I2, I2 = [(i : Int), (c : Int)] := ⟨_, rfl⟩
  have hII : ∀ n ∈ I2, M.I64 n := by
    rw [hI2]
    intro n hn
    simp only [List.mem_cons, List.not_mem_nil, or_false] at hn
    unfold M.I64
    omega
  have hI2l : I2.length = 2 := by rw [hI2]; rfl
  have hil := ints_len I2 hII (by omega)
  obtain ⟨q, hq⟩ : ∃ q, q = (⟨#[99, 104, 97, 105, 110]⟩ : ByteArray) ++ bs (Sg.ints I2) := ⟨_, rfl⟩
  have hqb : sb q = Sg.word ++ Sg.ints I2 := by rw [hq, sb_append, sb_bs]; rfl
  have hqs : q.size ≤ 1000 := by rw [← sb_len, hqb, List.length_append]; have : Sg.word.length = 5 := rfl; omega
  obtain ⟨g, hg⟩ : ∃ g, g = mac (sb s) (sb q) := ⟨_, rfl⟩
  have hgl : g.length = 32 := by rw [hg]; unfold mac; rw [H.sha_len]
  obtain ⟨D, hD⟩ : ∃ D, D = (g.take 16).map bv := ⟨_, rfl⟩
  have hst : (Sg.start (sb s) i c).map bv = D := by rw [hD, hg, hqb, hI2]; rfl
  have lD : D.length = 16 := by rw [hD, List.length_map, List.length_take]; omega
  have yD := size_dig lD
  have oD : D.toArray.all (·.oneCell') = true := all_oneCell_toArray (by rw [hD]; exact bytes_one _)
  rw [hst]
  obtain ⟨W0, hW0⟩ : ∃ W0, W0 = w.alloc (.cells Zd.toArray 23) := ⟨_, rfl⟩
  have hb0 : Below w.heap.size w W0 := by rw [hW0]; exact (Below.refl _ _).alloc (Nat.le_refl _) _
  have hk0 : Blk W0 w.heap.size Zd 23 := by rw [hW0]; exact Blk.new w _ _
  obtain ⟨W1, hW1⟩ : ∃ W1, W1 = W0.alloc (.cells #[.int .i64 i, .int .i64 c] 3) := ⟨_, rfl⟩
  have hb1 : Below W0.heap.size W0 W1 := by rw [hW1]; exact (Below.refl _ _).alloc (Nat.le_refl _) _
  have c1 := refInts_text (some ⟨W0.heap.size, 0, none⟩) 2 I2 W1 (by rw [hW1, hI2]; exact rd_new W0 [.int .i64 i, .int .i64 c] _) (by omega) (by decide) (by omega) hII
  rw [hI2l, show W0.heap.size = w.heap.size + 1 by rw [hW0]; simp] at c1
  have c2 := fun W h => refMac_any s q W hs hqs h
  rw [← hg] at c2
  have c3 := fun W => refDigest_any (bs g) W (by rw [bbytes_size]; omega) (by rw [bbytes_size]; omega)
  rw [sb_bs, ← hD] at c3
  obtain ⟨x, hx⟩ : ∃ x, x = bs (Sg.ints I2) := ⟨_, rfl⟩
  have hxs : x.size ≤ 100 := by rw [hx, bbytes_size]; omega
  rw [← hx] at c1 hq
  have C1 := Lib.hid c1
  have C2 := Lib.hid c2
  have C3 := Lib.hid c3
  have HW0 := Lib.hid hW0
  have HW1 := Lib.hid hW1
  have HQ := Lib.hid hq
  have K0 := Lib.hid (And.intro hk0 (And.intro (hb0.trans (hb1.mono hb0.size)) (hk0.below hb1 hk0.lt)))
  have HR := Lib.hid hR
  have LZ := Lib.hid (And.intro lZd lD)
  have YD := Lib.hid yD
  clear hZd lZd hI2 hII hI2l hil hq hqb hqs hg hgl hD hst lD yD hW0 hb0 hk0 hW1 hb1 c1 c2 c3 hR hs hx
  go_enter Tryd.func31, Tryd.ntmps31
  go_wp2_with fail
  rw [← HW0.out, ← HW1.out]
  refine C1.out.mono ?_
  rintro e w2 ⟨rfl, hb2⟩
  have h2 := K0.out.2.1.trans (hb2.mono K0.out.2.1.size)
  have k2 := K0.out.2.2.below hb2 K0.out.2.2.lt
  have R2 := Lib.hid (HR.out.below h2 (Nat.le_refl _))
  have K2 := Lib.hid (And.intro k2 h2)
  clear K0 hb2 h2 k2 C1
  go_wp2_with fail
  rw [← HQ.out]
  refine (C2.out w2 R2.out).mono ?_
  rintro e w3 ⟨rfl, hb3⟩
  have h3 := K2.out.2.trans (hb3.mono K2.out.2.size)
  have k3 := K2.out.1.below hb3 K2.out.1.lt
  have K3 := Lib.hid (And.intro k3 h3)
  clear K2 hb3 h3 k3 C2
  go_wp2_with fail
  refine (C3.out w3).mono ?_
  rintro e w4 ⟨rfl, hb4⟩
  have h4 := K3.out.2.trans (hb4.mono K3.out.2.size)
  have k4 := K3.out.1.below hb4 K3.out.1.lt
  have t1 : w4.there w.heap.size 0 D.toArray.size := k4.there 0 _ (by rw [List.size_toArray, LZ.out.1, LZ.out.2]; omega)
  have d1 := k4.whole D (by rw [LZ.out.1, LZ.out.2])
  have hb5 : Below w.heap.size w (w4.setCells w.heap.size 0 D) := below_setCells _ (Nat.le_refl _) _ _ _ h4
  have T1 := Lib.hid t1
  have D1 := Lib.hid d1
  have B3 := Lib.hid hb5
  clear K3 hb4 h4 k4 t1 d1 hb5 C3
  go_wp2_with (refine wpList_store_mid rfl 23 (.tmp 6) (.tmp 14) rfl w.heap.size 0 D.toArray rfl rfl T1.out YD.out oD ?_)
  refine bodyPost_ret (results_cell_row rfl _ _ w.heap.size 23 _ (0, 0) _ rfl D1.out Tryd.underlying23 rfl YD.out) rfl ⟨rfl, B3.out⟩
end Go.Proofs.YtkelfcgomeojeaaDoor
end

section
/- The reference's leaf. -/

namespace Go.Proofs.YtkelfcgomeojeaaDoor
open Go.RowKit
set_option linter.unusedVariables false
set_option maxRecDepth 100000

set_option maxRecDepth 100000 in
set_option maxHeartbeats 4000000 in
theorem refLeaf_any (s : ByteArray) (i : Nat) (w : World) (hs : s.size ≤ 1000) (hi : i ≤ 1000000) (hR : RTab w) :
    Calls Tryd.prog 45 #[.string s, .int .i64 i] w fun e w' => e = .returned (.agg ((Sg.leaf (sb s) i).map bv).toArray) ∧ Below w.heap.size w w' := by
  obtain ⟨hzd, -⟩ := zero_of_info dig_zero
  obtain ⟨Zd, hZd⟩ : ∃ Zd, Zd = (H.zeros 16).map bv := ⟨_, rfl⟩
  rw [← hZd] at hzd
  have lZd : Zd.length = 16 := by rw [hZd, List.length_map, H.zeros_len]
  obtain ⟨sd, hsd⟩ : ∃ sd, sd = sb s := ⟨_, rfl⟩
  obtain ⟨W0, hW0⟩ : ∃ W0, W0 = w.alloc (.cells Zd.toArray 23) := ⟨_, rfl⟩
  have hb0 : Below w.heap.size w W0 := by rw [hW0]; exact (Below.refl _ _).alloc (Nat.le_refl _) _
  have hk0 : Blk W0 w.heap.size Zd 23 := by rw [hW0]; exact Blk.new w _ _
  have c1 := fun (c : Nat) W h1 h => refStart_any s i c W hs hi h1 h
  rw [← hsd] at c1 ⊢
  obtain ⟨L, hL⟩ : ∃ L, L = (Sg.leaf sd i).map bv := ⟨_, rfl⟩
  have lL : L.length = 16 := by rw [hL, List.length_map]; exact Sg.of_len _ _
  have yL := size_dig lL
  have oL : L.toArray.all (·.oneCell') = true := all_oneCell_toArray (by rw [hL]; exact bytes_one _)
  rw [← hL]
  have HL := Lib.hid (And.intro hL lL)
  have YL := Lib.hid yL
  have C1 := Lib.hid c1
  have HW0 := Lib.hid hW0
  have K0 := Lib.hid (And.intro hk0 hb0)
  have HR := Lib.hid hR
  have LZ := Lib.hid lZd
  clear hZd lZd hsd hW0 hb0 hk0 c1 hR hs hL lL yL
  go_enter Tryd.func45, Tryd.ntmps45
  go_wp2_with fail
  rw [← HW0.out]
  go_loopw [5, 6] (fun x n wr => ∃ k : Nat, k ≤ 68 ∧ n = .int .i64 k ∧ x = .string (bs (topsTo sd i k)) ∧ Blk wr w.heap.size Zd 23 ∧ Below w.heap.size w wr) (fun _ n _ => 68 - (intOf n).toNat)
  case atStart => exact ⟨0, by omega, rfl, rfl, K0.out⟩
  case round =>
    clear K0
    obtain ⟨k, hk, rfl, rfl, hB, hbel⟩ := hrel
    have hsl := topsTo_len sd i k
    obtain ⟨x, hx⟩ : ∃ x, x = bs (topsTo sd i k) := ⟨_, rfl⟩
    have hxs : x.size = 16 * k := by rw [hx, bbytes_size, hsl]
    rw [← hx]
    by_cases hlt : k < 68
    · have ik : (k : Int) < 68 := by omega
      have hxs' : x.size ≤ 2000 := by omega
      have hr1 := HR.out.below hbel (Nat.le_refl _)
      have cS := C1.out k wr (by omega) hr1
      have CS := Lib.hid cS
      have K1 := Lib.hid (And.intro hB hbel)
      have HX := Lib.hid hx
      have HXS := Lib.hid hxs
      clear hsl hx hxs hB hbel hr1 cS
      go_wp2_with fail
      refine CS.out.mono ?_
      rintro e w2 ⟨rfl, hb2⟩
      have h2 := K1.out.2.trans (hb2.mono K1.out.2.size)
      have k2 := K1.out.1.below hb2 K1.out.1.lt
      have K2 := Lib.hid (And.intro k2 h2)
      have cA := refAdvance_any i k 0 3 (Sg.start sd i k) w2 hi (by omega) (by omega) (start_len sd i k) (HR.out.below h2 (Nat.le_refl _))
      have CA := Lib.hid cA
      clear hb2 h2 k2 K1 CS cA
      go_wp2_with fail
      refine CA.out.mono ?_
      rintro e w3 ⟨rfl, hb3⟩
      have h3 := K2.out.2.trans (hb3.mono K2.out.2.size)
      have k3 := K2.out.1.below hb3 K2.out.1.lt
      have K3 := Lib.hid (And.intro k3 h3)
      have cT := text_any (Sg.top sd i k) w3 (top_len sd i k)
      obtain ⟨y, hy⟩ : ∃ y, y = bs (Sg.top sd i k) := ⟨_, rfl⟩
      have hys : y.size ≤ 16 := by rw [hy, bbytes_size, top_len]; omega
      rw [← hy] at cT
      have HY := Lib.hid hy
      have CT := Lib.hid cT
      clear hb3 h3 k3 K2 CA cT hy
      go_wp2_with fail
      refine CT.out.mono ?_
      rintro e w4 ⟨rfl, hb4⟩
      have h4 := K3.out.2.trans (hb4.mono K3.out.2.size)
      have k4 := K3.out.1.below hb4 K3.out.1.lt
      have K4 := Lib.hid (And.intro k4 h4)
      clear hb4 h4 k4 K3 CT
      go_wp2_with fail
      refine ⟨⟨k + 1, by omega, by go_num, ?_, K4.out⟩, by simp [intOf]; omega⟩
      rw [HX.out, HY.out, bs_append, ← topsTo_succ]
    · have hk68 : k = 68 := by omega
      have ge : (68 : Int) ≤ k := by omega
      rw [hk68] at hx
      obtain ⟨P, hP⟩ : ∃ P, P = Sg.of 3 [topsTo sd i 68] := ⟨_, rfl⟩
      have lP : P.length = 16 := by rw [hP, Sg.of_len]
      obtain ⟨Pv, hPv⟩ : ∃ Pv, Pv = P.map bv := ⟨_, rfl⟩
      have lPv : Pv.length = 16 := by rw [hPv, List.length_map, lP]
      have yP := size_dig lPv
      have oP : Pv.toArray.all (·.oneCell') = true := all_oneCell_toArray (by rw [hPv]; exact bytes_one _)
      obtain ⟨q, hq⟩ : ∃ q, q = bs P := ⟨_, rfl⟩
      have hqs : q.size = 16 := by rw [hq, bbytes_size, lP]
      have e3 : (dig 3 [x]).map bv = Pv := by rw [hPv, hP, hx, show (3 : Int) = ((3 : Nat) : Int) from rfl, dig_one 3 (by omega)]; rfl
      have e1 : (dig 1 [q]).map bv = L := by rw [HL.out.1, hq, hP, show (1 : Int) = ((1 : Nat) : Int) from rfl, dig_one 1 (by omega)]; rfl
      obtain ⟨w1, hw1⟩ : ∃ w1, w1 = wr.alloc (.cells #[.string x] 9) := ⟨_, rfl⟩
      have hb1 : Below wr.heap.size wr w1 := by rw [hw1]; exact (Below.refl _ _).alloc (Nat.le_refl _) _
      have h1 := hbel.trans (hb1.mono hbel.size)
      have k1 := hB.below hb1 hB.lt
      have cO := refOf_upto 3 (some ⟨wr.heap.size, 0, none⟩) 1 [x] w1 (by rw [hw1]; exact rd_new wr [.string x] _) (by simp) (by intro s hs; simp only [List.mem_cons, List.not_mem_nil, or_false] at hs; rw [hs]; omega) (HR.out.below h1 (Nat.le_refl _))
      rw [e3] at cO
      have c4 := fun (W : World) h1 h2 => refOf_upto 1 (some ⟨W.heap.size, 0, none⟩) 1 [q] (W.alloc (.cells #[.string q] 9)) h1 (by simp) (by intro s hs; simp only [List.mem_cons, List.not_mem_nil, or_false] at hs; rw [hs]; omega) h2
      rw [e1] at c4
      have cT := fun W => text_any P W lP
      rw [← hPv, ← hq] at cT
      have CO := Lib.hid cO
      have C4 := Lib.hid c4
      have CT := Lib.hid cT
      have Hw1 := Lib.hid hw1
      have K1 := Lib.hid (And.intro k1 h1)
      have LL := Lib.hid (And.intro lPv HL.out.2)
      have YP := Lib.hid yP
      clear hsl hxs hB hbel hk68 hx hP lP hPv lPv yP hq hqs e3 e1 hw1 hb1 h1 k1 cO c4 cT C1
      go_wp2_with fail
      rw [← Hw1.out]
      refine CO.out.mono ?_
      rintro e w2 ⟨rfl, hb2⟩
      obtain ⟨w3, hW3, t3, d3, e3⟩ := row_new w2 23 16 Zd Pv LZ.out LL.out.1
      have h2 := K1.out.2.trans (hb2.mono K1.out.2.size)
      have k2 := K1.out.1.below hb2 K1.out.1.lt
      have K3 := Lib.hid (And.intro (k2.below e3 k2.lt) (h2.trans (e3.mono h2.size)))
      obtain ⟨V, hV⟩ : ∃ V, V = w2.heap.size := ⟨_, rfl⟩
      rw [← hV] at d3
      have HV := Lib.hid hV
      have HW3 := Lib.hid hW3
      have T3 := Lib.hid t3
      have D3 := Lib.hid d3
      clear hb2 h2 k2 hV hW3 t3 d3 e3 K1 CO
      go_wp2_with (first | (refine wpList_store_mid rfl 23 (.tmp 7) (.tmp 24) rfl w2.heap.size 0 Pv.toArray rfl rfl T3.out YP.out oP ?_; rw [← HW3.out, ← HV.out]) | (refine wpList_load_row rfl 23 (.tmp 7) rfl V rfl _ Pv.toArray (0, 0) _ D3.out Tryd.underlying23 rfl YP.out ?_))
      refine (CT.out w3).mono ?_
      rintro e w4 ⟨rfl, hb4⟩
      have h4 := K3.out.2.trans (hb4.mono K3.out.2.size)
      have k4 := K3.out.1.below hb4 K3.out.1.lt
      obtain ⟨w5, hw5⟩ : ∃ w5, w5 = w4.alloc (.cells #[.string q] 9) := ⟨_, rfl⟩
      have hb5 : Below w4.heap.size w4 w5 := by rw [hw5]; exact (Below.refl _ _).alloc (Nat.le_refl _) _
      have h5 := h4.trans (hb5.mono h4.size)
      have k5 := k4.below hb5 k4.lt
      have cO := C4.out w4 (by exact rd_new w4 [.string q] _) (by rw [← hw5]; exact HR.out.below h5 (Nat.le_refl _))
      rw [← hw5] at cO
      have CO := Lib.hid cO
      have Hw5 := Lib.hid hw5
      have K5 := Lib.hid (And.intro k5 h5)
      clear hb4 h4 k4 hw5 hb5 h5 k5 cO K3 CT C4
      go_wp2_with fail
      rw [← Hw5.out]
      refine CO.out.mono ?_
      rintro e w6 ⟨rfl, hb6⟩
      have h6 := K5.out.2.trans (hb6.mono K5.out.2.size)
      have k6 := K5.out.1.below hb6 K5.out.1.lt
      have t1 : w6.there w.heap.size 0 L.toArray.size := k6.there 0 _ (by rw [List.size_toArray, LL.out.2, LZ.out]; omega)
      have d1 := k6.whole L (by rw [LL.out.2, LZ.out])
      have hb7 : Below w.heap.size w (w6.setCells w.heap.size 0 L) := below_setCells _ (Nat.le_refl _) _ _ _ h6
      have T1 := Lib.hid t1
      have D1 := Lib.hid d1
      have B3 := Lib.hid hb7
      clear hb6 h6 k6 t1 d1 hb7 K5 CO
      go_wp2_with (refine wpList_store_mid rfl 23 (.tmp 4) (.tmp 28) rfl w.heap.size 0 L.toArray rfl rfl T1.out YL.out oL ?_)
      refine bodyPost_ret (results_cell_row rfl _ _ w.heap.size 23 _ (0, 0) _ rfl D1.out Tryd.underlying23 rfl YL.out) rfl ⟨rfl, B3.out⟩
end Go.Proofs.YtkelfcgomeojeaaDoor
end

