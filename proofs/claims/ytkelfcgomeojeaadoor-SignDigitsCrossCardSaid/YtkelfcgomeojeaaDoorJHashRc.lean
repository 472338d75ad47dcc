import Derived.Lib.ConvBytes
import Derived.Test.YtkelfcgomeojeaaDoorJHashL
import Derived.Test.YtkelfcgomeojeaaDoorJHashM
import Derived.Test.YtkelfcgomeojeaaDoorJHashN2
import Derived.Test.YtkelfcgomeojeaaDoorJHashRa
import Derived.Test.YtkelfcgomeojeaaDoorJSignRa
import Derived.Test.YtkelfcgomeojeaaDoorJVars
import Derived.Test.YtkelfcgomeojeaaDoorJWireK0
import Derived.Test.YtkelfcgomeojeaaDoorJWireRc0

section
/- A text's bytes in a new row; Mac with its result under a name. -/



namespace Go.Proofs.YtkelfcgomeojeaaDoor
open Go.RowKit
set_option linter.unusedVariables false

/-- A text's bytes in a new row, whatever its place. -/
theorem conv_rd (W : World) (s : ByteArray) : ∃ W' A c, (convert 9 51 (.string s)).run Tryd.prog W = .ok (.slice A s.size c) W' ∧ RdB W' W'.heap.size A (sb s) ∧ Below W.heap.size W W' := by
  obtain ⟨W1, c1, hcv, hcell, hb1⟩ := conv_str W s
  refine ⟨W1, _, c1, hcv, fun h0 => ?_, hb1⟩
  have hs : 0 < s.size := by rw [List.length_map, sb_len] at h0; exact h0
  have hlt : W.heap.size < W1.heap.size := by
    by_cases h : W1.heap.size ≤ W.heap.size
    · exfalso
      have h1 : ((sb s).map bv)[0]? = some (((sb s).map bv)[0]'(by rw [List.length_map, sb_len]; omega)) := List.getElem?_eq_getElem _
      have := block_lt_of_cell (hcell 0 _ h1)
      simp [Addr.add] at this
      omega
    · omega
  exact ⟨W.heap.size, 0, rfl, hlt, fun j u hu => by
    have := hcell j u hu
    rwa [Addr.add_mid] at this⟩
/-- The same, with what is known of its capacity. -/
theorem conv_rdc (W : World) (s : ByteArray) (hs : s.size ≤ maxLen) : ∃ W' A c, (convert 9 51 (.string s)).run Tryd.prog W = .ok (.slice A s.size c) W' ∧ RdB W' W'.heap.size A (sb s) ∧ s.size ≤ c ∧ c ≤ maxLen ∧ Below W.heap.size W W' := by
  obtain ⟨W', A, c, h1, h2, h3⟩ := conv_rd W s
  have h := h1.symm.trans (Lib.run_convert_string_bytes W _ _ 5 s Tryd.underlying9 Tryd.underlying51 Tryd.underlying5)
  injection h with e1 e2
  injection e1 with e3 e4 e5
  refine ⟨W', A, c, h1, h2, ?_, ?_, h3⟩
  · rw [e5]; exact grownCap_ge W s.size 0 _
  · rw [e5]; exact grownCap_le_maxLen W s.size 0 _ hs
theorem sb_append (a b : ByteArray) : sb (a ++ b) = sb a ++ sb b := by simp [sb]
theorem mac_to (k t : ByteArray) (m : ByteArray) (W : World) (hm : m = bs (mac (sb k) (sb t))) (hk : k.size ≤ 1000) (ht : t.size ≤ 1000) (hT : HTab W) :
    Calls Tryd.prog 47 #[.string k, .string t] W fun e w' => e = .returned (.string m) ∧ Below W.heap.size W w' := by
  subst hm
  exact mac_any k t W (by omega) (by omega) hT

end Go.Proofs.YtkelfcgomeojeaaDoor
end

section
/- The contract of sign.digestAt. -/




namespace Go.Proofs.YtkelfcgomeojeaaDoor
open Go.RowKit
set_option linter.unusedVariables false
set_option maxRecDepth 100000

set_option maxHeartbeats 4000000 in
theorem digestAt_any (s : ByteArray) (p : Nat) (w : World) (hs : p * 16 + 16 ≤ s.size) (hm : s.size ≤ 1000000000) :
    Calls Tryd.prog 50 #[.string s, .int .i64 p] w fun e w' => e = .returned (.agg ((((sb s).drop (p * 16)).take 16).map bv).toArray) ∧ Below w.heap.size w w' := by
  obtain ⟨hzd, -⟩ := zero_of_info dig_zero
  obtain ⟨Zd, hZd⟩ : ∃ Zd, Zd = (H.zeros 16).map bv := ⟨_, rfl⟩
  rw [← hZd] at hzd
  have lZd : Zd.length = 16 := by rw [hZd, List.length_map, H.zeros_len]
  obtain ⟨D, hD⟩ : ∃ D, D = (((sb s).drop (p * 16)).take 16).map bv := ⟨_, rfl⟩
  have lD : D.length = 16 := by rw [hD, List.length_map, List.length_take, List.length_drop, sb_len]; omega
  have yD := size_dig lD
  have oD : D.toArray.all (·.oneCell') = true := all_oneCell_toArray (by rw [hD]; exact bytes_one _)
  obtain ⟨W0, hW0⟩ : ∃ W0, W0 = w.alloc (.cells Zd.toArray 23) := ⟨_, rfl⟩
  have hb0 : Blk W0 w.heap.size Zd 23 := by rw [hW0]; exact Blk.new w _ _
  have hbel0 : Below w.heap.size w W0 := by rw [hW0]; exact (Below.refl _ _).alloc (Nat.le_refl _) _
  rw [← hD]
  have HW0 := Lib.hid hW0
  have H0 := Lib.hid (And.intro hb0 hbel0)
  have i1 : p < 9223372036854775808 := by omega
  have HD := Lib.hid hD
  clear hZd hD hW0 hb0 hbel0
  go_enter Tryd.func50, Tryd.ntmps50
  go_wp2_with fail
  rw [← HW0.out]
  obtain ⟨x, hx⟩ : ∃ x, x = s.extract (p * 16) ((p + 1) * 16) := ⟨_, rfl⟩
  have hxs : x.size = 16 := by rw [hx]; simp; omega
  have hxb : (sb x).map bv = D := by
    rw [HD.out, hx]
    congr 1
    show (s.extract (p * 16) ((p + 1) * 16)).data.toList = _
    rw [Lib.extract_data]
    rw [show (p + 1) * 16 - p * 16 = 16 by omega]
    rfl
  rw [← hx]
  obtain ⟨W1, A, c, hcv, hr, hc1, hc2, hb1⟩ := conv_rdc W0 x (by rw [hxs]; decide)
  rw [hxs] at hcv hc1
  unfold RdB at hr
  rw [hxb] at hr
  obtain ⟨b, off, rfl, hlt, hcell⟩ := hr (by omega)
  have hap : ∀ W : World, (Instr.arrayAt 23 (.slice (some ⟨b, off, none⟩) 16 c)).run Tryd.prog W = .ok (.pointer (some ⟨b, off, none⟩)) W := fun W => run_arrayAt W 23 5 16 (some ⟨b, off, none⟩) 16 c Tryd.underlying23 (by omega)
  have hB := H0.out.1.lt
  have hb2 := H0.out.1.below hb1 hB
  have t2 : W1.there w.heap.size 0 D.toArray.size := hb2.there 0 _ (by rw [List.size_toArray, lD, lZd]; omega)
  have d2 := hb2.whole D (by rw [lD, lZd])
  have b3 : Below w.heap.size w (W1.setCells w.heap.size 0 D) := below_setCells _ (Nat.le_refl _) _ _ _ (H0.out.2.trans (hb1.mono H0.out.2.size))
  have HR := Lib.hid hcell
  have T2 := Lib.hid t2
  have D2 := Lib.hid d2
  have B3 := Lib.hid b3
  have YD := Lib.hid yD
  rw [hcv]
  clear hcv
  clear hx hxs hxb hr hcell hb1 hb2 t2 d2 b3 H0 HW0 yD hlt hB HD
  go_wp2_with (first | (refine wpList_load_mid rfl 23 (.tmp 13) rfl b off rfl D _ HR.out Tryd.underlying23 rfl (by rw [← List.size_toArray]; exact YD.out) ?_) | (refine wpList_store_mid rfl 23 (.tmp 4) (.tmp 14) rfl w.heap.size 0 D.toArray rfl rfl T2.out YD.out oD ?_))
  refine bodyPost_ret (results_cell_row rfl _ _ w.heap.size 23 _ (0, 0) _ rfl D2.out Tryd.underlying23 rfl YD.out) rfl ⟨rfl, B3.out⟩
end Go.Proofs.YtkelfcgomeojeaaDoor
end

section
/- The contracts of the reference's padKey and Mac. -/




namespace Go.Proofs.YtkelfcgomeojeaaDoor
open Go.RowKit
set_option linter.unusedVariables false
set_option maxRecDepth 100000

theorem padK_at (k : List UInt8) (c : UInt8) (hk : k.length ≤ 64) (j : Nat) (hj : j < 64) : (padK k c).take (j + 1) = (padK k c).take j ++ [(k ++ H.zeros (64 - k.length)).getD j 0 ^^^ c] := by
  have hl : (k ++ H.zeros (64 - k.length)).length = 64 := by rw [List.length_append, H.zeros_len]; omega
  have h : (padK k c)[j]? = some ((k ++ H.zeros (64 - k.length)).getD j 0 ^^^ c) := by
    unfold padK
    rw [List.getElem?_map, getD_at _ j 0 (by omega)]
    rfl
  rw [List.take_add_one, h]
  rfl
theorem pad_key (k : List UInt8) (j : Nat) (h : j < k.length) (n : Nat) : (k ++ H.zeros n).getD j 0 = k.getD j 0 := by
  rw [List.getD_eq_getElem?_getD, List.getElem?_append_left h, ← List.getD_eq_getElem?_getD]
theorem pad_zero (k : List UInt8) (j : Nat) (h : k.length ≤ j) (n : Nat) : (k ++ H.zeros n).getD j 0 = 0 := by
  rw [List.getD_eq_getElem?_getD, List.getElem?_append_right h]
  unfold H.zeros
  rw [List.getElem?_replicate]
  split <;> rfl

set_option maxRecDepth 100000 in
set_option maxHeartbeats 4000000 in
theorem refPadKey_any (s : ByteArray) (c : UInt8) (z : Int) (w : World) (hz : z = (c.toNat : Int)) (hs : s.size ≤ 1000) (hR : RTab w) :
    Calls Tryd.prog 65 #[.string s, .int .u8 z] w (Makes (padK (macKey (sb s)) c) w) := by
  subst hz
  have HR := Lib.hid hR
  have hmk := macKey_len (sb s)
  obtain ⟨kk, hkk⟩ : ∃ kk, kk = bs (macKey (sb s)) := ⟨_, rfl⟩
  have hks : kk.size ≤ 64 := by rw [hkk, bbytes_size]; exact hmk
  have hkb : sb kk = macKey (sb s) := by rw [hkk, sb_bs]
  have hpl := padK_len (macKey (sb s)) c hmk
  have HK := Lib.hid (And.intro hkk hkb)
  obtain ⟨P, hP⟩ : ∃ P, P = padK (macKey (sb s)) c := ⟨_, rfl⟩
  have hat : ∀ j, j < 64 → P.take (j + 1) = P.take j ++ [(sb kk ++ H.zeros (64 - kk.size)).getD j 0 ^^^ c] := fun j hj => by
    rw [hP, hkb, ← sb_len kk, hkb]
    exact padK_at _ c hmk j hj
  rw [← hP] at hpl ⊢
  have Hat := Lib.hid hat
  have HPl := Lib.hid hpl
  clear hmk hkk hkb hpl hR hat hP
  go_enter Tryd.func65, Tryd.ntmps65
  go_upto_if 12 with (fail)
  go_cut [5] (fun s0 wx => s0 = .string kk ∧ Below w.heap.size w wx)
  case first =>
    by_cases h64 : 64 < s.size
    · have h64' : (64 : Int) < s.size := by omega
      have hd : decide ((64 : Int) < s.size) = true := by simp; omega
      obtain ⟨W1, A, c1, hcv, hr, hb1⟩ := conv_rd w s
      have hc := refSum_any A c1 (sb s) W1 hr (by rw [sb_len]; omega) (HR.out.below hb1 (Nat.le_refl _))
      rw [sb_len] at hc
      have hk : kk = bs (H.sha (sb s)) := by rw [HK.out.1]; unfold macKey; rw [if_pos (by rw [sb_len]; exact h64)]
      have HC := Lib.hid hc
      have Hk := Lib.hid hk
      clear hr hc hk h64
      go_wp2_with fail
      refine HC.out.mono ?_
      rintro e w2 ⟨rfl, hb2⟩
      have hbb := hb1.trans (hb2.mono hb1.size)
      clear hcv hb1 hb2 HC
      go_wp2_with fail
      refine (bytes32_any (H.sha (sb s)) w2 (H.sha_len _)).mono ?_
      rw [← Hk.out]
      rintro e w3 ⟨rfl, hb3⟩
      have hb4 := Lib.hid (hbb.trans (hb3.mono hbb.size))
      clear hbb hb3
      go_wp2_with fail
      go_meet
      case rel => exact ⟨rfl, hb4.out⟩
    · have h64' : (s.size : Int) ≤ 64 := by omega
      have hd : decide ((64 : Int) < s.size) = false := by simp; omega
      have hk : kk = s := by rw [HK.out.1]; unfold macKey; rw [if_neg (by rw [sb_len]; exact h64), bs_sb]
      have Hk := Lib.hid hk
      clear h64 hk
      go_wp2_with fail
      go_meet
      case rel => exact ⟨by rw [Hk.out], Below.refl _ _⟩
  case rest =>
    obtain ⟨rfl, hbc⟩ := hcut
    have HB := Lib.hid hbc
    clear hbc
    go_wp2_with fail
    go_loopw [6, 7] (fun v i wr => ∃ j : Nat, j ≤ 64 ∧ i = .int .i64 j ∧ wr.ownsRow w.heap.size 5 1 v (P.take j).length ((P.take j).map bv) ∧ Below w.heap.size w wr) (fun _ i _ => 64 - (intOf i).toNat)
    case atStart => exact ⟨0, Nat.zero_le _, rfl, own_nil _ _ _ _, HB.out⟩
    case round =>
      clear HB
      obtain ⟨j, hj, rfl, hown, hbel⟩ := hrel
      by_cases hlt : j < 64
      · have ij : (j : Int) < 64 := by omega
        have ij0 : (0 : Int) ≤ j := by omega
        obtain ⟨x, hx⟩ : ∃ x, x = (sb kk ++ H.zeros (64 - kk.size)).getD j 0 := ⟨_, rfl⟩
        have hnx := Hat.out j hlt
        rw [← hx] at hnx
        have hbx : Value.int .u8 (bits .xor .u8 (x.toNat : Int) (c.toNat : Int)) = bv (x ^^^ c) := by rw [bxor8]; rfl
        have hrd : RdB (wr.alloc (.cells #[.int .u8 (bits .xor .u8 (x.toNat : Int) (c.toNat : Int))] 5)) (wr.alloc (.cells #[.int .u8 (bits .xor .u8 (x.toNat : Int) (c.toNat : Int))] 5)).heap.size (some ⟨wr.heap.size, 0, none⟩) [x ^^^ c] := by
          have := rd_new wr [bv (x ^^^ c)] 5
          rw [hbx]
          exact this
        have hlen : (P.take j).length ≤ 64 := by rw [List.length_take]; omega
        have Hrd := Lib.hid hrd
        have Hnx := Lib.hid hnx
        have Hx := Lib.hid hx
        clear hrd hbx hnx hx
        by_cases hin : j < kk.size
        · have i1 : (j : Int) < kk.size := by omega
          have hd1 : decide ((j : Int) < kk.size) = true := by simp; omega
          have ix := index_sb kk .i64 j hin wr
          have hxe : (sb kk).getD j 0 = x := by rw [Hx.out, pad_key _ _ (by rw [sb_len]; exact hin)]
          rw [hxe] at ix
          clear hxe hin
          go_wp2_with (at_builtin; refine wpList_append_ownB _ rfl (.tmp 28) (.tmp 32) rfl w.heap.size _ (P.take j) [x ^^^ c] (some ⟨wr.heap.size, 0, none⟩) 1 rfl rfl (hown.alloc _) Hrd.out (by simp; omega) (by have := hbel.size; simp; omega) ?_; intro v4 w4 hown4 hgrow4; have hb4 := Lib.hid ((hbel.alloc hbel.size (.cells #[.int .u8 (bits .xor .u8 (x.toNat : Int) (c.toNat : Int))] 5)).grown hgrow4 (by have := hbel.size; simp; omega) (fun j hj => (hown.lt j hj).1)); rw [← Hnx.out] at hown4; clear hgrow4 hown hbel)
          exact ⟨⟨j + 1, by omega, by go_num, hown4, hb4.out⟩, by simp [intOf]; omega⟩
        · have i1 : (kk.size : Int) ≤ j := by omega
          have hd1 : decide ((j : Int) < kk.size) = false := by simp; omega
          have hx0 : x = 0 := by rw [Hx.out, pad_zero _ _ (by rw [sb_len]; omega)]
          subst hx0
          clear hin
          go_wp2_with (at_builtin; refine wpList_append_ownB _ rfl (.tmp 28) (.tmp 32) rfl w.heap.size _ (P.take j) [0 ^^^ c] (some ⟨wr.heap.size, 0, none⟩) 1 rfl rfl (hown.alloc _) Hrd.out (by simp; omega) (by have := hbel.size; simp; omega) ?_; intro v4 w4 hown4 hgrow4; have hb4 := Lib.hid ((hbel.alloc hbel.size (.cells #[.int .u8 (bits .xor .u8 ((0 : UInt8).toNat : Int) (c.toNat : Int))] 5)).grown hgrow4 (by have := hbel.size; simp; omega) (fun j hj => (hown.lt j hj).1)); rw [← Hnx.out] at hown4; clear hgrow4 hown hbel)
          exact ⟨⟨j + 1, by omega, by go_num, hown4, hb4.out⟩, by simp [intOf]; omega⟩
      · have hj64 : j = 64 := by omega
        have ij : (64 : Int) ≤ j := by omega
        rw [hj64, List.take_of_length_le (by rw [HPl.out]; omega)] at hown
        have Ho := Lib.hid hown
        clear hj64 hown
        go_wp2_with fail
        go_ret
        exact ⟨_, rfl, Ho.out, hbel⟩
end Go.Proofs.YtkelfcgomeojeaaDoor
end

