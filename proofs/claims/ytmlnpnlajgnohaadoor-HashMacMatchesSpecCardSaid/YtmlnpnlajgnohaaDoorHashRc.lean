/- The contracts of the reference's padKey and Mac. -/
import Derived.Test.YtmlnpnlajgnohaaDoorHashRb
namespace Go.Proofs.YtmlnpnlajgnohaaDoor
open Go.RowKit
set_option linter.unusedVariables false

theorem padK_at (k : List UInt8) (c : UInt8) (hk : k.length ≤ 64) (j : Nat) (hj : j < 64) : (padK k c).take (j + 1) = (padK k c).take j ++ [(k ++ H.zeros (64 - k.length)).getD j 0 ^^^ c] := by
  have hl : (k ++ H.zeros (64 - k.length)).length = 64 := by rw [List.length_append, H.zeros_len]; omega
  have h : (padK k c)[j]? = some ((k ++ H.zeros (64 - k.length)).getD j 0 ^^^ c) := by
    unfold padK
    rw [List.getElem?_map, getD_at _ j 0 (by omega)]
    rfl
  rw [List.take_add_one, h]
  rfl
theorem pad_key (k : List UInt8) (j : Nat) (h : j < k.length) (n : Nat) : (k ++ H.zeros n).getD j 0 = k.getD j 0 := by
  rw [List.getD_eq_getElem?_getD, List.getElem?_append_left h, ← List.getD_eq_getElem?_getD]
theorem pad_zero (k : List UInt8) (j : Nat) (h : k.length ≤ j) (n : Nat) : (k ++ H.zeros n).getD j 0 = 0 := by
  rw [List.getD_eq_getElem?_getD, List.getElem?_append_right h]
  unfold H.zeros
  rw [List.getElem?_replicate]
  split <;> rfl

set_option maxRecDepth 100000 in
set_option maxHeartbeats 4000000 in
theorem refPadKey_any (s : ByteArray) (c : UInt8) (z : Int) (w : World) (hz : z = (c.toNat : Int)) (hs : s.size ≤ 1000) (hR : RTab w) :
    Calls Tryd.prog 33 #[.string s, .int .u8 z] w (Makes (padK (macKey (sb s)) c) w) := by
  subst hz
  have HR := Lib.hid hR
  have hmk := macKey_len (sb s)
  obtain ⟨kk, hkk⟩ : ∃ kk, kk = bs (macKey (sb s)) := ⟨_, rfl⟩
  have hks : kk.size ≤ 64 := by rw [hkk, bbytes_size]; exact hmk
  have hkb : sb kk = macKey (sb s) := by rw [hkk, sb_bs]
  have hpl := padK_len (macKey (sb s)) c hmk
  have HK := Lib.hid (And.intro hkk hkb)
  obtain ⟨P, hP⟩ : ∃ P, P = padK (macKey (sb s)) c := ⟨_, rfl⟩
  have hat : ∀ j, j < 64 → P.take (j + 1) = P.take j ++ [(sb kk ++ H.zeros (64 - kk.size)).getD j 0 ^^^ c] := fun j hj => by
    rw [hP, hkb, ← sb_len kk, hkb]
    exact padK_at _ c hmk j hj
  rw [← hP] at hpl ⊢
  have Hat := Lib.hid hat
  have HPl := Lib.hid hpl
  clear hmk hkk hkb hpl hR hat hP
  go_enter Tryd.func33, Tryd.ntmps33
  go_upto_if 12 with (fail)
  go_cut [5] (fun s0 wx => s0 = .string kk ∧ Below w.heap.size w wx)
  case first =>
    by_cases h64 : 64 < s.size
    · have h64' : (64 : Int) < s.size := by omega
      have hd : decide ((64 : Int) < s.size) = true := by simp; omega
      obtain ⟨W1, A, c1, hcv, hr, hb1⟩ := conv_rd w s
      have hc := refSum_any A c1 (sb s) W1 hr (by rw [sb_len]; omega) (HR.out.below hb1 (Nat.le_refl _))
      rw [sb_len] at hc
      have hk : kk = bs (H.sha (sb s)) := by rw [HK.out.1]; unfold macKey; rw [if_pos (by rw [sb_len]; exact h64)]
      have HC := Lib.hid hc
      have Hk := Lib.hid hk
      clear hr hc hk h64
      go_wp2_with fail
      refine HC.out.mono ?_
      rintro e w2 ⟨rfl, hb2⟩
      have hbb := hb1.trans (hb2.mono hb1.size)
      clear hcv hb1 hb2 HC
      go_wp2_with fail
      refine (bytes32_any (H.sha (sb s)) w2 (H.sha_len _)).mono ?_
      rw [← Hk.out]
      rintro e w3 ⟨rfl, hb3⟩
      have hb4 := Lib.hid (hbb.trans (hb3.mono hbb.size))
      clear hbb hb3
      go_wp2_with fail
      go_meet
      case rel => exact ⟨rfl, hb4.out⟩
    · have h64' : (s.size : Int) ≤ 64 := by omega
      have hd : decide ((64 : Int) < s.size) = false := by simp; omega
      have hk : kk = s := by rw [HK.out.1]; unfold macKey; rw [if_neg (by rw [sb_len]; exact h64), bs_sb]
      have Hk := Lib.hid hk
      clear h64 hk
      go_wp2_with fail
      go_meet
      case rel => exact ⟨by rw [Hk.out], Below.refl _ _⟩
  case rest =>
    obtain ⟨rfl, hbc⟩ := hcut
    have HB := Lib.hid hbc
    clear hbc
    go_wp2_with fail
    go_loopw [6, 7] (fun v i wr => ∃ j : Nat, j ≤ 64 ∧ i = .int .i64 j ∧ wr.ownsRow w.heap.size 5 1 v (P.take j).length ((P.take j).map bv) ∧ Below w.heap.size w wr) (fun _ i _ => 64 - (intOf i).toNat)
    case atStart => exact ⟨0, Nat.zero_le _, rfl, own_nil _ _ _ _, HB.out⟩
    case round =>
      clear HB
      obtain ⟨j, hj, rfl, hown, hbel⟩ := hrel
      by_cases hlt : j < 64
      · have ij : (j : Int) < 64 := by omega
        have ij0 : (0 : Int) ≤ j := by omega
        obtain ⟨x, hx⟩ : ∃ x, x = (sb kk ++ H.zeros (64 - kk.size)).getD j 0 := ⟨_, rfl⟩
        have hnx := Hat.out j hlt
        rw [← hx] at hnx
        have hbx : Value.int .u8 (bits .xor .u8 (x.toNat : Int) (c.toNat : Int)) = bv (x ^^^ c) := by rw [bxor8]; rfl
        have hrd : RdB (wr.alloc (.cells #[.int .u8 (bits .xor .u8 (x.toNat : Int) (c.toNat : Int))] 5)) (wr.alloc (.cells #[.int .u8 (bits .xor .u8 (x.toNat : Int) (c.toNat : Int))] 5)).heap.size (some ⟨wr.heap.size, 0, none⟩) [x ^^^ c] := by
          have := rd_new wr [bv (x ^^^ c)] 5
          rw [hbx]
          exact this
        have hlen : (P.take j).length ≤ 64 := by rw [List.length_take]; omega
        have Hrd := Lib.hid hrd
        have Hnx := Lib.hid hnx
        have Hx := Lib.hid hx
        clear hrd hbx hnx hx
        by_cases hin : j < kk.size
        · have i1 : (j : Int) < kk.size := by omega
          have hd1 : decide ((j : Int) < kk.size) = true := by simp; omega
          have ix := index_sb kk .i64 j hin wr
          have hxe : (sb kk).getD j 0 = x := by rw [Hx.out, pad_key _ _ (by rw [sb_len]; exact hin)]
          rw [hxe] at ix
          clear hxe hin
          go_wp2_with (at_builtin; refine wpList_append_ownB _ rfl (.tmp 28) (.tmp 32) rfl w.heap.size _ (P.take j) [x ^^^ c] (some ⟨wr.heap.size, 0, none⟩) 1 rfl rfl (hown.alloc _) Hrd.out (by simp; omega) (by have := hbel.size; simp; omega) ?_; intro v4 w4 hown4 hgrow4; have hb4 := Lib.hid ((hbel.alloc hbel.size (.cells #[.int .u8 (bits .xor .u8 (x.toNat : Int) (c.toNat : Int))] 5)).grown hgrow4 (by have := hbel.size; simp; omega) (fun j hj => (hown.lt j hj).1)); rw [← Hnx.out] at hown4; clear hgrow4 hown hbel)
          exact ⟨⟨j + 1, by omega, by go_num, hown4, hb4.out⟩, by simp [intOf]; omega⟩
        · have i1 : (kk.size : Int) ≤ j := by omega
          have hd1 : decide ((j : Int) < kk.size) = false := by simp; omega
          have hx0 : x = 0 := by rw [Hx.out, pad_zero _ _ (by rw [sb_len]; omega)]
          subst hx0
          clear hin
          go_wp2_with (at_builtin; refine wpList_append_ownB _ rfl (.tmp 28) (.tmp 32) rfl w.heap.size _ (P.take j) [0 ^^^ c] (some ⟨wr.heap.size, 0, none⟩) 1 rfl rfl (hown.alloc _) Hrd.out (by simp; omega) (by have := hbel.size; simp; omega) ?_; intro v4 w4 hown4 hgrow4; have hb4 := Lib.hid ((hbel.alloc hbel.size (.cells #[.int .u8 (bits .xor .u8 ((0 : UInt8).toNat : Int) (c.toNat : Int))] 5)).grown hgrow4 (by have := hbel.size; simp; omega) (fun j hj => (hown.lt j hj).1)); rw [← Hnx.out] at hown4; clear hgrow4 hown hbel)
          exact ⟨⟨j + 1, by omega, by go_num, hown4, hb4.out⟩, by simp [intOf]; omega⟩
      · have hj64 : j = 64 := by omega
        have ij : (64 : Int) ≤ j := by omega
        rw [hj64, List.take_of_length_le (by rw [HPl.out]; omega)] at hown
        have Ho := Lib.hid hown
        clear hj64 hown
        go_wp2_with fail
        go_ret
        exact ⟨_, rfl, Ho.out, hbel⟩
end Go.Proofs.YtmlnpnlajgnohaaDoor
