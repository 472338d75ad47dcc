/- The contract of hash.padded. -/
import Derived.Test.YtmlnpnlajgnohaaDoorHashJ
namespace Go.Proofs.YtmlnpnlajgnohaaDoor
open Go.RowKit
set_option linter.unusedVariables false

theorem bxor8 (x y : UInt8) : bits .xor .u8 (x.toNat : Int) (y.toNat : Int) = ((x ^^^ y).toNat : Int) := by
  rw [u8_xor_nat _ _ x.toNat_lt y.toNat_lt, UInt8.toNat_xor]
/-- A key, extended to a block, every byte combined with c. -/
def padK (k : List UInt8) (c : UInt8) : List UInt8 := (k ++ H.zeros (64 - k.length)).map (· ^^^ c)
theorem padK_len (k : List UInt8) (c : UInt8) (h : k.length ≤ 64) : (padK k c).length = 64 := by simp [padK, H.zeros_len]; omega
def mixed (b : List UInt8) (c : UInt8) (k : Nat) : List UInt8 := (b.take k).map (· ^^^ c) ++ b.drop k
theorem mixed_len (b : List UInt8) (c : UInt8) (k : Nat) (h : k ≤ b.length) : (mixed b c k).length = b.length := by simp [mixed]; omega
theorem mixed_at (b : List UInt8) (c : UInt8) (k : Nat) (h : k < b.length) : (mixed b c k)[k]? = some (b.getD k 0) := by
  unfold mixed
  rw [List.getElem?_append_right (by simp; omega)]
  simp [List.getElem?_eq_getElem h, show k - min k b.length = 0 by omega]
theorem mixed_set (b : List UInt8) (c : UInt8) (k : Nat) (h : k < b.length) : (mixed b c k).set k (b.getD k 0 ^^^ c) = mixed b c (k + 1) := by
  unfold mixed
  have hl : ((b.take k).map (· ^^^ c)).length = k := by simp; omega
  rw [List.set_append_right _ _ (by omega), hl, Nat.sub_self, List.drop_eq_getElem_cons h, List.set_cons_zero, List.take_add_one, List.getElem?_eq_getElem h, show b.getD k 0 = b[k] from by simp [h]]
  simp only [List.map_append, Option.toList, List.map_cons, List.map_nil, List.append_assoc, List.cons_append, List.nil_append]
theorem mixed_full (b : List UInt8) (c : UInt8) (k : Nat) (h : k = b.length) : mixed b c k = b.map (· ^^^ c) := by
  unfold mixed
  rw [h, List.take_length, List.drop_length, List.append_nil]
theorem slice_b64 (W : World) (b : Nat) :
    (Instr.sliceAt 31 (.pointer (some ⟨b, 0, none⟩)) none none none).run Tryd.prog W = .ok (.slice (some ⟨b, 0, none⟩) 64 64) W := by
  have h := run_sliceAt_array_all (P := Tryd.prog) W 31 ⟨b, 0, none⟩ (by kernel_rfl)
  rw [h]
  have h1 : Tryd.prog.arrayLen 31 = 64 := by kernel_rfl
  have h2 : (sizeOf (Tryd.prog.elem 31)).run Tryd.prog W = .ok 1 W := by kernel_rfl
  rw [h1, h2]
  simp [slicedAt, Addr.add]
theorem slice_b32 (W : World) (b : Nat) :
    (Instr.sliceAt 24 (.pointer (some ⟨b, 0, none⟩)) none none none).run Tryd.prog W = .ok (.slice (some ⟨b, 0, none⟩) 32 32) W := by
  have h := run_sliceAt_array_all (P := Tryd.prog) W 24 ⟨b, 0, none⟩ (by kernel_rfl)
  rw [h]
  have h1 : Tryd.prog.arrayLen 24 = 32 := by kernel_rfl
  have h2 : (sizeOf (Tryd.prog.elem 24)).run Tryd.prog W = .ok 1 W := by kernel_rfl
  rw [h1, h2]
  simp [slicedAt, Addr.add]

set_option maxRecDepth 100000 in
set_option maxHeartbeats 2000000 in
theorem padded_any (s : ByteArray) (c : UInt8) (z : Int) (w : World) (hz : z = (c.toNat : Int)) (hs : s.size ≤ 64) :
    Calls Tryd.prog 32 #[.string s, .int .u8 z] w fun e w' => e = .returned (.string (bs (padK (sb s) c))) ∧ Below w.heap.size w w' := by
  subst hz
  obtain ⟨hzb, -⟩ := zero_of_info block_zero
  obtain ⟨Zb, hZb⟩ : ∃ Zb, Zb = (H.zeros 64).map bv := ⟨_, rfl⟩
  rw [← hZb] at hzb
  have lZb : Zb.length = 64 := by rw [hZb, List.length_map, H.zeros_len]
  obtain ⟨b, hb⟩ : ∃ b, b = sb s ++ H.zeros (64 - s.size) := ⟨_, rfl⟩
  have hbl : b.length = 64 := by rw [hb, List.length_append, sb_len, H.zeros_len]; omega
  have hfin : padK (sb s) c = b.map (· ^^^ c) := by unfold padK; rw [hb, sb_len]
  obtain ⟨W0, hW0⟩ : ∃ W0, W0 = w.alloc (.cells Zb.toArray 31) := ⟨_, rfl⟩
  have hb0 : Blk W0 w.heap.size Zb 31 := by rw [hW0]; exact Blk.new w _ _
  have hbel0 : Below w.heap.size w W0 := by rw [hW0]; exact (Below.refl _ _).alloc (Nat.le_refl _) _
  obtain ⟨W1, hW1⟩ : ∃ W1, W1 = W0.setCells w.heap.size 0 ((sb s).map bv) := ⟨_, rfl⟩
  have hrun : (Builtin.copy_ #[22, 9] 3 #[.slice (some ⟨w.heap.size, 0, none⟩) 64 64, .string s]).run Tryd.prog W0 = .ok (goInt s.size) W1 := by
    have := run_copy_min (P := Tryd.prog) W0 22 9 3 5 w.heap.size 0 64 64 s Tryd.underlying22 size_u8 s.size (by omega) (hb0.there 0 _ (by omega))
    rw [List.take_of_length_le (by rw [sb_len]; omega)] at this
    rw [hW1]
    exact this
  have hb1 : Blk W1 w.heap.size (b.map bv) 31 := by
    rw [hW1]
    have := set_all ((sb s).map bv) Zb 0 W0 _ _ hb0 (by rw [List.length_map, sb_len]; omega)
    have e : Zb.take 0 ++ (sb s).map bv ++ Zb.drop (0 + ((sb s).map bv).length) = b.map bv := by
      rw [hb, hZb]
      simp only [List.take_zero, List.nil_append, List.map_append, List.length_map, sb_len, Nat.zero_add, H.zeros, List.map_replicate, List.drop_replicate]
    rwa [e] at this
  have hbel1 : Below w.heap.size w W1 := by rw [hW1]; exact below_setCells _ (Nat.le_refl _) _ _ _ hbel0
  have hsl := fun W => slice_b64 W w.heap.size
  have K1 := Lib.hid (And.intro hb1 hbel1)
  have HBl := Lib.hid hbl
  have HF := Lib.hid hfin
  have HW0 := Lib.hid hW0
  have HR := Lib.hid hrun
  clear hZb lZb hb hbl hfin hb0 hbel0 hW0 hrun hb1 hbel1 hW1
  go_enter Tryd.func32, Tryd.ntmps32
  go_wp2_with (rw [← HW0.out]; refine Lib.wpList_copy_run _ rfl (.tmp 7) (.tmp 8) 22 9 rfl _ _ rfl rfl HR.out ?_)
  go_loopw [10] (fun i wr => ∃ k : Nat, k ≤ 64 ∧ i = .int .i64 k ∧ Blk wr w.heap.size ((mixed b c k).map bv) 31 ∧ Below w.heap.size w wr) (fun i _ => 64 - (intOf i).toNat)
  case atStart => exact ⟨0, by omega, rfl, by simpa [mixed] using K1.out.1, K1.out.2⟩
  case round =>
    clear K1
    obtain ⟨k, hk, rfl, hB, hbel⟩ := hrel
    by_cases hlt : k < 64
    · obtain ⟨x, hx⟩ : ∃ x, x = b.getD k 0 := ⟨_, rfl⟩
      have g1 : wr.cell? ⟨w.heap.size, k, none⟩ = some (.int .u8 (x.toNat : Int)) := hB.cell k (bv x) (by rw [List.getElem?_map, mixed_at b c k (by rw [HBl.out]; exact hlt), hx]; rfl)
      have f1 : wr.frozen? ⟨w.heap.size, k, none⟩ = false := hB.frozen _
      have hB2 := hB.set k (bv (x ^^^ c))
      rw [← List.map_set, hx, mixed_set b c k (by rw [HBl.out]; exact hlt), ← hx] at hB2
      have hbel2 : Below w.heap.size w (wr.setCell ⟨w.heap.size, k, none⟩ (bv (x ^^^ c))) := hbel.setCell (Nat.le_refl _) _
      have hv : bv (x ^^^ c) = .int .u8 (bits .xor .u8 (x.toNat : Int) (c.toNat : Int)) := by rw [bxor8]; rfl
      rw [hv] at hB2 hbel2
      have K2 := Lib.hid (And.intro hB2 hbel2)
      have hlt' : (k : Int) < 64 := by omega
      clear hx hB hB2 hbel2 hv hsl
      go_wp2_with fail
      exact ⟨⟨k + 1, by omega, by go_num, K2.out.1, K2.out.2⟩, by simp [intOf]; omega⟩
    · have hk64 : k = 64 := by omega
      rw [hk64, mixed_full b c 64 HBl.out.symm, ← HF.out] at hB
      have hr : RdB wr (w.heap.size + 1) (some ⟨w.heap.size, 0, none⟩) (padK (sb s) c) := fun _ => ⟨w.heap.size, 0, rfl, by omega, fun j u hu => by rw [Nat.zero_add]; exact hB.cell j u hu⟩
      have hcv := conv_bytes wr _ _ _ 64 hr
      rw [padK_len _ _ (by rw [sb_len]; exact hs)] at hcv
      have hge : (64 : Int) ≤ k := by omega
      obtain ⟨R, hR⟩ : ∃ R, R = bs (padK (sb s) c) := ⟨_, rfl⟩
      rw [← hR] at hcv
      have HR2 := Lib.hid hR
      clear hk64 hr hB hR
      go_wp2_with fail
      go_ret
      exact ⟨by rw [HR2.out]; rfl, hbel⟩
end Go.Proofs.YtmlnpnlajgnohaaDoor
