/- The contract of hash.Sum. -/
import Derived.Test.YtmlnpnlajgnohaaDoorHashI
import Derived.Test.YtmlnpnlajgnohaaDoorWireG1
import Derived.Test.YtmlnpnlajgnohaaDoorTail
namespace Go.Proofs.YtmlnpnlajgnohaaDoor
open Go.RowKit
set_option linter.unusedVariables false

theorem bbytes_size (l : List UInt8) : (bs l).size = l.length := by simp [bs, ByteArray.size]
theorem begin_strm (w : World) : Calls Tryd.prog 14 #[] w fun e w' => e = .returned (.agg (Strm []).toArray) ∧ Below w.heap.size w w' := begin_any w

set_option maxRecDepth 100000 in
set_option maxHeartbeats 2000000 in
theorem hsum_any (A : Option Addr) (cap : Nat) (l : List UInt8) (w : World) (hr : RdB w w.heap.size A l) (hl : l.length ≤ 100000000) (ht : HTab w) :
    Calls Tryd.prog 11 #[.slice A l.length cap] w fun e w' => e = .returned (.agg ((H.sha l).map bv).toArray) ∧ Below w.heap.size w w' := by
  obtain ⟨hz, -⟩ := zero_of_info sum_zero
  obtain ⟨Z, hZ⟩ : ∃ Z, Z = (H.zeros 32).map bv := ⟨_, rfl⟩
  rw [← hZ] at hz
  have lZ : Z.length = 32 := by rw [hZ, List.length_map, H.zeros_len]
  obtain ⟨R, hR⟩ : ∃ R, R = (H.sha l).map bv := ⟨_, rfl⟩
  have hRl : R.length = 32 := by rw [hR, List.length_map, H.sha_len]
  rw [← hR]
  obtain ⟨s, hs⟩ : ∃ s, s = bs l := ⟨_, rfl⟩
  have hsb : sb s = l := by rw [hs]; exact sb_bs l
  have hsl : s.size ≤ 100000000 := by rw [hs, bbytes_size]; exact hl
  obtain ⟨W0, hW0⟩ : ∃ W0, W0 = w.alloc (.cells Z.toArray 24) := ⟨_, rfl⟩
  have hbel0 : Below w.heap.size w W0 := by rw [hW0]; exact (Below.refl _ _).alloc (Nat.le_refl _) _
  have hb0 : Blk W0 w.heap.size Z 24 := by rw [hW0]; exact Blk.new w Z _
  have hs0 : W0.heap.size = w.heap.size + 1 := by rw [hW0]; simp only [World.size_alloc]
  obtain ⟨n, hn⟩ : ∃ n, n = l.length := ⟨_, rfl⟩
  have hcv : ∀ x : BelS W0.heap.size W0, (convert 22 9 (.slice A n cap)).run Tryd.prog x.at = .ok (.string s) x.at := fun x => by
    rw [hs, hn]
    exact conv_bytes x.at _ A l cap ((hr.below hbel0).keep fun p hp => x.out.cell (by omega))
  have hbeg : ∀ x : BelS W0.heap.size W0, Calls Tryd.prog 14 #[] x.at fun e w' => e = .returned (.agg (Strm []).toArray) ∧ ∃ y : BelS W0.heap.size W0, w' = y.at := fun x =>
    (begin_strm x.at).mono fun e w' ⟨h1, h2⟩ => ⟨h1, BelS.of (x.out.trans (h2.mono x.out.size))⟩
  have hadd : ∀ x : BelS W0.heap.size W0, Calls Tryd.prog 15 #[.agg (Strm []).toArray, .string s] x.at fun e w' => e = .returned (.agg (Strm l).toArray) ∧ ∃ y : BelS W0.heap.size W0, w' = y.at := fun x =>
    (add_any [] s x.at (by simp; omega) ((ht.below hbel0 (Nat.le_refl _)).below x.out (Nat.le_refl _))).mono fun e w' ⟨h1, h2⟩ => ⟨by rw [h1, hsb]; rfl, BelS.of (x.out.trans (h2.mono x.out.size))⟩
  have hsum : ∀ x : BelS W0.heap.size W0, Calls Tryd.prog 17 #[.agg (Strm l).toArray] x.at fun e w' => e = .returned (.agg R.toArray) ∧ ∃ y : BelS W0.heap.size W0, w' = y.at := fun x =>
    (sum_any l x.at (by omega) ((ht.below hbel0 (Nat.le_refl _)).below x.out (Nat.le_refl _))).mono fun e w' ⟨h1, h2⟩ => ⟨by rw [h1, hR], BelS.of (x.out.trans (h2.mono x.out.size))⟩
  have y1 := size_sum hRl
  have o : R.toArray.all (·.oneCell') = true := all_oneCell_toArray (by rw [hR]; exact bytes_one _)
  obtain ⟨S0, hS0⟩ : ∃ S0, S0 = (Strm []).toArray := ⟨_, rfl⟩
  obtain ⟨S1, hS1⟩ : ∃ S1, S1 = (Strm l).toArray := ⟨_, rfl⟩
  rw [← hn]
  rw [← hS0] at hbeg hadd
  rw [← hS1] at hadd hsum
  have K := Lib.hid (And.intro hbel0 (And.intro hb0 (And.intro hs0 (And.intro hRl lZ))))
  have HCV := Lib.hid hcv
  have HB := Lib.hid hbeg
  have HA := Lib.hid hadd
  have HS := Lib.hid hsum
  have HW0 := Lib.hid hW0
  have Y1 := Lib.hid y1
  clear hZ lZ hR hRl hs hsb hsl hbel0 hb0 hs0 hcv hbeg hadd hsum hS0 hS1 y1 hr hn hW0
  go_enter Tryd.func11, Tryd.ntmps11
  go_wp2_with fail
  rw [← HW0.out]
  refine wp_region_headB 5 W0.heap.size (by kernel_rfl) (by kernel_rfl) ?_
  simp only [List.take_succ_cons, List.take_zero, List.drop_succ_cons, List.drop_zero]
  go_big_quiet_step (exact HB.out _)
  go_big_quiet_step (fail)
  refine wpQuiet_convert rfl 22 9 (.tmp 4) rfl (.slice A n cap) rfl (.string s) (fun w' hw' => by obtain ⟨x, rfl⟩ := hw'; exact HCV.out x) ?_
  go_simp
  go_big_quiet_step (exact HA.out _)
  go_big_quiet_step (exact HS.out _)
  refine wpQuiet_nil ?_
  intro x
  obtain ⟨hbel0, hb0, hs0, hRl, lZ⟩ := K.out
  have hb1 : Blk x.at w.heap.size Z 24 := hb0.below x.out (by omega)
  have t1 : x.at.there w.heap.size 0 R.toArray.size := hb1.there 0 _ (by rw [List.size_toArray, hRl, lZ]; omega)
  have d1 := hb1.whole R (by rw [hRl, lZ])
  have e1 : Below w.heap.size w (x.at.setCells w.heap.size 0 R) := below_setCells _ (Nat.le_refl _) _ _ _ (hbel0.trans (x.out.mono (by omega)))
  have T1 := Lib.hid t1
  have D1 := Lib.hid d1
  have E1 := Lib.hid e1
  clear hbel0 hb0 hs0 hRl lZ hb1 t1 d1 e1
  go_wp2_with (refine wpList_store_mid rfl 24 (.tmp 2) (.tmp 7) rfl w.heap.size 0 R.toArray rfl rfl T1.out Y1.out o ?_)
  exact bodyPost_ret (results_cell_row rfl _ _ w.heap.size 24 _ (0, 0) _ rfl D1.out Tryd.underlying24 rfl Y1.out) rfl ⟨rfl, E1.out⟩
end Go.Proofs.YtmlnpnlajgnohaaDoor
