import Derived.Test.YtjdidnonfmdfmaaDoorJHashD

section
/- The contract of Stream.compressed. -/

namespace Go.Proofs.YtjdidnonfmdfmaaDoor
open Go.RowKit
set_option linter.unusedVariables false

theorem block_zero : (Tryd.prog.info? 83).map (fun i => (i.zero, i.size)) = some (some (.agg ((H.zeros 64).map bv).toArray), 64) := by kernel_rfl

set_option maxRecDepth 100000 in
set_option maxHeartbeats 1000000 in
theorem compressed_any (s : H.St) (b : List UInt8) (n : Nat) (w : World) (hb : b.length = 64) (ht : HTab w) :
    Calls Tryd.prog 64 #[.agg (Str s b n).toArray] w fun e w' => e = .returned (.agg (Str (H.compress s b) (H.zeros 64) n).toArray) ∧ Below w.heap.size w w' := by
  obtain ⟨hz, -⟩ := zero_of_info stream_zero
  obtain ⟨hzb, -⟩ := zero_of_info block_zero
  obtain ⟨Z, hZ⟩ : ∃ Z, Z = Str ⟨0, 0, 0, 0, 0, 0, 0, 0⟩ (H.zeros 64) 0 := ⟨_, rfl⟩
  obtain ⟨Zb, hZb⟩ : ∃ Zb, Zb = (H.zeros 64).map bv := ⟨_, rfl⟩
  obtain ⟨X, hX⟩ : ∃ X, X = Str s b n := ⟨_, rfl⟩
  obtain ⟨Ss, hSs⟩ : ∃ Ss, Ss = s.words.map wv := ⟨_, rfl⟩
  obtain ⟨Bs, hBs⟩ : ∃ Bs, Bs = b.map bv := ⟨_, rfl⟩
  obtain ⟨s', hs'⟩ : ∃ s', s' = H.compress s b := ⟨_, rfl⟩
  obtain ⟨Rs, hRs⟩ : ∃ Rs, Rs = s'.words.map wv := ⟨_, rfl⟩
  obtain ⟨F, hF⟩ : ∃ F, F = Str s' (H.zeros 64) n := ⟨_, rfl⟩
  rw [← hZ] at hz
  rw [← hZb] at hzb
  have hcall := fun W h => compress_any s b W hb h
  rw [← hs', ← hRs, ← hSs, ← hBs] at hcall
  rw [← hX, ← hs', ← hF]
  have lZ : Z.length = 73 := by rw [hZ]; exact Str_len _ _ _ (H.zeros_len 64)
  have lZb : Zb.length = 64 := by rw [hZb, List.length_map]; exact H.zeros_len 64
  have lX : X.length = 73 := by rw [hX]; exact Str_len _ _ _ hb
  have lSs : Ss.length = 8 := by rw [hSs]; rfl
  have lBs : Bs.length = 64 := by rw [hBs, List.length_map, hb]
  have lRs : Rs.length = 8 := by rw [hRs]; rfl
  have lF : F.length = 73 := by rw [hF]; exact Str_len _ _ _ (H.zeros_len 64)
  have oRs : Rs.toArray.all (·.oneCell') = true := all_oneCell_toArray (by rw [hRs]; exact words_cells _)
  have oZb : Zb.toArray.all (·.oneCell') = true := all_oneCell_toArray (by rw [hZb]; exact bytes_one _)
  have oF : F.toArray.all (·.oneCell') = true := all_oneCell_toArray (by rw [hF]; exact Str_one _ _ _)
  obtain ⟨W0, hW0⟩ : ∃ W0, W0 = (w.alloc (.cells X.toArray 86)).alloc (.cells Z.toArray 86) := ⟨_, rfl⟩
  have b0 : Blk W0 w.heap.size X 86 := by rw [hW0]; exact (Blk.new w X _).alloc _
  have b1 : Blk W0 (w.heap.size + 1) Z 86 := by
    have := Blk.new (w.alloc (.cells X.toArray 86)) Z 86
    simp only [World.size_alloc] at this
    rw [hW0]
    exact this
  have hbel0 : Below w.heap.size w W0 := by rw [hW0]; exact ((Below.refl _ _).alloc (Nat.le_refl _) _).alloc (by simp only [World.size_alloc]; omega) _
  have hs0 : W0.heap.size = w.heap.size + 2 := by rw [hW0]; simp only [World.size_alloc]
  have r1 : W0.rangeAt w.heap.size 0 Ss := b0.sub 0 Ss (by rw [hX, hSs]; exact Str_words s b n)
  have r2 : W0.rangeAt w.heap.size 8 Bs := b0.sub 8 Bs (by rw [hX, hBs]; exact Str_block s b n)
  have z1 := size_w8 lSs
  have z2 := size_b64 lBs
  have ht0 : HTab W0 := ht.below hbel0 (Nat.le_refl _)
  have hc := hcall W0 ht0
  have k1 : Str s' b n = X.take 0 ++ Rs ++ X.drop (0 + Rs.length) := by rw [lRs, hX, hRs]; exact (Str_set_words s s' b n).symm
  have k2 : F = (Str s' b n).take 8 ++ Zb ++ (Str s' b n).drop (8 + Zb.length) := by rw [lZb, hF, hZb]; exact (Str_set_block s' b (H.zeros 64) n hb).symm
  obtain ⟨Y, hY⟩ : ∃ Y, Y = Str s' b n := ⟨_, rfl⟩
  have lY : Y.length = 73 := by rw [hY]; exact Str_len _ _ _ hb
  rw [← hY] at k1 k2
  rw [hW0] at hc r1 r2
  have HB := Lib.hid (And.intro b0 (And.intro b1 (And.intro hbel0 hs0)))
  have HL := Lib.hid (And.intro lZ (And.intro lZb (And.intro lX (And.intro lRs (And.intro lF lY)))))
  have HK := Lib.hid (And.intro k1 k2)
  have HW := Lib.hid hW0
  have HC := Lib.hid hc
  have R1 := Lib.hid r1
  have R2 := Lib.hid r2
  have Z1 := Lib.hid z1
  have Z2 := Lib.hid z2
  clear hZ hZb hX hSs hBs hs' hRs hF hcall lZ lZb lX lSs lBs lRs lF b0 b1 hbel0 hs0 r1 r2 z1 z2 ht0 hc k1 k2 hY lY hW0 ht
  go_enter Tryd.func64, Tryd.ntmps64
  go_wp2_with (first | (refine wpList_load_mid rfl 82 (.tmp 3) rfl w.heap.size 0 rfl Ss _ R1.out Tryd.underlying82 rfl Z1.out ?_) | (refine wpList_load_mid rfl 83 (.tmp 5) rfl w.heap.size 8 rfl Bs _ R2.out Tryd.underlying83 rfl Z2.out ?_))
  refine HC.out.mono ?_
  clear HC R1 R2 Z1 Z2
  have hW := HW.out
  rw [← hW]
  rintro e w1 ⟨rfl, hb1⟩
  obtain ⟨b0, b1, hbel0, hs0⟩ := HB.out
  obtain ⟨lZ, lZb, lX, lRs, lF, lY⟩ := HL.out
  obtain ⟨k1, k2⟩ := HK.out
  have b0' := b0.below hb1 (by omega)
  have b1' := b1.below hb1 (by omega)
  have hbel1 : Below w.heap.size w w1 := hbel0.trans (hb1.mono (by omega))
  have t1 : w1.there w.heap.size 0 Rs.toArray.size := b0'.there 0 _ (by rw [List.size_toArray, lRs, lX]; omega)
  have y1 := size_w8 lRs
  have c1 : Blk (w1.setCells w.heap.size 0 Rs) w.heap.size Y 86 := by rw [k1]; exact set_all Rs X 0 w1 _ _ b0' (by omega)
  have d1 : Blk (w1.setCells w.heap.size 0 Rs) (w.heap.size + 1) Z 86 := Blk.outside _ _ _ _ b1' (by omega)
  have t2 : (w1.setCells w.heap.size 0 Rs).there w.heap.size 8 Zb.toArray.size := c1.there 8 _ (by rw [List.size_toArray, lZb, lY]; omega)
  have y2 := size_b64 lZb
  have c2 : Blk ((w1.setCells w.heap.size 0 Rs).setCells w.heap.size 8 Zb) w.heap.size F 86 := by rw [k2]; exact set_all Zb Y 8 _ _ _ c1 (by omega)
  have d2 : Blk ((w1.setCells w.heap.size 0 Rs).setCells w.heap.size 8 Zb) (w.heap.size + 1) Z 86 := Blk.outside _ _ _ _ d1 (by omega)
  have y3 := size_stream lF
  have t3 : ((w1.setCells w.heap.size 0 Rs).setCells w.heap.size 8 Zb).there (w.heap.size + 1) 0 F.toArray.size := d2.there 0 _ (by rw [List.size_toArray, lF, lZ]; omega)
  have d3 := d2.whole F (by rw [lF, lZ])
  have hb3 : Below w.heap.size w (((w1.setCells w.heap.size 0 Rs).setCells w.heap.size 8 Zb).setCells (w.heap.size + 1) 0 F) :=
    below_setCells _ (by omega) _ _ _ (below_setCells _ (Nat.le_refl _) _ _ _ (below_setCells _ (Nat.le_refl _) _ _ _ hbel1))
  have C2 := Lib.hid c2
  have D3 := Lib.hid d3
  have T1 := Lib.hid t1
  have T2 := Lib.hid t2
  have T3 := Lib.hid t3
  have Y1 := Lib.hid y1
  have Y2 := Lib.hid y2
  have Y3 := Lib.hid y3
  have B3 := Lib.hid hb3
  clear b0 b1 hbel0 hs0 lZ lZb lX lRs lF lY k1 k2 b0' b1' hbel1 t1 y1 c1 d1 t2 y2 c2 d2 y3 t3 d3 hb3 hb1 HB HL HK HW hW
  go_wp2_with (first | (refine wpList_store_mid rfl 82 (.tmp 8) (.tmp 7) rfl w.heap.size 0 Rs.toArray rfl rfl T1.out Y1.out oRs ?_) | (refine wpList_store_mid rfl 83 (.tmp 10) (.tmp 9) rfl w.heap.size 8 Zb.toArray rfl rfl T2.out Y2.out oZb ?_) | (refine wpList_load_row rfl 86 (.tmp 1) rfl w.heap.size rfl _ F.toArray (0, 0) _ C2.out Tryd.underlying86 rfl Y3.out ?_) | (refine wpList_store_mid rfl 86 (.tmp 2) (.tmp 11) rfl (w.heap.size + 1) 0 F.toArray rfl rfl T3.out Y3.out oF ?_))
  exact bodyPost_ret (results_cell_row rfl _ _ (w.heap.size + 1) 86 _ (0, 0) _ rfl D3.out Tryd.underlying86 rfl Y3.out) rfl ⟨rfl, B3.out⟩
end Go.Proofs.YtjdidnonfmdfmaaDoor
end

