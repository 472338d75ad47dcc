import Derived.Lib.LazyBuf
import Derived.Lib.SlBuf
import Derived.Test.YtcmepgjbplpnbaaDoorJHashD

section
/- The contract of Stream.compressed. -/

namespace Go.Proofs.YtcmepgjbplpnbaaDoor
open Go.RowKit
set_option linter.unusedVariables false

theorem block_zero : (Tryd.prog.info? 66).map (fun i => (i.zero, i.size)) = some (some (.agg ((H.zeros 64).map bv).toArray), 64) := by kernel_rfl

set_option maxRecDepth 100000 in
set_option maxHeartbeats 1000000 in
theorem compressed_any (s : H.St) (b : List UInt8) (n : Nat) (w : World) (hb : b.length = 64) (ht : HTab w) :
    Calls Tryd.prog 58 #[.agg (Str s b n).toArray] w fun e w' => e = .returned (.agg (Str (H.compress s b) (H.zeros 64) n).toArray) ∧ Below w.heap.size w w' := by
  obtain ⟨hz, -⟩ := zero_of_info stream_zero
  obtain ⟨hzb, -⟩ := zero_of_info block_zero
  obtain ⟨Z, hZ⟩ : ∃ Z, Z = Str ⟨0, 0, 0, 0, 0, 0, 0, 0⟩ (H.zeros 64) 0 := ⟨_, rfl⟩
  obtain ⟨Zb, hZb⟩ : ∃ Zb, Zb = (H.zeros 64).map bv := ⟨_, rfl⟩
  obtain ⟨X, hX⟩ : ∃ X, X = Str s b n := ⟨_, rfl⟩
  obtain ⟨Ss, hSs⟩ : ∃ Ss, Ss = s.words.map wv := ⟨_, rfl⟩
  obtain ⟨Bs, hBs⟩ : ∃ Bs, Bs = b.map bv := ⟨_, rfl⟩
  obtain ⟨s', hs'⟩ : ∃ s', s' = H.compress s b := ⟨_, rfl⟩
  obtain ⟨Rs, hRs⟩ : ∃ Rs, Rs = s'.words.map wv := ⟨_, rfl⟩
  obtain ⟨F, hF⟩ : ∃ F, F = Str s' (H.zeros 64) n := ⟨_, rfl⟩
  rw [← hZ] at hz
  rw [← hZb] at hzb
  have hcall := fun W h => compress_any s b W hb h
  rw [← hs', ← hRs, ← hSs, ← hBs] at hcall
  rw [← hX, ← hs', ← hF]
  have lZ : Z.length = 73 := by rw [hZ]; exact Str_len _ _ _ (H.zeros_len 64)
  have lZb : Zb.length = 64 := by rw [hZb, List.length_map]; exact H.zeros_len 64
  have lX : X.length = 73 := by rw [hX]; exact Str_len _ _ _ hb
  have lSs : Ss.length = 8 := by rw [hSs]; rfl
  have lBs : Bs.length = 64 := by rw [hBs, List.length_map, hb]
  have lRs : Rs.length = 8 := by rw [hRs]; rfl
  have lF : F.length = 73 := by rw [hF]; exact Str_len _ _ _ (H.zeros_len 64)
  have oRs : Rs.toArray.all (·.oneCell') = true := all_oneCell_toArray (by rw [hRs]; exact words_cells _)
  have oZb : Zb.toArray.all (·.oneCell') = true := all_oneCell_toArray (by rw [hZb]; exact bytes_one _)
  have oF : F.toArray.all (·.oneCell') = true := all_oneCell_toArray (by rw [hF]; exact Str_one _ _ _)
  obtain ⟨W0, hW0⟩ : ∃ W0, W0 = (w.alloc (.cells X.toArray 69)).alloc (.cells Z.toArray 69) := ⟨_, rfl⟩
  have b0 : Blk W0 w.heap.size X 69 := by rw [hW0]; exact (Blk.new w X _).alloc _
  have b1 : Blk W0 (w.heap.size + 1) Z 69 := by
    have := Blk.new (w.alloc (.cells X.toArray 69)) Z 69
    simp only [World.size_alloc] at this
    rw [hW0]
    exact this
  have hbel0 : Below w.heap.size w W0 := by rw [hW0]; exact ((Below.refl _ _).alloc (Nat.le_refl _) _).alloc (by simp only [World.size_alloc]; omega) _
  have hs0 : W0.heap.size = w.heap.size + 2 := by rw [hW0]; simp only [World.size_alloc]
  have r1 : W0.rangeAt w.heap.size 0 Ss := b0.sub 0 Ss (by rw [hX, hSs]; exact Str_words s b n)
  have r2 : W0.rangeAt w.heap.size 8 Bs := b0.sub 8 Bs (by rw [hX, hBs]; exact Str_block s b n)
  have z1 := size_w8 lSs
  have z2 := size_b64 lBs
  have ht0 : HTab W0 := ht.below hbel0 (Nat.le_refl _)
  have hc := hcall W0 ht0
  have k1 : Str s' b n = X.take 0 ++ Rs ++ X.drop (0 + Rs.length) := by rw [lRs, hX, hRs]; exact (Str_set_words s s' b n).symm
  have k2 : F = (Str s' b n).take 8 ++ Zb ++ (Str s' b n).drop (8 + Zb.length) := by rw [lZb, hF, hZb]; exact (Str_set_block s' b (H.zeros 64) n hb).symm
  obtain ⟨Y, hY⟩ : ∃ Y, Y = Str s' b n := ⟨_, rfl⟩
  have lY : Y.length = 73 := by rw [hY]; exact Str_len _ _ _ hb
  rw [← hY] at k1 k2
  rw [hW0] at hc r1 r2
  have HB := Lib.hid (And.intro b0 (And.intro b1 (And.intro hbel0 hs0)))
  have HL := Lib.hid (And.intro lZ (And.intro lZb (And.intro lX (And.intro lRs (And.intro lF lY)))))
  have HK := Lib.hid (And.intro k1 k2)
  have HW := Lib.hid hW0
  have HC := Lib.hid hc
  have R1 := Lib.hid r1
  have R2 := Lib.hid r2
  have Z1 := Lib.hid z1
  have Z2 := Lib.hid z2
  clear hZ hZb hX hSs hBs hs' hRs hF hcall lZ lZb lX lSs lBs lRs lF b0 b1 hbel0 hs0 r1 r2 z1 z2 ht0 hc k1 k2 hY lY hW0 ht
  go_enter Tryd.func58, Tryd.ntmps58
  go_wp2_with (first | (refine wpList_load_mid rfl 65 (.tmp 3) rfl w.heap.size 0 rfl Ss _ R1.out Tryd.underlying65 rfl Z1.out ?_) | (refine wpList_load_mid rfl 66 (.tmp 5) rfl w.heap.size 8 rfl Bs _ R2.out Tryd.underlying66 rfl Z2.out ?_))
  refine HC.out.mono ?_
  clear HC R1 R2 Z1 Z2
  have hW := HW.out
  rw [← hW]
  rintro e w1 ⟨rfl, hb1⟩
  obtain ⟨b0, b1, hbel0, hs0⟩ := HB.out
  obtain ⟨lZ, lZb, lX, lRs, lF, lY⟩ := HL.out
  obtain ⟨k1, k2⟩ := HK.out
  have b0' := b0.below hb1 (by omega)
  have b1' := b1.below hb1 (by omega)
  have hbel1 : Below w.heap.size w w1 := hbel0.trans (hb1.mono (by omega))
  have t1 : w1.there w.heap.size 0 Rs.toArray.size := b0'.there 0 _ (by rw [List.size_toArray, lRs, lX]; omega)
  have y1 := size_w8 lRs
  have c1 : Blk (w1.setCells w.heap.size 0 Rs) w.heap.size Y 69 := by rw [k1]; exact set_all Rs X 0 w1 _ _ b0' (by omega)
  have d1 : Blk (w1.setCells w.heap.size 0 Rs) (w.heap.size + 1) Z 69 := Blk.outside _ _ _ _ b1' (by omega)
  have t2 : (w1.setCells w.heap.size 0 Rs).there w.heap.size 8 Zb.toArray.size := c1.there 8 _ (by rw [List.size_toArray, lZb, lY]; omega)
  have y2 := size_b64 lZb
  have c2 : Blk ((w1.setCells w.heap.size 0 Rs).setCells w.heap.size 8 Zb) w.heap.size F 69 := by rw [k2]; exact set_all Zb Y 8 _ _ _ c1 (by omega)
  have d2 : Blk ((w1.setCells w.heap.size 0 Rs).setCells w.heap.size 8 Zb) (w.heap.size + 1) Z 69 := Blk.outside _ _ _ _ d1 (by omega)
  have y3 := size_stream lF
  have t3 : ((w1.setCells w.heap.size 0 Rs).setCells w.heap.size 8 Zb).there (w.heap.size + 1) 0 F.toArray.size := d2.there 0 _ (by rw [List.size_toArray, lF, lZ]; omega)
  have d3 := d2.whole F (by rw [lF, lZ])
  have hb3 : Below w.heap.size w (((w1.setCells w.heap.size 0 Rs).setCells w.heap.size 8 Zb).setCells (w.heap.size + 1) 0 F) :=
    below_setCells _ (by omega) _ _ _ (below_setCells _ (Nat.le_refl _) _ _ _ (below_setCells _ (Nat.le_refl _) _ _ _ hbel1))
  have C2 := Lib.hid c2
  have D3 := Lib.hid d3
  have T1 := Lib.hid t1
  have T2 := Lib.hid t2
  have T3 := Lib.hid t3
  have Y1 := Lib.hid y1
  have Y2 := Lib.hid y2
  have Y3 := Lib.hid y3
  have B3 := Lib.hid hb3
  clear b0 b1 hbel0 hs0 lZ lZb lX lRs lF lY k1 k2 b0' b1' hbel1 t1 y1 c1 d1 t2 y2 c2 d2 y3 t3 d3 hb3 hb1 HB HL HK HW hW
  go_wp2_with (first | (refine wpList_store_mid rfl 65 (.tmp 8) (.tmp 7) rfl w.heap.size 0 Rs.toArray rfl rfl T1.out Y1.out oRs ?_) | (refine wpList_store_mid rfl 66 (.tmp 10) (.tmp 9) rfl w.heap.size 8 Zb.toArray rfl rfl T2.out Y2.out oZb ?_) | (refine wpList_load_row rfl 69 (.tmp 1) rfl w.heap.size rfl _ F.toArray (0, 0) _ C2.out Tryd.underlying69 rfl Y3.out ?_) | (refine wpList_store_mid rfl 69 (.tmp 2) (.tmp 11) rfl (w.heap.size + 1) 0 F.toArray rfl rfl T3.out Y3.out oF ?_))
  exact bodyPost_ret (results_cell_row rfl _ _ (w.heap.size + 1) 69 _ (0, 0) _ rfl D3.out Tryd.underlying69 rfl Y3.out) rfl ⟨rfl, B3.out⟩
end Go.Proofs.YtcmepgjbplpnbaaDoor
end

section
/- Stream.Add: the copy of a string's beginning; the stream of a message. -/



namespace Go.Proofs.YtcmepgjbplpnbaaDoor
open Go.RowKit
set_option linter.unusedVariables false

/-- 'copy(dst, s)' from a string: as much as fits. -/
theorem run_copy_min {P : Program} (w : World) (dT sT ty elem : TypeId) (b o dLen dCap : Nat) (t : ByteArray)
    (hu : P.underlying dT = some (.slice elem)) (hz : ∀ w, (Go.sizeOf elem).run P w = .ok 1 w) (n : Nat) (hn : n = min t.size dLen)
    (ht : w.there b o n) :
    (Builtin.copy_ #[dT, sT] ty #[.slice (some ⟨b, o, none⟩) dLen dCap, .string t]).run P w = .ok (goInt n) (w.setCells b o (((sb t).take n).map bv)) := by
  have hmin : Nat.min t.size dLen = n := hn.symm
  have hl : (((sb t).take n).map bv).length = n := by rw [List.length_map, List.length_take, sb_len]; omega
  have hst := run_storeCells_cells (P := P) b o (((sb t).take n).map bv) 0 w (by rw [hl]; simpa using fun j hj => (ht j hj).1) (by rw [hl]; simpa using fun j hj => (ht j hj).2) (bytes_one _)
  simp [Builtin.copy_, run_underlying hu, Builtin.lenOf, Builtin.firstCells, hz, hmin]
  rw [← List.map_take]
  simp only [Nat.add_zero] at hst
  have e : (List.map (fun x : UInt8 => Value.int IntKind.u8 (x.toNat : Int)) (List.take n t.data.toList)) = ((sb t).take n).map bv := rfl
  rw [e, hst, ← List.map_take]
  rfl

theorem Str_splice (s : H.St) (b x : List UInt8) (n r : Nat) (hb : b.length = 64) (hr : r + x.length ≤ 64) :
    (Str s b n).take (8 + r) ++ x.map bv ++ (Str s b n).drop (8 + r + x.length) = Str s (b.take r ++ x ++ b.drop (r + x.length)) n := by
  have hw : (s.words.map wv).length = 8 := rfl
  unfold Str
  rw [List.take_append, List.take_of_length_le (by rw [hw]; omega), List.drop_append, List.drop_of_length_le (by rw [hw]; omega), hw, show 8 + r - 8 = r by omega, show 8 + r + x.length - 8 = r + x.length by omega,
    List.take_append_of_le_length (by simp [hb]; omega), List.drop_append_of_le_length (by simp [hb]; omega)]
  simp
theorem Str_set_num (s : H.St) (b : List UInt8) (n n' : Nat) (hb : b.length = 64) : (Str s b n).set 72 (.int .u64 (n' : Int)) = Str s b n' := by
  have hw : (s.words.map wv).length = 8 := rfl
  unfold Str
  rw [List.set_append_right _ _ (by rw [hw]; omega), hw, List.set_append_right _ _ (by simp [hb])]
  simp [hb]
/-- The stream whose message is m. -/
def Strm (m : List UInt8) : List Value := Str (H.state m) (H.block m) m.length
theorem Strm_len (m : List UInt8) : (Strm m).length = 73 := Str_len _ _ _ (H.block_len m)
theorem fill_block (m x : List UInt8) (h : m.length % 64 + x.length ≤ 64) :
    (H.block m).take (m.length % 64) ++ x ++ (H.block m).drop (m.length % 64 + x.length) = H.rest m ++ x ++ H.zeros (64 - (m.length % 64 + x.length)) := by
  have hr := H.rest_len m
  unfold H.block
  rw [List.take_append_of_le_length (by omega), List.take_of_length_le (by omega), List.drop_append, List.drop_of_length_le (by omega), List.nil_append, hr]
  simp [H.zeros, show m.length % 64 + x.length - m.length % 64 = x.length by omega]
  omega
theorem Strm_grow (m x : List UInt8) (h : m.length % 64 + x.length < 64) : Str (H.state m) (H.rest m ++ x ++ H.zeros (64 - (m.length % 64 + x.length))) (m.length + x.length) = Strm (m ++ x) := by
  obtain ⟨h1, h2⟩ := H.state_grow m x h
  unfold Strm
  rw [h1, List.length_append]
  congr 1
  unfold H.block
  rw [h2, List.length_append, show (m.length + x.length) % 64 = m.length % 64 + x.length by omega]
theorem Strm_full (m x : List UInt8) (h : m.length % 64 + x.length = 64) : Str (H.compress (H.state m) (H.rest m ++ x ++ H.zeros (64 - (m.length % 64 + x.length)))) (H.zeros 64) (m.length + x.length) = Strm (m ++ x) := by
  obtain ⟨h1, h2⟩ := H.state_full m x h
  unfold Strm
  rw [h1, List.length_append, h, show H.zeros (64 - 64) = [] from rfl, List.append_nil]
  congr 1
  unfold H.block
  rw [h2, List.length_append, show (m.length + x.length) % 64 = 0 by omega]
  rfl
theorem Strm_nil : Strm [] = Str H.init (H.zeros 64) 0 := rfl

theorem slice_block (W : World) (b r : Nat) (hr : r < 64) :
    (Instr.sliceAt 66 (.pointer (some ⟨b, 8, none⟩)) (some (.int .i64 (r : Int))) none none).run Tryd.prog W = .ok (.slice (some ⟨b, 8 + r, none⟩) (64 - r) (64 - r)) W := by
  have h1 : Tryd.prog.arrayLen 66 = 64 := by kernel_rfl
  have h := run_sliceAt_array_l (P := Tryd.prog) W 66 ⟨b, 8, none⟩ (by kernel_rfl) .i64 (r : Int) (by omega) (by rw [h1]; omega)
  rw [h]
  have h2 : (sizeOf (Tryd.prog.elem 66)).run Tryd.prog W = .ok 1 W := by kernel_rfl
  rw [h2, h1]
  have h3 : ¬ (64 = r) := by omega
  simp [slicedAt, Addr.add, h3]
theorem size_u8 (W : World) : (sizeOf 5).run Tryd.prog W = .ok 1 W := by kernel_rfl
end Go.Proofs.YtcmepgjbplpnbaaDoor
end

