import Derived.Great.BuildSlice
import Derived.Test.YtkelfcgomeojeaaDoorJSignPr
import Derived.Test.YtkelfcgomeojeaaDoorJSignRf
import Derived.Test.YtkelfcgomeojeaaDoorJWireMathG

section
/- A signature leads to the root. -/


namespace Go.Proofs.YtkelfcgomeojeaaDoor
open Go.RowKit
set_option maxRecDepth 100000

theorem chunk_flat (vs : List (List UInt8)) (y : List UInt8) (h : ∀ v ∈ vs, v.length = 16) : ∀ c, c < vs.length → chunk (vs.flatten ++ y) c = vs.getD c [] := by
  induction vs with
  | nil => intro c hc; simp at hc
  | cons v vs ih =>
    intro c hc
    have hv : v.length = 16 := h v (by simp)
    cases c with
    | zero =>
      unfold chunk
      rw [Nat.zero_mul, List.drop_zero, List.flatten_cons, List.append_assoc, List.take_append_of_le_length (by omega), List.take_of_length_le (by omega)]
      rfl
    | succ c =>
      have e := ih (fun w hw => h w (by simp [hw])) c (by simp at hc; omega)
      unfold chunk at e ⊢
      have e16 : (v ++ (vs.flatten ++ y)).drop 16 = vs.flatten ++ y := by rw [← hv, List.drop_left]
      rw [List.flatten_cons, List.append_assoc, show (c + 1) * 16 = 16 + c * 16 by omega, ← List.drop_drop, e16, e]
      rfl
theorem shown_flat (i : Nat) (ds : List Nat) (sd : List UInt8) : cvs i ds sd 68 = (Sg.shown sd i ds).flatten := by
  unfold cvs Sg.shown
  rw [List.flatMap_def]
theorem shown_len (i : Nat) (ds : List Nat) (sd : List UInt8) : (Sg.shown sd i ds).length = 68 := by simp [Sg.shown]
theorem shown_16 (i : Nat) (ds : List Nat) (sd : List UInt8) : ∀ v ∈ Sg.shown sd i ds, v.length = 16 := by
  intro v hv
  obtain ⟨c, -, rfl⟩ := List.mem_map.1 hv
  exact adv_len _ _ _ _ _ (start_len _ _ _)
theorem beside_16 (sd : List UInt8) (i h : Nat) : ∀ v ∈ Sg.beside sd i h, v.length = 16 := by
  intro v hv
  obtain ⟨c, -, rfl⟩ := List.mem_map.1 hv
  exact tree_len _ _ _
theorem beside_num (sd : List UInt8) (i h : Nat) : (Sg.beside sd i h).length = h := by simp [Sg.beside]
theorem chunks_flat (vs : List (List UInt8)) (n : Nat) (hn : vs.length = n) (h : ∀ v ∈ vs, v.length = 16) : chunks vs.flatten n = vs := by
  apply List.ext_getElem?
  intro c
  by_cases hc : c < n
  · unfold chunks
    rw [List.getElem?_map, List.getElem?_range hc, List.getElem?_eq_getElem (by omega)]
    have := chunk_flat vs [] h c (by omega)
    rw [List.append_nil] at this
    show some (chunk vs.flatten c) = _
    rw [this, List.getD_eq_getElem?_getD, List.getElem?_eq_getElem (by omega)]
    rfl
  · rw [List.getElem?_eq_none (by rw [chunks_len]; omega), List.getElem?_eq_none (by omega)]
/-- The values shown, advanced by other digits. -/
theorem tv_shown (i : Nat) (ds ds' : List Nat) (sd y : List UInt8) : Sg.leafOf (tv i ds' (cvs i ds sd 68 ++ y) 68) = Sg.reached i ds' (Sg.shown sd i ds) := by
  unfold tv Sg.reached
  congr 1
  rw [List.flatMap_def, List.flatMap_def]
  congr 1
  apply List.map_congr_left
  intro c hc
  have hc := List.mem_range.1 hc
  rw [shown_flat, chunk_flat _ _ (shown_16 i ds sd) c (by rw [shown_len]; exact hc)]
/-- .. by the same digits: the leaf. -/
theorem reached_leaf (i : Nat) (ds : List Nat) (sd : List UInt8) (h : ∀ c, ds.getD c 0 ≤ 3) : Sg.reached i ds (Sg.shown sd i ds) = Sg.leaf sd i := by
  unfold Sg.reached Sg.leaf Sg.tops Sg.top
  congr 1
  rw [List.flatMap_def, List.flatMap_def]
  congr 1
  apply List.map_congr_left
  intro c hc
  have hc := List.mem_range.1 hc
  have e : (Sg.shown sd i ds).getD c [] = Sg.adv i c 0 (ds.getD c 0) (Sg.start sd i c) := by
    unfold Sg.shown
    rw [List.getD_eq_getElem?_getD, List.getElem?_map, List.getElem?_range hc]
    rfl
  rw [e]
  have := Sg.adv_add i c 0 (ds.getD c 0) (3 - ds.getD c 0) (Sg.start sd i c)
  rw [Nat.zero_add, show ds.getD c 0 + (3 - ds.getD c 0) = 3 by have := h c; omega] at this
  exact this.symm
theorem climb_tree (sd : List UInt8) (i l : Nat) : Sg.climb i (Sg.leaf sd i) (Sg.beside sd i l) = Sg.tree sd l (i / 2 ^ l) := by
  induction l with
  | zero => simp [Sg.beside, Sg.climb, Sg.tree]
  | succ l ih =>
    rw [beside_succ, climb_snoc, ih, beside_num, Nat.pow_succ, ← Nat.div_div_eq_div_mul]
    obtain ⟨j, hj⟩ : ∃ j, j = i / 2 ^ l := ⟨_, rfl⟩
    rw [← hj]
    show _ = Sg.node (Sg.tree sd l (2 * (j / 2))) (Sg.tree sd l (2 * (j / 2) + 1))
    clear ih hj
    by_cases h : j % 2 = 1
    · rw [if_pos h, if_pos h, show 2 * (j / 2) = j - 1 by omega, show j - 1 + 1 = j by omega]
    · rw [if_neg h, if_neg h, show 2 * (j / 2) = j by omega]
theorem drop_sig (sd : List UInt8) (h i : Nat) (m : List UInt8) : (sigS sd h i m).drop (M.encI (i : Int)).length = cvs i (Sg.digits (Sg.msg (Sg.root sd h) (i : Int) m)) sd 68 ++ (Sg.beside sd i h).flatten := by
  unfold sigS
  rw [List.append_assoc, List.drop_left]
theorem cvs_size (i : Nat) (ds : List Nat) (sd : List UInt8) : (cvs i ds sd 68).length = 1088 := flat_len _ 68 fun _ _ => adv_len _ _ _ _ _ (start_len _ _ _)
/-- The root that is found for other digests. -/
theorem top_of (pub sd : List UInt8) (h i : Nat) (m : List UInt8) (ds : List Nat) : topS pub h i m (cvs i ds sd 68 ++ (Sg.beside sd i h).flatten) = Sg.climb i (Sg.reached i (Sg.digits (Sg.msg pub (i : Int) m)) (Sg.shown sd i ds)) (Sg.beside sd i h) := by
  unfold topS
  rw [tv_shown, List.drop_append, List.drop_of_length_le (by rw [cvs_size]; omega), cvs_size, List.nil_append, Nat.sub_self, List.drop_zero, chunks_flat _ h (beside_num sd i h) (beside_16 sd i h)]
/-- What Sign makes, Verify accepts. -/
theorem accepted (sd : List UInt8) (h i : Nat) (m : List UInt8) (hh : h ≤ 6) (hi : i < 2 ^ h) (hm : m.length ≤ 1048576) : verS (Sg.root sd h) h m (sigS sd h i m) = ((i : Int), 0) := by
  have h2h : 2 ^ h ≤ 64 := Nat.pow_le_pow_right (n := 2) (by decide) hh
  have hg : M.getI (sigS sd h i m) = ((i : Int), (M.encI (i : Int)).length, 0) := by
    unfold sigS
    rw [List.append_assoc]
    exact M.getI_encI _ (by unfold M.I64; omega) _
  unfold verS
  rw [hg]
  simp only [Int.toNat_natCast]
  rw [drop_sig, top_of, reached_leaf _ (Sg.digits (Sg.msg (Sg.root sd h) (i : Int) m)) _ (digits_le _ (Sg.of_len _ _)), climb_tree, Nat.div_eq_of_lt hi]
  rw [if_pos (show okH (h : Int) from ⟨by omega, by omega⟩), if_pos hm, if_pos trivial, if_pos, if_pos]
  · rfl
  · refine ⟨⟨by omega, by omega⟩, ?_⟩
    rw [List.length_append, cvs_size, beside_len]
    omega
end Go.Proofs.YtkelfcgomeojeaaDoor
end

section
/- The reference's node. -/

namespace Go.Proofs.YtkelfcgomeojeaaDoor
open Go.RowKit
set_option linter.unusedVariables false
set_option maxRecDepth 100000

set_option maxRecDepth 100000 in
set_option maxHeartbeats 4000000 in
theorem refNode_any (a c : List UInt8) (w : World) (ha : a.length = 16) (hc : c.length = 16) (hR : RTab w) :
    Calls Tryd.prog 41 #[.agg (a.map bv).toArray, .agg (c.map bv).toArray] w fun e w' => e = .returned (.agg ((Sg.node a c).map bv).toArray) ∧ Below w.heap.size w w' := by
  obtain ⟨hzd, -⟩ := zero_of_info dig_zero
  obtain ⟨Zd, hZd⟩ : ∃ Zd, Zd = (H.zeros 16).map bv := ⟨_, rfl⟩
  rw [← hZd] at hzd
  have lZd : Zd.length = 16 := by rw [hZd, List.length_map, H.zeros_len]
  obtain ⟨X, hX⟩ : ∃ X, X = a.map bv := ⟨_, rfl⟩
  obtain ⟨Y, hY⟩ : ∃ Y, Y = c.map bv := ⟨_, rfl⟩
  obtain ⟨L, hL⟩ : ∃ L, L = (Sg.node a c).map bv := ⟨_, rfl⟩
  have lX : X.length = 16 := by rw [hX, List.length_map, ha]
  have lY : Y.length = 16 := by rw [hY, List.length_map, hc]
  have lL : L.length = 16 := by rw [hL, List.length_map]; exact Sg.of_len _ _
  have yX := size_dig lX
  have yY := size_dig lY
  have yL := size_dig lL
  have oL : L.toArray.all (·.oneCell') = true := all_oneCell_toArray (by rw [hL]; exact bytes_one _)
  rw [← hX, ← hY, ← hL]
  have hnext : (dig 2 [bs a, bs c]).map bv = L := by rw [show (2 : Int) = ((2 : Nat) : Int) from rfl, dig_of 2 (by omega), hL]; rfl
  obtain ⟨W0, hW0⟩ : ∃ W0, W0 = ((w.alloc (.cells X.toArray 23)).alloc (.cells Y.toArray 23)).alloc (.cells Zd.toArray 23) := ⟨_, rfl⟩
  have hS : Blk W0 w.heap.size X 23 ∧ Blk W0 (w.heap.size + 1) Y 23 ∧ Blk W0 (w.heap.size + 2) Zd 23 ∧ Below w.heap.size w W0 := by
    rw [hW0]
    refine ⟨((Blk.new w _ _).alloc _).alloc _, ?_, ?_, (((Below.refl _ _).alloc (Nat.le_refl _) _).alloc (by simp) _).alloc (by simp; omega) _⟩
    · have h := (Blk.new (w.alloc (.cells X.toArray 23)) Y 23).alloc (.cells Zd.toArray 23)
      simpa using h
    · have h := Blk.new ((w.alloc (.cells X.toArray 23)).alloc (.cells Y.toArray 23)) Zd 23
      simpa using h
  have H := Lib.hid hS
  have HW0 := Lib.hid hW0
  have HX := Lib.hid (And.intro hX hY)
  have LL := Lib.hid (And.intro lL lZd)
  have YX := Lib.hid yX
  have YY := Lib.hid yY
  have YL := Lib.hid yL
  have HN := Lib.hid hnext
  have HR := Lib.hid hR
  clear hS hW0 hX hY hL lX lY lL yX yY yL hZd lZd hR hnext
  go_enter Tryd.func41, Tryd.ntmps41
  go_wp2_with fail
  rw [← HW0.out]
  try go_frame
  refine wp_region_list [5, 6, 7, 8, 9, 10] [.is (.agg X.toArray), .is (.string (bs a)), .is (.agg Y.toArray), .is (.string (bs c)), .row ([bs a, bs c].map sv) 2, .is (.agg L.toArray)] (by kernel_rfl) (by kernel_rfl) ?_ ?_
  · intro z hz b w' hb hd hx o ho
    match z, hz with
    | 0, _ =>
      obtain rfl := Option.some.inj ho
      have e9 : b.tmps.getD 2 undef = .pointer (some ⟨w.heap.size, 0, none⟩) := hx 2 rfl
      have hr := row_load w' w.heap.size 23 5 16 X (H.out.1.below hb H.out.1.lt) Tryd.underlying23 YX.out
      rw [← e9] at hr
      exact runs_value rfl hr ⟨rfl, Below.refl _ _⟩
    | 1, _ =>
      obtain rfl := Option.some.inj ho
      have e5 : b.tmps.getD 5 undef = .agg X.toArray := hd 0 (by kernel_rfl) (by decide)
      refine runs_call rfl (fun _ _ => rfl) ?_
      show Calls _ _ #[b.tmps.getD 5 undef] w' _
      rw [e5, HX.out.1]
      exact (text_any a w' ha).mono fun e w'' h => ⟨_, h.1, rfl, h.2⟩
    | 2, _ =>
      obtain rfl := Option.some.inj ho
      have e9 : b.tmps.getD 3 undef = .pointer (some ⟨w.heap.size + 1, 0, none⟩) := hx 3 rfl
      have hr := row_load w' (w.heap.size + 1) 23 5 16 Y (H.out.2.1.below hb H.out.2.1.lt) Tryd.underlying23 YY.out
      rw [← e9] at hr
      exact runs_value rfl hr ⟨rfl, Below.refl _ _⟩
    | 3, _ =>
      obtain rfl := Option.some.inj ho
      have e7 : b.tmps.getD 7 undef = .agg Y.toArray := hd 2 (by kernel_rfl) (by decide)
      refine runs_call rfl (fun _ _ => rfl) ?_
      show Calls _ _ #[b.tmps.getD 7 undef] w' _
      rw [e7, HX.out.2]
      exact (text_any c w' hc).mono fun e w'' h => ⟨_, h.1, rfl, h.2⟩
    | 4, _ =>
      obtain rfl := Option.some.inj ho
      have e4 : b.tmps.getD 6 undef = .string (bs a) := hd 1 (by kernel_rfl) (by decide)
      have e6 : b.tmps.getD 8 undef = .string (bs c) := hd 3 (by kernel_rfl) (by decide)
      have hbs := build2s w' (bs a) (bs c)
      rw [← e4, ← e6] at hbs
      refine runs_value (X := Instr.buildSlice 59 2 #[(0, b.tmps.getD 6 undef), (1, b.tmps.getD 8 undef)]) (by unfold execOp; simp [Act.eval]) hbs ⟨⟨some ⟨w'.heap.size, 0, none⟩, rfl, ?_⟩, (Below.refl _ _).alloc (Nat.le_refl _) _⟩
      rw [e4, e6]
      exact rd_new w' [.string (bs a), .string (bs c)] _
    | 5, _ =>
      obtain rfl := Option.some.inj ho
      obtain ⟨A, e7, h7⟩ := hd 4 (by kernel_rfl) (by decide)
      refine runs_call rfl (fun _ _ => rfl) ?_
      show Calls _ _ #[.int .i64 2, b.tmps.getD 9 undef] w' _
      rw [show b.tmps.getD 9 undef = _ from e7]
      exact (refOf_upto 2 A 2 [bs a, bs c] w' h7 (by simp) (by intro s hs; simp only [List.mem_cons, List.not_mem_nil, or_false] at hs; rcases hs with rfl | rfl <;> rw [bbytes_size] <;> omega) (HR.out.below (H.out.2.2.2.trans (hb.mono H.out.2.2.2.size)) (Nat.le_refl _))).mono fun e w'' h => ⟨_, h.1, by rw [HN.out]; rfl, h.2⟩
  · intro vals w' hb hf
    have e8 : vals 5 = .agg L.toArray := hf 5 (by decide)
    simp only [puts, List.length_cons, List.length_nil, Nat.zero_add, Nat.reduceAdd, List.drop_succ_cons, List.drop_zero, e8]
    have hZ2 := H.out.2.2.1.below hb H.out.2.2.1.lt
    have hb2 := H.out.2.2.2.trans (hb.mono H.out.2.2.2.size)
    have t1 : w'.there (w.heap.size + 2) 0 L.toArray.size := hZ2.there 0 _ (by rw [List.size_toArray, LL.out.1, LL.out.2]; omega)
    have d1 := hZ2.whole L (by rw [LL.out.1, LL.out.2])
    have b1 : Below w.heap.size w (w'.setCells (w.heap.size + 2) 0 L) := below_setCells _ (by omega) _ _ _ hb2
    have T1 := Lib.hid t1
    have D1 := Lib.hid d1
    have B3 := Lib.hid b1
    clear e8 hZ2 hb2 t1 d1 b1 hb hf
    go_frame
    go_wp2_with (refine wpList_store_mid rfl 23 (.tmp 4) (.tmp 10) rfl (w.heap.size + 2) 0 L.toArray rfl rfl T1.out YL.out oL ?_)
    refine bodyPost_ret (results_cell_row rfl _ _ (w.heap.size + 2) 23 _ (0, 0) _ rfl D1.out Tryd.underlying23 rfl YL.out) rfl ⟨rfl, B3.out⟩
end Go.Proofs.YtkelfcgomeojeaaDoor
end

section
/- The reference's Digest: what is signed. -/

namespace Go.Proofs.YtkelfcgomeojeaaDoor
open Go.RowKit
set_option linter.unusedVariables false
set_option maxRecDepth 100000

theorem dig_msg (p : List UInt8) (n : Int) (m : ByteArray) : dig 4 [bs p, bs (M.encI n), m] = Sg.msg p n (sb m) := by
  have h : tagB (4 : Int) = 4 := by rfl
  simp only [dig, inp, Sg.msg, Sg.of, h, List.flatMap_cons, List.flatMap_nil, sb_bs]

set_option maxRecDepth 100000 in
set_option maxHeartbeats 4000000 in
theorem refMsg_any (p : List UInt8) (n : Int) (m : ByteArray) (w : World) (hp : p.length = 16) (hn : M.I64 n) (hm : m.size ≤ 2000) (hR : RTab w) :
    Calls Tryd.prog 17 #[.agg (p.map bv).toArray, .int .i64 n, .string m] w fun e w' => e = .returned (.agg ((Sg.msg p n (sb m)).map bv).toArray) ∧ Below w.heap.size w w' := by
  obtain ⟨hzd, -⟩ := zero_of_info dig_zero
  obtain ⟨Zd, hZd⟩ : ∃ Zd, Zd = (H.zeros 16).map bv := ⟨_, rfl⟩
  rw [← hZd] at hzd
  have lZd : Zd.length = 16 := by rw [hZd, List.length_map, H.zeros_len]
  obtain ⟨X, hX⟩ : ∃ X, X = p.map bv := ⟨_, rfl⟩
  obtain ⟨L, hL⟩ : ∃ L, L = (Sg.msg p n (sb m)).map bv := ⟨_, rfl⟩
  have lX : X.length = 16 := by rw [hX, List.length_map, hp]
  have lL : L.length = 16 := by rw [hL, List.length_map]; exact Sg.of_len _ _
  have yX := size_dig lX
  have yL := size_dig lL
  have oL : L.toArray.all (·.oneCell') = true := all_oneCell_toArray (by rw [hL]; exact bytes_one _)
  have hel := M.encI_len_le n hn
  have cT := fun W => text_any p W hp
  obtain ⟨q, hq⟩ : ∃ q, q = bs p := ⟨_, rfl⟩
  have hqs : q.size = 16 := by rw [hq, bbytes_size, hp]
  obtain ⟨f, hf⟩ : ∃ f, f = M.encI n := ⟨_, rfl⟩
  obtain ⟨x, hx⟩ : ∃ x, x = bs f := ⟨_, rfl⟩
  have hxs : x.size ≤ 9 := by rw [hx, bbytes_size, hf]; exact hel
  have e4 : (dig 4 [q, x, m]).map bv = L := by rw [hL, hq, hx, hf, dig_msg]
  rw [← hX, ← hq] at cT
  rw [← hX, ← hL]
  have cI := fun W => refInt_any n W hn
  unfold IntPost at cI
  rw [← hf] at cI
  have c4 := fun (W : World) h1 h2 => refOf_upto 4 (some ⟨W.heap.size, 0, none⟩) 3 [q, x, m] (W.alloc (.cells #[.string q, .string x, .string m] 9)) h1 (by simp) (by intro s hs; simp only [List.mem_cons, List.not_mem_nil, or_false] at hs; rcases hs with rfl | rfl | rfl <;> omega) h2
  rw [e4] at c4
  obtain ⟨W0, hW0⟩ : ∃ W0, W0 = (w.alloc (.cells X.toArray 23)).alloc (.cells Zd.toArray 23) := ⟨_, rfl⟩
  have hS : Blk W0 w.heap.size X 23 ∧ Blk W0 (w.heap.size + 1) Zd 23 ∧ Below w.heap.size w W0 := by
    rw [hW0]
    refine ⟨(Blk.new w _ _).alloc _, ?_, ((Below.refl _ _).alloc (Nat.le_refl _) _).alloc (by simp) _⟩
    have h := Blk.new (w.alloc (.cells X.toArray 23)) Zd 23
    simpa using h
  have K0 := Lib.hid hS
  have HW0 := Lib.hid hW0
  have HXB := Lib.hid hS.1
  have CT := Lib.hid cT
  have CI := Lib.hid cI
  have C4 := Lib.hid c4
  have HF := Lib.hid hx
  have LL := Lib.hid (And.intro lL lZd)
  have YX := Lib.hid yX
  have YL := Lib.hid yL
  have HR := Lib.hid hR
  clear hS hW0 hX hL lX lL yX yL hZd lZd hR cT hq hqs hf hx hxs e4 cI c4 hel hm
  go_enter Tryd.func17, Tryd.ntmps17
  go_wp2_with (refine wpList_load_row rfl 23 (.tmp 3) rfl w.heap.size rfl _ X.toArray (0, 0) _ (by rw [← HW0.out]; exact HXB.out) Tryd.underlying23 rfl YX.out ?_)
  rw [← HW0.out]
  refine (CT.out W0).mono ?_
  rintro e w2 ⟨rfl, hb2⟩
  have h2 := K0.out.2.2.trans (hb2.mono K0.out.2.2.size)
  have k2 := K0.out.2.1.below hb2 K0.out.2.1.lt
  have K2 := Lib.hid (And.intro k2 h2)
  clear hb2 h2 k2 K0 CT
  go_wp2_with fail
  refine (CI.out w2).mono ?_
  rintro e w3 ⟨v3, rfl, hown, hb3⟩
  have h3 := K2.out.2.trans (hb3.mono K2.out.2.size)
  have k3 := K2.out.1.below hb3 K2.out.1.lt
  obtain ⟨A3, c3, rfl, hr3, -, -⟩ := own_rd (B := 0) hown
  have hcv := conv_bytes w3 _ A3 f c3 hr3
  rw [← HF.out] at hcv
  obtain ⟨w5, hw5⟩ : ∃ w5, w5 = w3.alloc (.cells #[.string q, .string x, .string m] 9) := ⟨_, rfl⟩
  have hb5 : Below w3.heap.size w3 w5 := by rw [hw5]; exact (Below.refl _ _).alloc (Nat.le_refl _) _
  have h5 := h3.trans (hb5.mono h3.size)
  have k5 := k3.below hb5 k3.lt
  have cO := C4.out w3 (by exact rd_new w3 [.string q, .string x, .string m] _) (by rw [← hw5]; exact HR.out.below h5 (Nat.le_refl _))
  rw [← hw5] at cO
  have CO := Lib.hid cO
  have Hw5 := Lib.hid hw5
  have K5 := Lib.hid (And.intro k5 h5)
  clear hb3 h3 k3 hown hr3 hw5 hb5 h5 k5 cO K2 CI C4
  go_wp2_with fail
  rw [← Hw5.out]
  refine CO.out.mono ?_
  rintro e w6 ⟨rfl, hb6⟩
  have h6 := K5.out.2.trans (hb6.mono K5.out.2.size)
  have k6 := K5.out.1.below hb6 K5.out.1.lt
  have t1 : w6.there (w.heap.size + 1) 0 L.toArray.size := k6.there 0 _ (by rw [List.size_toArray, LL.out.1, LL.out.2]; omega)
  have d1 := k6.whole L (by rw [LL.out.1, LL.out.2])
  have hb7 : Below w.heap.size w (w6.setCells (w.heap.size + 1) 0 L) := below_setCells _ (by omega) _ _ _ h6
  have T1 := Lib.hid t1
  have D1 := Lib.hid d1
  have B3 := Lib.hid hb7
  clear hb6 h6 k6 t1 d1 hb7 K5 CO
  go_wp2_with (refine wpList_store_mid rfl 23 (.tmp 6) (.tmp 14) rfl (w.heap.size + 1) 0 L.toArray rfl rfl T1.out YL.out oL ?_)
  refine bodyPost_ret (results_cell_row rfl _ _ (w.heap.size + 1) 23 _ (0, 0) _ rfl D1.out Tryd.underlying23 rfl YL.out) rfl ⟨rfl, B3.out⟩
end Go.Proofs.YtkelfcgomeojeaaDoor
end

section
/- The reference's fits. -/

namespace Go.Proofs.YtkelfcgomeojeaaDoor
open Go.RowKit
set_option linter.unusedVariables false
set_option maxRecDepth 100000

def fitsB (s : ByteArray) (h : Int) : Bool := decide (s.size = 32 ∧ 0 ≤ h ∧ h ≤ 6)

set_option maxHeartbeats 2000000 in
theorem refFits_any (s : ByteArray) (h : Int) (w : World) :
    Calls Tryd.prog 23 #[.string s, .int .i64 h] w (Tells (fitsB s h) w) := by
  by_cases h1 : s.size = 32
  · have e1 : ((s.size : Int) == 32) = true := by rw [h1]; rfl
    by_cases h2 : 0 ≤ h
    · have e2 : decide (0 ≤ h) = true := by simp; omega
      by_cases h3 : h ≤ 6
      · have hr : fitsB s h = true := by unfold fitsB; simp; omega
        rw [hr]
        have e3 : decide (h ≤ 6) = true := by simp; omega
        clear hr
        go_enter Tryd.func23, Tryd.ntmps23
        go_wp2_with fail
        go_ret
        exact ⟨rfl, Below.refl _ _⟩
      · have hr : fitsB s h = false := by unfold fitsB; simp; omega
        rw [hr]
        have e3 : decide (h ≤ 6) = false := by simp; omega
        have h3' : 6 < h := by omega
        clear hr
        go_enter Tryd.func23, Tryd.ntmps23
        go_wp2_with fail
        go_ret
        exact ⟨rfl, Below.refl _ _⟩
    · have hr : fitsB s h = false := by unfold fitsB; simp; omega
      rw [hr]
      have e2 : decide (0 ≤ h) = false := by simp; omega
      have h2' : h < 0 := by omega
      clear hr
      go_enter Tryd.func23, Tryd.ntmps23
      go_wp2_with fail
      go_ret
      exact ⟨rfl, Below.refl _ _⟩
  · have hr : fitsB s h = false := by unfold fitsB; simp; omega
    rw [hr]
    have e1 : ((s.size : Int) == 32) = false := by simp; omega
    clear hr
    go_enter Tryd.func23, Tryd.ntmps23
    go_wp2_with fail
    go_ret
    exact ⟨rfl, Below.refl _ _⟩
end Go.Proofs.YtkelfcgomeojeaaDoor
end

section
/- The reference's levels: rows of digests, rows of rows. -/



namespace Go.Proofs.YtkelfcgomeojeaaDoor
open Go.RowKit
set_option linter.unusedVariables false
set_option maxRecDepth 100000

theorem info_dig : (Tryd.prog.info? 23).map (fun i => (i.zero, i.size, i.bytes)) = some (some (.agg ((H.zeros 16).map bv).toArray), 16, 16) := by kernel_rfl
theorem info_row : (Tryd.prog.info? 47).map (fun i => (i.zero, i.size, i.bytes)) = some (some (.slice none 0 0), 1, 24) := by kernel_rfl
theorem set_run : ∀ (L : List Value) (k : Nat) (Z : Array Value), k + L.length ≤ Z.size → ((L.zipIdx k).foldl (fun cs (x : Value × Nat) => cs.setIfInBounds (0 + x.2) x.1) Z).toList = Z.toList.take k ++ (L ++ Z.toList.drop (k + L.length)) := by
  intro L
  induction L with
  | nil => intro k Z _; simp
  | cons v L ih =>
    intro k Z h
    rw [List.zipIdx_cons, List.foldl_cons, Nat.zero_add, ih (k + 1) _ (by simp at h ⊢; omega)]
    have hk : k < Z.toList.length := by simp at h ⊢; omega
    rw [Array.toList_setIfInBounds, List.take_succ_eq_append_getElem (by simpa using hk), List.getElem_set_self, List.take_set_of_le (Nat.le_refl _), List.drop_set_of_lt (by simp; omega)]
    simp only [List.length_cons, List.append_assoc, List.cons_append, List.nil_append]
    rw [show k + 1 + L.length = k + (L.length + 1) by omega]
theorem fill16 (L : List Value) (hL : L.length = 16) (Z : Array Value) (hZ : Z.size = 16) : Instr.fill (fun i => some (i * 16, 16)) Z [(0, .agg L.toArray)] = some L.toArray := by
  have h := set_run L 0 Z (by omega)
  have hc : (Value.agg L.toArray).cells = L.toArray := rfl
  unfold Instr.fill
  simp only [hc, List.size_toArray, hL, hZ]
  rw [if_neg (by decide)]
  unfold Instr.fill
  congr 1
  apply Array.ext'
  rw [← Array.foldl_toList, Array.toList_zipIdx, show (0 * 16 : Nat) = 0 from rfl, h, hL, List.drop_of_length_le (by simp [hZ])]
  simp
theorem build_dig (w : World) (L : List Value) (hL : L.length = 16) : (Instr.buildSlice 47 1 #[(0, .agg L.toArray)]).run Tryd.prog w = .ok (.slice (some ⟨w.heap.size, 0, none⟩) 1 1) (w.alloc (.cells L.toArray 23)) := by
  obtain ⟨i0, hi, hz0, hz1, hz2⟩ := info_parts info_dig
  exact run_buildSlice w 47 23 1 #[(0, .agg L.toArray)] L.toArray i0 _ Tryd.underlying47 hi hz0 (by rw [hz1]; decide) (by rw [hz1]; decide) (by rw [hz1]; exact fill16 L hL _ (by simp))
/-- The nodes of a level, one after the other. -/
def rowD (sd : List UInt8) (l n : Nat) : List Value := (List.range n).flatMap fun k => (Sg.tree sd l k).map bv
theorem rowD_succ (sd : List UInt8) (l n : Nat) : rowD sd l (n + 1) = rowD sd l n ++ (Sg.tree sd l n).map bv := by
  unfold rowD
  rw [List.range_succ, List.flatMap_append]
  simp
theorem rowD_len (sd : List UInt8) (l n : Nat) : (rowD sd l n).length = 16 * n := by
  induction n with
  | zero => rfl
  | succ n ih => rw [rowD_succ, List.length_append, ih, List.length_map, tree_len]; omega
theorem rowD_one (sd : List UInt8) (l n : Nat) : ∀ u ∈ rowD sd l n, u.oneCell' = true := by
  intro u hu
  obtain ⟨k, -, hk⟩ := List.mem_flatMap.1 hu
  exact bytes_one _ u hk
/-- Node k of the row lies from cell 16 k on. -/
theorem rowD_at (sd : List UInt8) (l n k j : Nat) (hk : k < n) (hj : j < 16) : (rowD sd l n)[16 * k + j]? = ((Sg.tree sd l k).map bv)[j]? := by
  induction n with
  | zero => omega
  | succ n ih =>
    rw [rowD_succ]
    by_cases h : k < n
    · rw [List.getElem?_append_left (by rw [rowD_len]; omega), ih h]
    · have hkn : k = n := by omega
      subst hkn
      rw [List.getElem?_append_right (by rw [rowD_len]; omega), rowD_len, Nat.add_sub_cancel_left]
/-- A finished row. -/
def Row1 (sd : List UInt8) (l n : Nat) (w : World) (u : Value) (g : Nat) : Prop := ∃ cap, u = .slice (some ⟨g, 0, none⟩) n cap ∧ n ≤ cap ∧ cap ≤ maxLen ∧ g < w.heap.size ∧ ∀ (j : Nat) (v : Value), (rowD sd l n)[j]? = some v → w.cell? ⟨g, j, none⟩ = some v
theorem own_row1 {w : World} {base l n : Nat} {sd : List UInt8} {v : Value} (h : w.ownsRow base 23 16 v n (rowD sd l n)) (hn : 0 < n) : ∃ g, Row1 sd l n w v g ∧ v.ownBlock = some g ∧ base ≤ g := by
  rcases h.2 with ⟨_, h0⟩ | ⟨g, cap, cur, hv, hb, hg, hnc, hm, hs, ht⟩
  · omega
  · refine ⟨g, ⟨cap, hv, hnc, hm, (Array.getElem?_eq_some_iff.1 hg).1, fun j u hu => ?_⟩, by rw [hv]; rfl, hb⟩
    rw [cell_of_row w g j _ _ _ hg]
    rw [← ht, List.getElem?_take] at hu
    split at hu
    · simpa using hu
    · cases hu
theorem Row1.keep {sd : List UInt8} {l n : Nat} {w w' : World} {u : Value} {g : Nat} (h : Row1 sd l n w u g) (hs : w.heap.size ≤ w'.heap.size) (hb : w'.heap[g]? = w.heap[g]?) : Row1 sd l n w' u g := by
  obtain ⟨cap, h1, h2, h3, h4, h5⟩ := h
  refine ⟨cap, h1, h2, h3, by omega, fun j v hv => ?_⟩
  rw [← h5 j v hv]
  unfold World.cell?
  rw [hb]
theorem Row1.below {sd : List UInt8} {l n : Nat} {w w' : World} {u : Value} {g : Nat} (h : Row1 sd l n w u g) (hb : Below w.heap.size w w') : Row1 sd l n w' u g := h.keep hb.size (hb.block g (by obtain ⟨_, _, _, _, h4, _⟩ := h; exact h4))
theorem Row1.range {sd : List UInt8} {l n : Nat} {w : World} {u : Value} {g : Nat} (h : Row1 sd l n w u g) (k : Nat) (hk : k < n) : w.rangeAt g (16 * k) ((Sg.tree sd l k).map bv) := by
  obtain ⟨cap, -, -, -, -, h5⟩ := h
  intro j v hv
  have hj : j < 16 := by have := (List.getElem?_eq_some_iff.1 hv).1; rw [List.length_map, tree_len] at this; exact this
  exact h5 _ v (by rw [rowD_at sd l n k j hk hj]; exact hv)
end Go.Proofs.YtkelfcgomeojeaaDoor
end

