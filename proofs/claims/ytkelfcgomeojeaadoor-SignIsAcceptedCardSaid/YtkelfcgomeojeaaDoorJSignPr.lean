import Derived.Test.YtkelfcgomeojeaaDoorJSignPc
import Derived.Test.YtkelfcgomeojeaaDoorJSignPq
import Derived.Test.YtkelfcgomeojeaaDoorJWireA

section
/- The contract of sign.Digest. -/


namespace Go.Proofs.YtkelfcgomeojeaaDoor
open Go.RowKit
set_option linter.unusedVariables false
set_option maxRecDepth 100000

theorem dig_msg' (p : List UInt8) (n : Int) (m : ByteArray) : dig 4 [bs p, bs (M.encI n), m] = Sg.msg p n (sb m) := by
  have h : tagB (4 : Int) = 4 := by rfl
  simp only [dig, inp, Sg.msg, Sg.of, h, List.flatMap_cons, List.flatMap_nil, sb_bs]
theorem build3s (w : World) (a b c : ByteArray) : (Instr.buildSlice 59 3 #[(0, .string a), (1, .string b), (2, .string c)]).run Tryd.prog w = .ok (.slice (some ⟨w.heap.size, 0, none⟩) 3 3) (w.alloc (.cells #[.string a, .string b, .string c] 9)) := by
  go_simp

set_option maxHeartbeats 4000000 in
theorem msg_any (p : List UInt8) (n : Int) (m : ByteArray) (w : World) (hp : p.length = 16) (hn : M.I64 n) (hm : m.size ≤ 100000000) (hT : HTab w) :
    Calls Tryd.prog 16 #[.agg (p.map bv).toArray, .int .i64 n, .string m] w fun e w' => e = .returned (.agg ((Sg.msg p n (sb m)).map bv).toArray) ∧ Below w.heap.size w w' := by
  obtain ⟨hzd, -⟩ := zero_of_info dig_zero
  obtain ⟨Zd, hZd⟩ : ∃ Zd, Zd = (H.zeros 16).map bv := ⟨_, rfl⟩
  rw [← hZd] at hzd
  have lZd : Zd.length = 16 := by rw [hZd, List.length_map, H.zeros_len]
  obtain ⟨X, hX⟩ : ∃ X, X = p.map bv := ⟨_, rfl⟩
  obtain ⟨L, hL⟩ : ∃ L, L = (Sg.msg p n (sb m)).map bv := ⟨_, rfl⟩
  have lX : X.length = 16 := by rw [hX, List.length_map, hp]
  have lL : L.length = 16 := by rw [hL, List.length_map]; exact Sg.of_len _ _
  have yL := size_dig lL
  have oL : L.toArray.all (·.oneCell') = true := all_oneCell_toArray (by rw [hL]; exact bytes_one _)
  have hel := M.encI_len_le n hn
  have hfl := M.encI_len_le (m.size : Int) (M.I64_nat m.size (by omega))
  obtain ⟨f, hf⟩ : ∃ f, f = M.encI n := ⟨_, rfl⟩
  have hfl2 := M.encI_len_le (f.length : Int) (M.I64_nat f.length (by rw [hf]; omega))
  have hfl3 := M.encI_len_le (p.length : Int) (M.I64_nat p.length (by omega))
  have e4 : (dig 4 [bs p, bs f, m]).map bv = L := by rw [hL, hf, dig_msg']
  have c4 := fun (A : Option Addr) (W : World) h h2 => of_any 4 A 3 [bs p, bs f, m] W h (by simp) (by intro s hs; simp only [List.mem_cons, List.not_mem_nil, or_false] at hs; rcases hs with rfl | rfl | rfl <;> (try rw [bbytes_size]) <;> (try rw [hf]) <;> omega)
    (by simp only [inp, List.flatMap_cons, List.flatMap_nil, M.encB, List.length_cons, List.length_append, List.length_nil, sb_len, bbytes_size]; rw [hf] at hfl2 ⊢; omega) h2
  rw [e4] at c4
  rw [← hX, ← hL]
  have cI := fun (W : World) => int_any n W hn
  unfold IntPost at cI
  rw [← hf] at cI
  obtain ⟨W0, hW0⟩ : ∃ W0, W0 = (w.alloc (.cells X.toArray 23)).alloc (.cells Zd.toArray 23) := ⟨_, rfl⟩
  have hS : Blk W0 w.heap.size X 23 ∧ Blk W0 (w.heap.size + 1) Zd 23 ∧ Below w.heap.size w W0 := by
    rw [hW0]
    refine ⟨(Blk.new w _ _).alloc _, ?_, ((Below.refl _ _).alloc (Nat.le_refl _) _).alloc (by simp) _⟩
    have h := Blk.new (w.alloc (.cells X.toArray 23)) Zd 23
    simpa using h
  have H := Lib.hid hS
  have HW0 := Lib.hid hW0
  have HX := Lib.hid hX
  have CI := Lib.hid cI
  have C4 := Lib.hid c4
  have LL := Lib.hid (And.intro lL lZd)
  have YL := Lib.hid yL
  have HR := Lib.hid hT
  clear hS hW0 hX hL lX lL yL hZd lZd hT hf e4 cI c4 hel hm hfl hfl2 hfl3
  go_enter Tryd.func16, Tryd.ntmps16
  go_wp2_with fail
  rw [← HW0.out]
  try go_frame
  refine wp_region_list [7, 8, 9, 10, 11, 12, 13, 14] [.is (.slice (some ⟨w.heap.size, 0, none⟩) 16 16), .is (.string (bs p)), .is (.int .i64 n), .bytes f, .is (.string (bs f)), .is (.string m), .row ([bs p, bs f, m].map sv) 3, .is (.agg L.toArray)] (by kernel_rfl) (by kernel_rfl) ?_ ?_
  · intro z hz b w' hb hd hx o ho
    match z, hz with
    | 0, _ =>
      obtain rfl := Option.some.inj ho
      have e9 : b.tmps.getD 3 undef = .pointer (some ⟨w.heap.size, 0, none⟩) := hx 3 rfl
      have hr := slice_b16 w' w.heap.size
      rw [← e9] at hr
      exact runs_value rfl hr ⟨rfl, Below.refl _ _⟩
    | 1, _ =>
      obtain rfl := Option.some.inj ho
      have e5 : b.tmps.getD 7 undef = .slice (some ⟨w.heap.size, 0, none⟩) 16 16 := hd 0 (by kernel_rfl) (by decide)
      have hB := H.out.1.below hb H.out.1.lt
      rw [HX.out] at hB
      have hcv := dig_conv w' w.heap.size p hp hB
      rw [← e5] at hcv
      exact runs_value rfl hcv ⟨rfl, Below.refl _ _⟩
    | 2, _ =>
      obtain rfl := Option.some.inj ho
      exact ⟨hx 1 rfl, Below.refl _ _⟩
    | 3, _ =>
      obtain rfl := Option.some.inj ho
      have e2 : b.tmps.getD 9 undef = .int .i64 n := hd 2 (by kernel_rfl) (by decide)
      refine runs_call rfl (fun _ _ => rfl) ?_
      show Calls _ _ #[b.tmps.getD 9 undef] w' _
      rw [e2]
      refine (CI.out w').mono fun e w'' h => ?_
      obtain ⟨v, h1, hown, hb1⟩ := h
      obtain ⟨A', c', rfl, h2, h3, h4⟩ := own_rd (B := 0) hown
      exact ⟨_, h1, ⟨A', c', rfl, h2, h3, h4⟩, hb1⟩
    | 4, _ =>
      obtain rfl := Option.some.inj ho
      obtain ⟨A', c', e2, h1, h2, h3⟩ := hd 3 (by kernel_rfl) (by decide)
      have hcv := conv_bytes w' _ A' f c' h1
      rw [← show b.tmps.getD 10 undef = _ from e2] at hcv
      exact runs_value rfl hcv ⟨rfl, Below.refl _ _⟩
    | 5, _ =>
      obtain rfl := Option.some.inj ho
      exact ⟨hx 2 rfl, Below.refl _ _⟩
    | 6, _ =>
      obtain rfl := Option.some.inj ho
      have e1 : b.tmps.getD 8 undef = .string (bs p) := hd 1 (by kernel_rfl) (by decide)
      have e4 : b.tmps.getD 11 undef = .string (bs f) := hd 4 (by kernel_rfl) (by decide)
      have e5 : b.tmps.getD 12 undef = .string m := hd 5 (by kernel_rfl) (by decide)
      have hbs := build3s w' (bs p) (bs f) m
      rw [← e1, ← e4, ← e5] at hbs
      refine runs_value (X := Instr.buildSlice 59 3 #[(0, b.tmps.getD 8 undef), (1, b.tmps.getD 11 undef), (2, b.tmps.getD 12 undef)]) (by unfold execOp; simp [Act.eval]) hbs ⟨⟨some ⟨w'.heap.size, 0, none⟩, rfl, ?_⟩, (Below.refl _ _).alloc (Nat.le_refl _) _⟩
      rw [e1, e4, e5]
      exact rd_new w' [.string (bs p), .string (bs f), .string m] _
    | 7, _ =>
      obtain rfl := Option.some.inj ho
      obtain ⟨A, e7, h7⟩ := hd 6 (by kernel_rfl) (by decide)
      refine runs_call rfl (fun _ _ => rfl) ?_
      show Calls _ _ #[.int .i64 4, b.tmps.getD 13 undef] w' _
      rw [show b.tmps.getD 13 undef = _ from e7]
      exact (C4.out A w' h7 (HR.out.below (H.out.2.2.trans (hb.mono H.out.2.2.size)) (Nat.le_refl _))).mono fun e w'' h => ⟨_, h.1, rfl, h.2⟩
  · intro vals w' hb hf
    have e8 : vals 7 = .agg L.toArray := hf 7 (by decide)
    simp only [puts, List.length_cons, List.length_nil, Nat.zero_add, Nat.reduceAdd, List.drop_succ_cons, List.drop_zero, e8]
    have hZ2 := H.out.2.1.below hb H.out.2.1.lt
    have hb2 := H.out.2.2.trans (hb.mono H.out.2.2.size)
    have t1 : w'.there (w.heap.size + 1) 0 L.toArray.size := hZ2.there 0 _ (by rw [List.size_toArray, LL.out.1, LL.out.2]; omega)
    have d1 := hZ2.whole L (by rw [LL.out.1, LL.out.2])
    have b1 : Below w.heap.size w (w'.setCells (w.heap.size + 1) 0 L) := below_setCells _ (by omega) _ _ _ hb2
    have T1 := Lib.hid t1
    have D1 := Lib.hid d1
    have B3 := Lib.hid b1
    clear e8 hZ2 hb2 t1 d1 b1 hb hf
    go_frame
    go_wp2_with (refine wpList_store_mid rfl 23 (.tmp 6) (.tmp 14) rfl (w.heap.size + 1) 0 L.toArray rfl rfl T1.out YL.out oL ?_)
    refine bodyPost_ret (results_cell_row rfl _ _ (w.heap.size + 1) 23 _ (0, 0) _ rfl D1.out Tryd.underlying23 rfl YL.out) rfl ⟨rfl, B3.out⟩
end Go.Proofs.YtkelfcgomeojeaaDoor
end

section
/- The contracts of sign.validHeight, validSigner, validIndex. -/

namespace Go.Proofs.YtkelfcgomeojeaaDoor
open Go.RowKit
set_option linter.unusedVariables false
set_option maxRecDepth 100000

set_option maxHeartbeats 2000000 in
theorem validHeight_any (h : Int) (w : World) : Calls Tryd.prog 34 #[.int .i64 h] w (Tells (decide (0 ≤ h ∧ h ≤ 6)) w) := by
  by_cases h2 : 0 ≤ h
  · have e2 : decide (0 ≤ h) = true := by simp; omega
    by_cases h3 : h ≤ 6
    · rw [show decide (0 ≤ h ∧ h ≤ 6) = true by simp; omega]
      have e3 : decide (h ≤ 6) = true := by simp; omega
      go_enter Tryd.func34, Tryd.ntmps34
      go_wp2_with fail
      go_ret
      exact ⟨rfl, Below.refl _ _⟩
    · rw [show decide (0 ≤ h ∧ h ≤ 6) = false by simp; omega]
      have e3 : decide (h ≤ 6) = false := by simp; omega
      have h3' : 6 < h := by omega
      go_enter Tryd.func34, Tryd.ntmps34
      go_wp2_with fail
      go_ret
      exact ⟨rfl, Below.refl _ _⟩
  · rw [show decide (0 ≤ h ∧ h ≤ 6) = false by simp; omega]
    have e2 : decide (0 ≤ h) = false := by simp; omega
    have h2' : h < 0 := by omega
    go_enter Tryd.func34, Tryd.ntmps34
    go_wp2_with fail
    go_ret
    exact ⟨rfl, Below.refl _ _⟩
set_option maxHeartbeats 2000000 in
theorem validSigner_any (s : ByteArray) (h : Int) (w : World) : Calls Tryd.prog 21 #[.string s, .int .i64 h] w (Tells (decide (s.size = 32 ∧ 0 ≤ h ∧ h ≤ 6)) w) := by
  by_cases h1 : s.size = 32
  · have e1 : ((s.size : Int) == 32) = true := by rw [h1]; rfl
    have hd : decide (s.size = 32 ∧ 0 ≤ h ∧ h ≤ 6) = decide (0 ≤ h ∧ h ≤ 6) := by simp [h1]
    rw [hd]
    obtain ⟨d, hd2⟩ : ∃ d, d = decide (0 ≤ h ∧ h ≤ 6) := ⟨_, rfl⟩
    have c1 := validHeight_any h w
    rw [← hd2] at c1 ⊢
    have C1 := Lib.hid c1
    clear c1 hd hd2
    go_enter Tryd.func21, Tryd.ntmps21
    go_wp2_with fail
    refine C1.out.mono ?_
    rintro e w2 ⟨rfl, hb⟩
    go_wp2_with fail
    go_ret
    exact ⟨rfl, hb⟩
  · have hr : decide (s.size = 32 ∧ 0 ≤ h ∧ h ≤ 6) = false := by simp [h1]
    rw [hr]
    have e1 : ((s.size : Int) == 32) = false := by simp; omega
    clear hr
    go_enter Tryd.func21, Tryd.ntmps21
    go_wp2_with fail
    go_ret
    exact ⟨rfl, Below.refl _ _⟩
set_option maxHeartbeats 2000000 in
theorem validIndex_any (h : Nat) (i : Int) (w : World) (hh : h ≤ 6) : Calls Tryd.prog 25 #[.int .i64 h, .int .i64 i] w (Tells (decide (0 ≤ i ∧ i < ((2 ^ h : Nat) : Int))) w) := by
  have hp : 2 ^ h ≤ 64 := Nat.pow_le_pow_right (n := 2) (by decide) hh
  by_cases h2 : 0 ≤ i
  · have e2 : decide (0 ≤ i) = true := by simp; omega
    have hd : decide (0 ≤ i ∧ i < ((2 ^ h : Nat) : Int)) = decide (i < ((2 ^ h : Nat) : Int)) := by simp [h2]
    rw [hd]
    have hw : wrap64 ((2 : Int) ^ h) = ((2 ^ h : Nat) : Int) := by
      rw [← w64 (2 ^ h) (by omega)]
      simp
    go_enter Tryd.func25, Tryd.ntmps25
    go_wp2_with fail
    rw [hw]
    go_ret
    exact ⟨rfl, Below.refl _ _⟩
  · rw [show decide (0 ≤ i ∧ i < ((2 ^ h : Nat) : Int)) = false by simp; omega]
    have e2 : decide (0 ≤ i) = false := by simp; omega
    have h2' : i < 0 := by omega
    go_enter Tryd.func25, Tryd.ntmps25
    go_wp2_with fail
    go_ret
    exact ⟨rfl, Below.refl _ _⟩
end Go.Proofs.YtkelfcgomeojeaaDoor
end

section
/- What Public, Sign and Verify answer, in plain lists; the contract of sign.Public. -/




namespace Go.Proofs.YtkelfcgomeojeaaDoor
open Go.RowKit
set_option linter.unusedVariables false
set_option maxRecDepth 100000

def okH (h : Int) : Prop := 0 ≤ h ∧ h ≤ 6
def okS (sd : List UInt8) (h : Int) : Prop := sd.length = 32 ∧ 0 ≤ h ∧ h ≤ 6
instance (h : Int) : Decidable (okH h) := by unfold okH; infer_instance
instance (sd : List UInt8) (h : Int) : Decidable (okS sd h) := by unfold okS; infer_instance
def okI (h : Nat) (i : Int) : Prop := 0 ≤ i ∧ i < ((2 ^ h : Nat) : Int)
instance (h : Nat) (i : Int) : Decidable (okI h i) := by unfold okI; infer_instance
/-- What Public answers. -/
def pubS (sd : List UInt8) (h : Int) : List UInt8 × Int := if okS sd h then (Sg.root sd h.toNat, 0) else (H.zeros 16, 1)
/-- The signature with an index. -/
def sigS (sd : List UInt8) (h i : Nat) (m : List UInt8) : List UInt8 :=
  M.encI (i : Int) ++ cvs i (Sg.digits (Sg.msg (Sg.root sd h) (i : Int) m)) sd 68 ++ (Sg.beside sd i h).flatten
/-- What Sign answers. -/
def signS (sd : List UInt8) (h i : Int) (m : List UInt8) : List UInt8 × Int :=
  if okS sd h then (if okI h.toNat i then (if m.length ≤ 1048576 then (sigS sd h.toNat i.toNat m, 0) else ([], 4)) else ([], 22)) else ([], 1)
/-- The root to which a signature without its index leads. -/
def topS (pub : List UInt8) (h i : Nat) (m rest : List UInt8) : List UInt8 :=
  Sg.climb i (Sg.leafOf (tv i (Sg.digits (Sg.msg pub (i : Int) m)) rest 68)) (chunks (rest.drop 1088) h)
/-- What Verify answers. -/
def verS (pub : List UInt8) (h : Int) (m sg : List UInt8) : Int × Int :=
  if okH h then (if m.length ≤ 1048576 then (if (M.getI sg).2.2 = 0 then
    (if okI h.toNat (M.getI sg).1 ∧ (sg.drop (M.getI sg).2.1).length = (68 + h.toNat) * 16 then
      (if topS pub h.toNat (M.getI sg).1.toNat m (sg.drop (M.getI sg).2.1) = pub then ((M.getI sg).1, 0) else (0, 10)) else (0, 2)) else (0, (M.getI sg).2.2)) else (0, 4)) else (0, 1)
theorem digits_len (d : List UInt8) (h : d.length = 16) : (Sg.digits d).length = 68 := by
  unfold Sg.digits
  rw [List.length_append, quads_len, h]
  rfl
theorem digits_le (d : List UInt8) (h : d.length = 16) (c : Nat) : (Sg.digits d).getD c 0 ≤ 3 := by
  by_cases hc : c < 68
  · have hm : (Sg.digits d).getD c 0 ∈ Sg.digits d := by
      rw [List.getD_eq_getElem?_getD, List.getElem?_eq_getElem (by rw [digits_len d h]; exact hc)]
      exact List.getElem_mem _
    have hC := check_le (Sg.quads d)
    rw [quads_len, h] at hC
    obtain ⟨x, hx⟩ : ∃ x, x = (Sg.digits d).getD c 0 := ⟨_, rfl⟩
    rw [← hx] at hm ⊢
    unfold Sg.digits at hm
    rcases List.mem_append.1 hm with hm | hm
    · obtain ⟨b, -, hb⟩ := List.mem_flatMap.1 hm
      have := quad_lt b _ hb
      omega
    · simp only [List.mem_cons, List.not_mem_nil, or_false] at hm
      omega
  · rw [List.getD_eq_getElem?_getD, List.getElem?_eq_none (by rw [digits_len d h]; omega)]
    exact Nat.zero_le _
theorem root_len (sd : List UInt8) (h : Nat) : (Sg.root sd h).length = 16 := tree_len sd h 0

set_option maxHeartbeats 4000000 in
theorem public_any (s : ByteArray) (h : Int) (w : World) (hT : HTab w) :
    Calls Tryd.prog 12 #[.string s, .int .i64 h] w fun x w' => x = .returned (.tuple #[.agg ((pubS (sb s) h).1.map bv).toArray, .int .i64 (pubS (sb s) h).2]) ∧ Below w.heap.size w w' := by
  obtain ⟨hzd, -⟩ := zero_of_info dig_zero
  obtain ⟨Zd, hZd⟩ : ∃ Zd, Zd = (H.zeros 16).map bv := ⟨_, rfl⟩
  rw [← hZd] at hzd
  have lZd : Zd.length = 16 := by rw [hZd, List.length_map, H.zeros_len]
  have yZ := size_dig lZd
  have oZ : Zd.toArray.all (·.oneCell') = true := all_oneCell_toArray (by rw [hZd]; exact bytes_one _)
  obtain ⟨W0, hW0⟩ : ∃ W0, W0 = w.alloc (.cells Zd.toArray 23) := ⟨_, rfl⟩
  have hb0 : Below w.heap.size w W0 := by rw [hW0]; exact (Below.refl _ _).alloc (Nat.le_refl _) _
  have hk0 : Blk W0 w.heap.size Zd 23 := by rw [hW0]; exact Blk.new w _ _
  have c1 := validSigner_any s h W0
  have C1 := Lib.hid c1
  have HW0 := Lib.hid hW0
  have K0 := Lib.hid (And.intro hk0 hb0)
  have LZ := Lib.hid lZd
  have YZ := Lib.hid yZ
  have HZ := Lib.hid hZd
  have HT := Lib.hid hT
  clear c1 hW0 hk0 hb0 lZd yZ hZd hT
  by_cases hv : okS (sb s) h
  · obtain ⟨G, hG⟩ : ∃ G, G = (Sg.root (sb s) h.toNat).map bv := ⟨_, rfl⟩
    have lG : G.length = 16 := by rw [hG, List.length_map, root_len]
    have yG := size_dig lG
    have oG : G.toArray.all (·.oneCell') = true := all_oneCell_toArray (by rw [hG]; exact bytes_one _)
    have hp : pubS (sb s) h = (Sg.root (sb s) h.toNat, 0) := if_pos hv
    rw [hp]
    show Calls _ _ _ _ fun x w' => x = .returned (.tuple #[.agg ((Sg.root (sb s) h.toNat).map bv).toArray, .int .i64 0]) ∧ Below w.heap.size w w'
    rw [← hG]
    have hv' : s.size = 32 ∧ 0 ≤ h ∧ h ≤ 6 := by have := hv; unfold okS at this; rw [sb_len] at this; exact this
    obtain ⟨n, hn⟩ := Int.eq_ofNat_of_zero_le hv'.2.1
    subst hn
    have hdec : decide (s.size = 32 ∧ (0 : Int) ≤ (n : Int) ∧ (n : Int) ≤ 6) = true := by simp; omega
    have hlG := Lib.hid (And.intro hG lG)
    have YG := Lib.hid yG
    have HV := Lib.hid hv'
    have HD := Lib.hid hdec
    clear hG lG yG hv hp hv' hdec
    go_enter Tryd.func12, Tryd.ntmps12
    go_wp2_with fail
    rw [← HW0.out]
    refine C1.out.mono ?_
    rintro x w1 ⟨rfl, hb1⟩
    rw [HD.out]
    have h1 := K0.out.2.trans (hb1.mono K0.out.2.size)
    have k1 := K0.out.1.below hb1 K0.out.1.lt
    have c2 := climb_any s n 0 w1 (by have := HV.out.1; omega) (by have := HV.out.2.2; omega) Nat.one_le_two_pow (HT.out.below h1 (Nat.le_refl _))
    have C2 := Lib.hid c2
    have K1 := Lib.hid (And.intro k1 h1)
    clear hb1 h1 k1 c2 C1 K0
    go_wp2_with fail
    refine C2.out.mono ?_
    rintro x w2 ⟨rfl, hb2⟩
    rw [show (Sg.root (sb s) n).map bv = G from hlG.out.1.symm]
    obtain ⟨W3, hW3, m1, m2, m3⟩ := row_new w2 23 16 Zd G LZ.out hlG.out.2
    have h2 := hb2.trans (m3.mono hb2.size)
    have k3 := K1.out.1.below h2 K1.out.1.lt
    have h3 := K1.out.2.trans (h2.mono K1.out.2.size)
    have t1 : W3.there w.heap.size 0 G.toArray.size := k3.there 0 _ (by rw [List.size_toArray, hlG.out.2, LZ.out]; omega)
    have d1 := k3.whole G (by rw [hlG.out.2, LZ.out])
    have b1 : Below w.heap.size w (W3.setCells w.heap.size 0 G) := below_setCells _ (Nat.le_refl _) _ _ _ h3
    have M1 := Lib.hid m1
    have M2 := Lib.hid m2
    have HW3 := Lib.hid hW3
    have T1 := Lib.hid t1
    have D1 := Lib.hid d1
    have B1 := Lib.hid b1
    clear hb2 hW3 m1 m2 m3 h2 k3 h3 t1 d1 b1 C2 K1
    go_wp2_with (first | (refine wpList_store_mid rfl 23 (.tmp 6) (.tmp 17) rfl w2.heap.size 0 G.toArray rfl rfl M1.out YG.out oG ?_; rw [← HW3.out]) | (refine wpList_load_row rfl 23 (.tmp 6) rfl w2.heap.size rfl _ G.toArray (0, 0) _ M2.out Tryd.underlying23 rfl YG.out ?_) | (refine wpList_store_mid rfl 23 (.tmp 4) (.tmp 19) rfl w.heap.size 0 G.toArray rfl rfl T1.out YG.out oG ?_))
    refine bodyPost_ret (results_cell_row_tmp rfl _ _ w.heap.size 23 _ (0, 0) _ rfl D1.out Tryd.underlying23 rfl YG.out) rfl ⟨rfl, B1.out⟩
  · have hp : pubS (sb s) h = (H.zeros 16, 1) := if_neg hv
    rw [hp]
    show Calls _ _ _ _ fun x w' => x = .returned (.tuple #[.agg ((H.zeros 16).map bv).toArray, .int .i64 1]) ∧ Below w.heap.size w w'
    rw [← HZ.out]
    have hdec : decide (s.size = 32 ∧ (0 : Int) ≤ h ∧ h ≤ 6) = false := by
      unfold okS at hv
      rw [sb_len] at hv
      exact decide_eq_false hv
    have HD := Lib.hid hdec
    clear hv hp hdec
    go_enter Tryd.func12, Tryd.ntmps12
    go_wp2_with fail
    rw [← HW0.out]
    refine C1.out.mono ?_
    rintro x w1 ⟨rfl, hb1⟩
    rw [HD.out]
    have h1 := K0.out.2.trans (hb1.mono K0.out.2.size)
    have k1 := K0.out.1.below hb1 K0.out.1.lt
    have t1 : w1.there w.heap.size 0 Zd.toArray.size := k1.there 0 _ (by rw [List.size_toArray, LZ.out]; omega)
    have d1 := k1.whole Zd rfl
    have b1 : Below w.heap.size w (w1.setCells w.heap.size 0 Zd) := below_setCells _ (Nat.le_refl _) _ _ _ h1
    have T1 := Lib.hid t1
    have D1 := Lib.hid d1
    have B1 := Lib.hid b1
    clear hb1 h1 k1 t1 d1 b1 C1 K0
    go_wp2_with (refine wpList_store_mid rfl 23 (.tmp 4) (.tmp 12) rfl w.heap.size 0 Zd.toArray rfl rfl T1.out YZ.out oZ ?_)
    refine bodyPost_ret (results_cell_row_tmp rfl _ _ w.heap.size 23 _ (0, 0) _ rfl D1.out Tryd.underlying23 rfl YZ.out) rfl ⟨rfl, B1.out⟩
end Go.Proofs.YtkelfcgomeojeaaDoor
end

