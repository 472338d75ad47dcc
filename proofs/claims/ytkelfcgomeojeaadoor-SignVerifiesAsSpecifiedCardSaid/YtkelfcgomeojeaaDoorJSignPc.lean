import Derived.Test.YtkelfcgomeojeaaDoorJHashK
import Derived.Test.YtkelfcgomeojeaaDoorJHashM
import Derived.Test.YtkelfcgomeojeaaDoorJHashRc
import Derived.Test.YtkelfcgomeojeaaDoorJSignRa
import Derived.Test.YtkelfcgomeojeaaDoorJSnoc
import Derived.Test.YtkelfcgomeojeaaDoorJVars

section
/- What both sides of the signatures need: digits, chains, rows of arguments, digests as texts. -/






namespace Go.Proofs.YtkelfcgomeojeaaDoor
open Go.RowKit
set_option linter.unusedVariables false
set_option maxRecDepth 100000

def dv (n : Nat) : Value := .int .i64 (n : Int)
/-- The four digits of a byte. -/
def quad (b : UInt8) : List Nat := [b.toNat / 64, b.toNat / 16 % 4, b.toNat / 4 % 4, b.toNat % 4]
theorem quads_snoc (d : List UInt8) (i : Nat) (h : i < d.length) : Sg.quads (d.take (i + 1)) = Sg.quads (d.take i) ++ quad (d.getD i 0) := by
  rw [take_snoc d i h]
  simp [Sg.quads, quad]
theorem check_snoc (q : List Nat) (x : Nat) : Sg.check (q ++ [x]) = Sg.check q + (3 - x) := by simp [Sg.check]
theorem check_le (q : List Nat) : Sg.check q ≤ 3 * q.length := by
  induction q with
  | nil => simp [Sg.check]
  | cons x q ih => simp only [Sg.check, List.map_cons, List.sum_cons, List.length_cons] at ih ⊢; omega
theorem quads_len (d : List UInt8) : (Sg.quads d).length = 4 * d.length := by
  induction d with
  | nil => rfl
  | cons x d ih => simp only [Sg.quads, List.flatMap_cons, List.length_append, List.length_cons, List.length_nil] at ih ⊢; omega
theorem quad_lt (b : UInt8) : ∀ x ∈ quad b, x < 4 := by
  have := b.toNat_lt
  intro x hx
  simp only [quad, List.mem_cons, List.not_mem_nil, or_false] at hx
  omega
theorem quad_len (b : UInt8) : (quad b).length = 4 := rfl
theorem w64 (n : Nat) (h : n < 9223372036854775808) : wrap64 (n : Int) = n := by
  unfold wrap64
  omega
theorem four_cells (s : Nat) (h : s < 9223372036854775808) :
    #[Value.int IntKind.i64 (wrap64 ((s : Int).tdiv 64)), Value.int IntKind.i64 ((wrap64 ((s : Int).tdiv 16)).tmod 4), Value.int IntKind.i64 ((wrap64 ((s : Int).tdiv 4)).tmod 4), Value.int IntKind.i64 ((s : Int).tmod 4)] = (([s / 64, s / 16 % 4, s / 4 % 4, s % 4] : List Nat).map dv).toArray := by
  have h1 : (s : Int).tdiv 64 = ((s / 64 : Nat) : Int) := rfl
  have h2 : (s : Int).tdiv 16 = ((s / 16 : Nat) : Int) := rfl
  have h3 : (s : Int).tdiv 4 = ((s / 4 : Nat) : Int) := rfl
  rw [h1, h2, h3, w64 _ (by omega), w64 _ (by omega), w64 _ (by omega)]
  rfl
theorem quad_cells (x : UInt8) :
    #[Value.int IntKind.i64 (wrap64 ((wrap64 (x.toNat : Int)).tdiv 64)), Value.int IntKind.i64 ((wrap64 ((wrap64 (x.toNat : Int)).tdiv 16)).tmod 4), Value.int IntKind.i64 ((wrap64 ((wrap64 (x.toNat : Int)).tdiv 4)).tmod 4), Value.int IntKind.i64 ((wrap64 (x.toNat : Int)).tmod 4)] = ((quad x).map dv).toArray := by
  have := x.toNat_lt
  rw [w64 x.toNat (by omega)]
  exact four_cells x.toNat (by omega)
theorem cells_new (w : World) (xs : List Value) (t : TypeId) : ∀ (j : Nat) (u : Value), xs[j]? = some u → (w.alloc (.cells xs.toArray t)).cell? ((⟨w.heap.size, 0, none⟩ : Addr).add j) = some u := by
  intro j u hu
  have h := (Blk.new w xs t).cell j u hu
  have e : (⟨w.heap.size, 0, none⟩ : Addr).add j = ⟨w.heap.size, j, none⟩ := by unfold Addr.add; split <;> simp_all
  rw [e]
  exact h
/-- A slice of a row of its own or of another's. -/
def Fact.row (xs : List Value) (n : Nat) : Fact :=
  ⟨fun v w => ∃ A, v = .slice A n n ∧ Rd w w.heap.size A xs, fun _ _ _ ⟨A, h1, h2⟩ hb => ⟨A, h1, (h2.below hb).more hb.size⟩⟩
theorem dig_of (t : Nat) (ht : t < 256) (a b : List UInt8) : dig (t : Int) [bs a, bs b] = Sg.of (UInt8.ofNat t) [a, b] := by
  have h : tagB (t : Int) = UInt8.ofNat t := by unfold tagB; rw [show ((t : Int) % 256).toNat = t by omega]
  simp only [dig, inp, Sg.of, h, List.flatMap_cons, List.flatMap_nil, sb_bs]
theorem ints_len (l : List Int) (h : ∀ n ∈ l, M.I64 n) (hl : l.length ≤ 1000000) : (Sg.ints l).length ≤ 9 + 9 * l.length := by
  have h0 := M.encI_len_le (l.length : Int) (M.I64_nat l.length (by omega))
  have h1 : ∀ m : List Int, (∀ n ∈ m, M.I64 n) → (m.flatMap M.encI).length ≤ 9 * m.length := by
    intro m
    induction m with
    | nil => intro _; simp
    | cons x m ih =>
      intro h
      have h1 := M.encI_len_le x (h x (by simp))
      have h2 := ih fun n hn => h n (by simp [hn])
      rw [List.flatMap_cons, List.length_append, List.length_cons]
      omega
  have h2 := h1 l h
  unfold Sg.ints M.encL
  rw [List.length_append]
  omega
theorem adv_snoc (i c t k : Nat) (v : List UInt8) : Sg.adv i c t (k + 1) v = Sg.of 5 [Sg.ints [(i : Int), (c : Int), ((t + k : Nat) : Int)], Sg.adv i c t k v] := by
  rw [Sg.adv_add]
  rfl
theorem adv_len (i c t k : Nat) (v : List UInt8) (h : v.length = 16) : (Sg.adv i c t k v).length = 16 := by
  cases k with
  | zero => exact h
  | succ k => rw [adv_snoc, Sg.of_len]
theorem build3 (w : World) (a b c : Int) : (Instr.buildSlice 25 3 #[(0, .int .i64 a), (1, .int .i64 b), (2, .int .i64 c)]).run Tryd.prog w = .ok (.slice (some ⟨w.heap.size, 0, none⟩) 3 3) (w.alloc (.cells #[.int .i64 a, .int .i64 b, .int .i64 c] 3)) := by
  go_simp
theorem build2s (w : World) (a b : ByteArray) : (Instr.buildSlice 59 2 #[(0, .string a), (1, .string b)]).run Tryd.prog w = .ok (.slice (some ⟨w.heap.size, 0, none⟩) 2 2) (w.alloc (.cells #[.string a, .string b] 9)) := by
  go_simp
theorem build2 (w : World) (a b : Int) : (Instr.buildSlice 25 2 #[(0, .int .i64 a), (1, .int .i64 b)]).run Tryd.prog w = .ok (.slice (some ⟨w.heap.size, 0, none⟩) 2 2) (w.alloc (.cells #[.int .i64 a, .int .i64 b] 3)) := by
  go_simp
/-- The tops of the first k chains. -/
def topsTo (sd : List UInt8) (i k : Nat) : List UInt8 := (List.range k).flatMap (Sg.top sd i)
theorem start_len (sd : List UInt8) (i c : Nat) : (Sg.start sd i c).length = 16 := by
  unfold Sg.start mac
  rw [List.length_take, H.sha_len]
  rfl
theorem top_len (sd : List UInt8) (i c : Nat) : (Sg.top sd i c).length = 16 := adv_len _ _ _ _ _ (start_len sd i c)
theorem topsTo_succ (sd : List UInt8) (i k : Nat) : topsTo sd i (k + 1) = topsTo sd i k ++ Sg.top sd i k := by
  unfold topsTo
  rw [List.range_succ, List.flatMap_append]
  simp
theorem topsTo_len (sd : List UInt8) (i k : Nat) : (topsTo sd i k).length = 16 * k := by
  induction k with
  | zero => rfl
  | succ k ih => rw [topsTo_succ, List.length_append, ih, top_len]; omega
theorem bs_append (a b : List UInt8) : bs a ++ bs b = bs (a ++ b) := by
  rw [← bs_sb (bs a ++ bs b), sb_append, sb_bs, sb_bs]
theorem dig_one (t : Nat) (ht : t < 256) (a : List UInt8) : dig (t : Int) [bs a] = Sg.of (UInt8.ofNat t) [a] := by
  have h : tagB (t : Int) = UInt8.ofNat t := by unfold tagB; rw [show ((t : Int) % 256).toNat = t by omega]
  simp only [dig, inp, Sg.of, h, List.flatMap_cons, List.flatMap_nil, sb_bs]
/-- A digest's variable, cut to a slice; its text. -/
theorem slice_b16 (W : World) (b : Nat) :
    (Instr.sliceAt 23 (.pointer (some ⟨b, 0, none⟩)) none none none).run Tryd.prog W = .ok (.slice (some ⟨b, 0, none⟩) 16 16) W := by
  have h := run_sliceAt_array_all (P := Tryd.prog) W 23 ⟨b, 0, none⟩ (by kernel_rfl)
  rw [h]
  have h1 : Tryd.prog.arrayLen 23 = 16 := by kernel_rfl
  have h2 : (sizeOf (Tryd.prog.elem 23)).run Tryd.prog W = .ok 1 W := by kernel_rfl
  rw [h1, h2]
  simp [slicedAt, Addr.add]
theorem dig_conv (w : World) (b : Nat) (l : List UInt8) (hl : l.length = 16) (h : Blk w b (l.map bv) 23) :
    (convert 51 9 (.slice (some ⟨b, 0, none⟩) 16 16)).run Tryd.prog w = .ok (.string (bs l)) w := by
  have hr : RdB w (b + 1) (some ⟨b, 0, none⟩) l := fun _ => ⟨b, 0, rfl, by omega, fun j u hu => by rw [Nat.zero_add]; exact h.cell j u hu⟩
  have := conv_bytes w _ _ l 16 hr
  rwa [hl] at this
/-- The digest of one part, of two. -/
theorem of_one (t : Nat) (ht : t < 256) (A : Option Addr) (a : List UInt8) (w : World) (hr : Rd w w.heap.size A ([bs a].map sv)) (ha : a.length ≤ 1000000) (hT : HTab w) :
    Calls Tryd.prog 32 #[.int .i64 (t : Int), .slice A 1 1] w fun e w' => e = .returned (.agg ((Sg.of (UInt8.ofNat t) [a]).map bv).toArray) ∧ Below w.heap.size w w' := by
  have hl := M.encI_len_le (a.length : Int) (M.I64_nat a.length (by omega))
  have h := of_any (t : Int) A 1 [bs a] w hr (by simp) (by intro s hs; rw [List.mem_singleton.1 hs, bbytes_size]; omega) (by simp only [inp, List.flatMap_cons, List.flatMap_nil, sb_bs, M.encB, List.length_cons, List.length_append, List.length_nil]; omega) hT
  rw [dig_one t ht] at h
  exact h
theorem of_two (t : Nat) (ht : t < 256) (A : Option Addr) (a b : List UInt8) (w : World) (hr : Rd w w.heap.size A ([bs a, bs b].map sv)) (ha : a.length ≤ 1000000) (hb : b.length ≤ 1000000) (hT : HTab w) :
    Calls Tryd.prog 32 #[.int .i64 (t : Int), .slice A 2 2] w fun e w' => e = .returned (.agg ((Sg.of (UInt8.ofNat t) [a, b]).map bv).toArray) ∧ Below w.heap.size w w' := by
  have hl := M.encI_len_le (a.length : Int) (M.I64_nat a.length (by omega))
  have hl2 := M.encI_len_le (b.length : Int) (M.I64_nat b.length (by omega))
  have h := of_any (t : Int) A 2 [bs a, bs b] w hr (by simp) (by intro s hs; simp only [List.mem_cons, List.not_mem_nil, or_false] at hs; rcases hs with rfl | rfl <;> rw [bbytes_size] <;> omega) (by simp only [inp, List.flatMap_cons, List.flatMap_nil, sb_bs, M.encB, List.length_cons, List.length_append, List.length_nil]; omega) hT
  rw [dig_of t ht] at h
  exact h
end Go.Proofs.YtkelfcgomeojeaaDoor
end

section
/- The contract of sign.nodeOf. -/

namespace Go.Proofs.YtkelfcgomeojeaaDoor
open Go.RowKit
set_option linter.unusedVariables false

set_option maxRecDepth 100000 in
set_option maxHeartbeats 4000000 in
theorem nodeOf_any (a c : List UInt8) (w : World) (ha : a.length = 16) (hc : c.length = 16) (hR : HTab w) :
    Calls Tryd.prog 44 #[.agg (a.map bv).toArray, .agg (c.map bv).toArray] w fun e w' => e = .returned (.agg ((Sg.node a c).map bv).toArray) ∧ Below w.heap.size w w' := by
  obtain ⟨hzd, -⟩ := zero_of_info dig_zero
  obtain ⟨Zd, hZd⟩ : ∃ Zd, Zd = (H.zeros 16).map bv := ⟨_, rfl⟩
  rw [← hZd] at hzd
  have lZd : Zd.length = 16 := by rw [hZd, List.length_map, H.zeros_len]
  obtain ⟨X, hX⟩ : ∃ X, X = a.map bv := ⟨_, rfl⟩
  obtain ⟨Y, hY⟩ : ∃ Y, Y = c.map bv := ⟨_, rfl⟩
  obtain ⟨L, hL⟩ : ∃ L, L = (Sg.node a c).map bv := ⟨_, rfl⟩
  have lX : X.length = 16 := by rw [hX, List.length_map, ha]
  have lY : Y.length = 16 := by rw [hY, List.length_map, hc]
  have lL : L.length = 16 := by rw [hL, List.length_map]; exact Sg.of_len _ _
  have yX := size_dig lX
  have yY := size_dig lY
  have yL := size_dig lL
  have oL : L.toArray.all (·.oneCell') = true := all_oneCell_toArray (by rw [hL]; exact bytes_one _)
  rw [← hX, ← hY, ← hL]
  have hnext : (Sg.of (UInt8.ofNat 2) [a, c]).map bv = L := by rw [hL]; rfl
  obtain ⟨W0, hW0⟩ : ∃ W0, W0 = ((w.alloc (.cells X.toArray 23)).alloc (.cells Y.toArray 23)).alloc (.cells Zd.toArray 23) := ⟨_, rfl⟩
  have hS : Blk W0 w.heap.size X 23 ∧ Blk W0 (w.heap.size + 1) Y 23 ∧ Blk W0 (w.heap.size + 2) Zd 23 ∧ Below w.heap.size w W0 := by
    rw [hW0]
    refine ⟨((Blk.new w _ _).alloc _).alloc _, ?_, ?_, (((Below.refl _ _).alloc (Nat.le_refl _) _).alloc (by simp) _).alloc (by simp; omega) _⟩
    · have h := (Blk.new (w.alloc (.cells X.toArray 23)) Y 23).alloc (.cells Zd.toArray 23)
      simpa using h
    · have h := Blk.new ((w.alloc (.cells X.toArray 23)).alloc (.cells Y.toArray 23)) Zd 23
      simpa using h
  have H := Lib.hid hS
  have HW0 := Lib.hid hW0
  have HX := Lib.hid (And.intro hX hY)
  have LL := Lib.hid (And.intro lL lZd)
  have YX := Lib.hid yX
  have YY := Lib.hid yY
  have YL := Lib.hid yL
  have HN := Lib.hid hnext
  have HR := Lib.hid hR
  clear hS hW0 hX hY hL lX lY lL yX yY yL hZd lZd hR hnext
  go_enter Tryd.func44, Tryd.ntmps44
  go_wp2_with fail
  rw [← HW0.out]
  try go_frame
  refine wp_region_list [5, 6, 7, 8, 9, 10] [.is (.slice (some ⟨w.heap.size, 0, none⟩) 16 16), .is (.string (bs a)), .is (.slice (some ⟨w.heap.size + 1, 0, none⟩) 16 16), .is (.string (bs c)), .row ([bs a, bs c].map sv) 2, .is (.agg L.toArray)] (by kernel_rfl) (by kernel_rfl) ?_ ?_
  · intro z hz b w' hb hd hx o ho
    match z, hz with
    | 0, _ =>
      obtain rfl := Option.some.inj ho
      have e9 : b.tmps.getD 2 undef = .pointer (some ⟨w.heap.size, 0, none⟩) := hx 2 rfl
      have hr := slice_b16 w' w.heap.size
      rw [← e9] at hr
      exact runs_value rfl hr ⟨rfl, Below.refl _ _⟩
    | 1, _ =>
      obtain rfl := Option.some.inj ho
      have e5 : b.tmps.getD 5 undef = .slice (some ⟨w.heap.size, 0, none⟩) 16 16 := hd 0 (by kernel_rfl) (by decide)
      have hB := H.out.1.below hb H.out.1.lt
      rw [HX.out.1] at hB
      have hcv := dig_conv w' w.heap.size a ha hB
      rw [← e5] at hcv
      exact runs_value rfl hcv ⟨rfl, Below.refl _ _⟩
    | 2, _ =>
      obtain rfl := Option.some.inj ho
      have e9 : b.tmps.getD 3 undef = .pointer (some ⟨w.heap.size + 1, 0, none⟩) := hx 3 rfl
      have hr := slice_b16 w' (w.heap.size + 1)
      rw [← e9] at hr
      exact runs_value rfl hr ⟨rfl, Below.refl _ _⟩
    | 3, _ =>
      obtain rfl := Option.some.inj ho
      have e5 : b.tmps.getD 7 undef = .slice (some ⟨w.heap.size + 1, 0, none⟩) 16 16 := hd 2 (by kernel_rfl) (by decide)
      have hB := H.out.2.1.below hb H.out.2.1.lt
      rw [HX.out.2] at hB
      have hcv := dig_conv w' (w.heap.size + 1) c hc hB
      rw [← e5] at hcv
      exact runs_value rfl hcv ⟨rfl, Below.refl _ _⟩
    | 4, _ =>
      obtain rfl := Option.some.inj ho
      have e4 : b.tmps.getD 6 undef = .string (bs a) := hd 1 (by kernel_rfl) (by decide)
      have e6 : b.tmps.getD 8 undef = .string (bs c) := hd 3 (by kernel_rfl) (by decide)
      have hbs := build2s w' (bs a) (bs c)
      rw [← e4, ← e6] at hbs
      refine runs_value (X := Instr.buildSlice 59 2 #[(0, b.tmps.getD 6 undef), (1, b.tmps.getD 8 undef)]) (by unfold execOp; simp [Act.eval]) hbs ⟨⟨some ⟨w'.heap.size, 0, none⟩, rfl, ?_⟩, (Below.refl _ _).alloc (Nat.le_refl _) _⟩
      rw [e4, e6]
      exact rd_new w' [.string (bs a), .string (bs c)] _
    | 5, _ =>
      obtain rfl := Option.some.inj ho
      obtain ⟨A, e7, h7⟩ := hd 4 (by kernel_rfl) (by decide)
      refine runs_call rfl (fun _ _ => rfl) ?_
      show Calls _ _ #[.int .i64 2, b.tmps.getD 9 undef] w' _
      rw [show b.tmps.getD 9 undef = _ from e7]
      exact (of_two 2 (by omega) A a c w' h7 (by omega) (by omega) (HR.out.below (H.out.2.2.2.trans (hb.mono H.out.2.2.2.size)) (Nat.le_refl _))).mono fun e w'' h => ⟨_, h.1, by rw [HN.out]; rfl, h.2⟩
  · intro vals w' hb hf
    have e8 : vals 5 = .agg L.toArray := hf 5 (by decide)
    simp only [puts, List.length_cons, List.length_nil, Nat.zero_add, Nat.reduceAdd, List.drop_succ_cons, List.drop_zero, e8]
    have hZ2 := H.out.2.2.1.below hb H.out.2.2.1.lt
    have hb2 := H.out.2.2.2.trans (hb.mono H.out.2.2.2.size)
    have t1 : w'.there (w.heap.size + 2) 0 L.toArray.size := hZ2.there 0 _ (by rw [List.size_toArray, LL.out.1, LL.out.2]; omega)
    have d1 := hZ2.whole L (by rw [LL.out.1, LL.out.2])
    have b1 : Below w.heap.size w (w'.setCells (w.heap.size + 2) 0 L) := below_setCells _ (by omega) _ _ _ hb2
    have T1 := Lib.hid t1
    have D1 := Lib.hid d1
    have B3 := Lib.hid b1
    clear e8 hZ2 hb2 t1 d1 b1 hb hf
    go_frame
    go_wp2_with (refine wpList_store_mid rfl 23 (.tmp 4) (.tmp 10) rfl (w.heap.size + 2) 0 L.toArray rfl rfl T1.out YL.out oL ?_)
    refine bodyPost_ret (results_cell_row rfl _ _ (w.heap.size + 2) 23 _ (0, 0) _ rfl D1.out Tryd.underlying23 rfl YL.out) rfl ⟨rfl, B3.out⟩
end Go.Proofs.YtkelfcgomeojeaaDoor
end

section
/- The contract of sign.Digits. -/

namespace Go.Proofs.YtkelfcgomeojeaaDoor
open Go.RowKit
set_option linter.unusedVariables false
set_option maxRecDepth 100000

theorem digs_zero : (Tryd.prog.info? 43).map (fun i => (i.zero, i.size)) = some (some (.agg (List.replicate 68 (dv 0)).toArray), 68) := by kernel_rfl
theorem size_digs {xs : List Value} (h : xs.length = 68) : (Tryd.prog.info? 43).map (·.size) = some xs.toArray.size := by rw [List.size_toArray, h]; kernel_rfl
theorem quads_at (d : List UInt8) (i : Nat) (h : i < 4 * d.length) : (Sg.quads d).getD i 0 = (d.getD (i / 4) 0).toNat / 2 ^ (6 - 2 * (i % 4)) % 4 := by
  induction d generalizing i with
  | nil => simp at h
  | cons x d ih =>
    have hx := x.toNat_lt
    have e : Sg.quads (x :: d) = quad x ++ Sg.quads d := rfl
    rw [e]
    by_cases h4 : i < 4
    · rw [List.getD_eq_getElem?_getD, List.getElem?_append_left (by rw [quad_len]; exact h4), show i / 4 = 0 by omega]
      rcases (show i = 0 ∨ i = 1 ∨ i = 2 ∨ i = 3 by omega) with rfl | rfl | rfl | rfl <;> simp [quad] <;> omega
    · rw [List.getD_eq_getElem?_getD, List.getElem?_append_right (by rw [quad_len]; omega), quad_len, ← List.getD_eq_getElem?_getD, ih (i - 4) (by simp at h; omega), show (i - 4) % 4 = i % 4 by omega, show i / 4 = (i - 4) / 4 + 1 by omega]
      rfl
/-- The row of digits while it is filled; then while the checksum's are. -/
def dgA (q : List Nat) (n : Nat) : List Value := (q.take n).map dv ++ List.replicate (68 - n) (dv 0)
def dgB (q : List Nat) (C k : Nat) : List Value := q.map dv ++ ((List.replicate (4 - k) 0 ++ [C / 64, C / 16 % 4, C / 4 % 4, C % 4].drop (4 - k)).map dv)
theorem dgB_set (q : List Nat) (C k : Nat) (hq : q.length = 64) (hC : C ≤ 192) (hk : k < 4) : (dgB q C k).set (67 - k) (dv (C / 4 ^ k % 4)) = dgB q C (k + 1) := by
  unfold dgB
  rw [List.set_append_right _ _ (by rw [List.length_map]; omega), List.length_map, hq]
  congr 1
  rcases (show k = 0 ∨ k = 1 ∨ k = 2 ∨ k = 3 by omega) with rfl | rfl | rfl | rfl
  · simp
  · simp
  · simp
  · simp
    congr 1
    omega

set_option maxHeartbeats 4000000 in
theorem digits_any (d : List UInt8) (w : World) (hd : d.length = 16) :
    Calls Tryd.prog 10 #[.agg (d.map bv).toArray] w fun e w' => e = .returned (.slice (some ⟨w.heap.size + 1, 0, none⟩) 68 68) ∧ Blk w' (w.heap.size + 1) ((Sg.digits d).map dv) 43 ∧ Below w.heap.size w w' := by
  obtain ⟨hz, -⟩ := zero_of_info digs_zero
  obtain ⟨Z, hZ⟩ : ∃ Z, Z = List.replicate 68 (dv 0) := ⟨_, rfl⟩
  rw [← hZ] at hz
  obtain ⟨X, hX⟩ : ∃ X, X = d.map bv := ⟨_, rfl⟩
  have lX : X.length = 16 := by rw [hX, List.length_map, hd]
  obtain ⟨q, hq⟩ : ∃ q, q = Sg.quads d := ⟨_, rfl⟩
  have lq : q.length = 64 := by rw [hq, quads_len, hd]
  rw [← hX]
  obtain ⟨W0, hW0⟩ : ∃ W0, W0 = (w.alloc (.cells X.toArray 23)).alloc (.cells Z.toArray 43) := ⟨_, rfl⟩
  have hS : Blk W0 w.heap.size X 23 ∧ Blk W0 (w.heap.size + 1) (dgA q 0) 43 ∧ Below w.heap.size w W0 := by
    rw [hW0]
    refine ⟨(Blk.new w _ _).alloc _, ?_, ((Below.refl _ _).alloc (Nat.le_refl _) _).alloc (by simp) _⟩
    have h := Blk.new (w.alloc (.cells X.toArray 23)) Z 43
    rw [show dgA q 0 = Z by rw [hZ]; rfl]
    simpa using h
  have HS := Lib.hid hS
  have HW0 := Lib.hid hW0
  have HX := Lib.hid (And.intro hX lX)
  have HQ := Lib.hid (And.intro hq lq)
  clear hS hW0 hX lX hq lq hZ
  go_enter Tryd.func10, Tryd.ntmps10
  go_wp2_with fail
  rw [← HW0.out]
  go_loopw [4, 5, 6, 8] (fun c i5 sh i wr => ∃ n : Nat, n ≤ 64 ∧ i = .int .i64 n ∧ c = dv (Sg.check (q.take n)) ∧ Blk wr w.heap.size X 23 ∧ Blk wr (w.heap.size + 1) (dgA q n) 43 ∧ Below w.heap.size w wr) (fun _ _ _ i _ => 64 - (intOf i).toNat)
  case atStart => exact ⟨0, by omega, rfl, rfl, HS.out⟩
  case round =>
    clear HS
    obtain ⟨n, hn, rfl, rfl, hX, hD, hbel⟩ := hrel
    by_cases hlt : n < 64
    · obtain ⟨x, hx⟩ : ∃ x, x = d.getD (n / 4) 0 := ⟨_, rfl⟩
      have hln : n / 4 < d.length := by omega
      have g1 : wr.cell? ⟨w.heap.size, n / 4, none⟩ = some (.int .u8 (x.toNat : Int)) := hX.cell (n / 4) (bv x) (by rw [HX.out.1, List.getElem?_map, getD_at d (n / 4) 0 hln, hx]; rfl)
      have hdn : (dgA q n)[n]? = some (dv 0) := fill_at _ n 68 _ (by rw [List.length_map, List.length_take]; have := HQ.out.2; omega) (by omega)
      have g2 : wr.cell? ⟨w.heap.size + 1, n, none⟩ = some (dv 0) := hD.cell n _ hdn
      have f2 : wr.frozen? ⟨w.heap.size + 1, n, none⟩ = false := hD.frozen _
      have ik : (n : Int) < 64 := by omega
      have ik0 : (0 : Int) ≤ n := by omega
      have K := Lib.hid (And.intro hX (And.intro hD hbel))
      have HXd := Lib.hid hx.symm
      clear hX hD hbel hx
      unfold dv
      go_wp2_with fail
      obtain ⟨y, hy⟩ : ∃ y, y = q.getD n 0 := ⟨_, rfl⟩
      have hyq : y = x.toNat / 2 ^ (8 - 2 * (1 + n % 4)) % 4 := by
        rw [hy, HQ.out.1, quads_at d n (by omega), HXd.out, show 8 - 2 * (1 + n % 4) = 6 - 2 * (n % 4) by omega]
      have hxe : (wrap64 ((x.toNat : Int) / 2 ^ (8 - 2 * (1 + n % 4)))).tmod 4 = (y : Int) := by
        have hlt := x.toNat_lt
        obtain ⟨m, hm⟩ : ∃ m, m = x.toNat / 2 ^ (8 - 2 * (1 + n % 4)) := ⟨_, rfl⟩
        have hml : m ≤ x.toNat := by rw [hm]; exact Nat.div_le_self _ _
        have e : (x.toNat : Int) / 2 ^ (8 - 2 * (1 + n % 4)) = (m : Int) := by rw [hm]; simp
        rw [e, w64 m (by omega), hyq, ← hm]
        rfl
      have hy4 : y < 4 := by rw [hyq]; omega
      have hsn : q.take (n + 1) = q.take n ++ [y] := by rw [List.take_add_one, List.getElem?_eq_getElem (by have := HQ.out.2; omega), hy, show q.getD n 0 = q[n]'(by have := HQ.out.2; omega) from by simp [HQ.out.2, hlt]]; rfl
      have hck : Sg.check (q.take (n + 1)) = Sg.check (q.take n) + (3 - y) := by rw [hsn, check_snoc]
      have hcl := check_le (q.take n)
      rw [List.length_take] at hcl
      rw [hxe]
      obtain ⟨hX, hD, hbel⟩ := K.out
      refine ⟨⟨n + 1, by omega, by go_num, ?_, hX.other _ _ (by show _ ≠ w.heap.size + 1; omega), ?_, hbel.setCell (by show _ ≤ w.heap.size + 1; omega) _⟩, by simp [intOf]; omega⟩
      · rw [hck]
        congr 1
        unfold wrap64
        omega
      · have h := hD.set n (dv y)
        unfold dgA at h ⊢
        rw [fill_set _ n 68 _ _ (by rw [List.length_map, List.length_take]; have := HQ.out.2; omega) (by omega), show (q.take n).map dv ++ [dv y] = (q.take (n + 1)).map dv by rw [hsn, List.map_append]; rfl] at h
        exact h
    · have hn4 : n = 64 := by omega
      obtain ⟨C, hC⟩ : ∃ C, C = Sg.check q := ⟨_, rfl⟩
      have hCl : C ≤ 192 := by have := check_le q; rw [hC]; have := HQ.out.2; omega
      have hB0 : Blk wr (w.heap.size + 1) (dgB q C 0) 43 := by
        rw [hn4] at hD
        have e : dgA q 64 = dgB q C 0 := by unfold dgA dgB; rw [List.take_of_length_le (by have := HQ.out.2; omega)]; rfl
        rwa [e] at hD
      rw [hn4, List.take_of_length_le (by have := HQ.out.2; omega), ← hC]
      have hres : dgB q C 4 = (Sg.digits d).map dv := by
        unfold dgB Sg.digits
        rw [← HQ.out.1, ← hC, ← List.map_append]
        rfl
      have K := Lib.hid (And.intro hB0 hbel)
      have HR := Lib.hid hres
      clear hX hD hbel hB0 hC hn4 hres
      unfold dv
      go_wp2_with fail
      go_loopw [4, 7] (fun c i wx => ∃ p : Nat, p ≤ 67 ∧ 63 ≤ p ∧ i = .int .i64 p ∧ c = dv (C / 4 ^ (67 - p)) ∧ Blk wx (w.heap.size + 1) (dgB q C (67 - p)) 43 ∧ Below w.heap.size w wx) (fun _ i _ => (intOf i).toNat)
      case atStart => exact ⟨67, by omega, by omega, rfl, by simp [dv], K.out⟩
      case round =>
        clear K
        obtain ⟨p, hp, hp2, rfl, rfl, hD, hbel⟩ := hrel
        have lB : ∀ k, k ≤ 4 → (dgB q C k).length = 68 := by
          intro k hk
          unfold dgB
          rw [List.length_append, List.length_map, List.length_map, List.length_append, List.length_replicate, List.length_drop, HQ.out.2]
          simp
        by_cases hlk : 64 ≤ p
        · have ik : (64 : Int) ≤ p := by omega
          have ik0 : (0 : Int) ≤ p := by omega
          have ik1 : (p : Int) < 68 := by omega
          obtain ⟨u, hu⟩ : ∃ u, (dgB q C (67 - p))[p]? = some u := ⟨_, List.getElem?_eq_getElem (by rw [lB _ (by omega)]; omega)⟩
          have g2 : wr.cell? ⟨w.heap.size + 1, p, none⟩ = some u := hD.cell p _ hu
          have f2 : wr.frozen? ⟨w.heap.size + 1, p, none⟩ = false := hD.frozen _
          obtain ⟨E, hE⟩ : ∃ E, E = C / 4 ^ (67 - p) := ⟨_, rfl⟩
          have hEl : E ≤ 192 := by rw [hE]; exact Nat.le_trans (Nat.div_le_self _ _) hCl
          have hD2 := hD.set p (dv (E % 4))
          have hs := dgB_set q C (67 - p) HQ.out.2 hCl (by omega)
          rw [show 67 - (67 - p) = p by omega, ← hE] at hs
          rw [hs] at hD2
          have hb2 : Below w.heap.size w (wr.setCell ⟨w.heap.size + 1, p, none⟩ (dv (E % 4))) := hbel.setCell (by show _ ≤ w.heap.size + 1; omega) _
          have hnx : E / 4 = C / 4 ^ (67 - (p - 1)) := by rw [hE, show 67 - (p - 1) = 67 - p + 1 by omega, Nat.pow_succ, Nat.div_div_eq_div_mul]
          rw [show 67 - p + 1 = 67 - (p - 1) by omega] at hD2
          have K := Lib.hid (And.intro hD2 hb2)
          have HN := Lib.hid hnx
          have HE := Lib.hid hE
          rw [← hE]
          clear hD hbel hu hE hD2 hs hb2 hnx lB
          unfold dv
          go_wp2_with fail
          refine ⟨⟨p - 1, by omega, by omega, by congr 1; omega, ?_, K.out⟩, by simp [intOf]; omega⟩
          rw [← HN.out]
          rfl
        · have ik : (p : Int) < 64 := by omega
          have hp3 : p = 63 := by omega
          rw [hp3, show 67 - 63 = 4 from rfl, HR.out] at hD
          have K := Lib.hid (And.intro hD hbel)
          clear hD hbel
          unfold dv
          go_wp2_with fail
          go_ret
          exact ⟨rfl, K.out⟩
end Go.Proofs.YtkelfcgomeojeaaDoor
end

