import Derived.Test.YtkelfcgomeojeaaDoorProg
import Derived.StillTail
import Derived.Deep.Quiet
import Derived.Deep.QuietTactic
import Derived.BigQuiet
import Derived.Below
import Derived.Test.YtkelfcgomeojeaaDoorJHashI
import Derived.Test.YtkelfcgomeojeaaDoorJWireK0

section
/- A region that draws its order: its head yields one value an operation in every world of a class (callees may make memory), its tail comes in one forced order. The head is walked once, in the text's order. -/






namespace Go.Proofs.YtkelfcgomeojeaaDoor
open Go.RowKit

section
variable {P : Program} {ops : Array Oper} {C : World → Prop} {n g : Nat} {D : Array Bool → Act → Prop}

/-- Whatever is picked: an operation of the head, quiet in the class; after so many the state is as D says. -/
def Heads (P : Program) (ops : Array Oper) (C : World → Prop) (n : Nat) (D : Array Bool → Act → Prop) : Nat → Array Bool → Act → Prop
  | 0, done, a => D done a
  | k + 1, done, a => Region.ready .any ops done ≠ [] ∧ ∀ i, i ∈ Region.ready .any ops done → i < n ∧ qOp P ops C i (Heads P ops C n D k (done.setIfInBounds i true)) a

theorem Heads.any {Q : Exit → Act → World → Prop} (hD : ∀ done a w, C w → D done a → wpAny P .any ops Q g done a w) :
    ∀ k done a w, C w → Heads P ops C n D k done a → wpAny P .any ops Q (k + g) done a w := by
  intro k
  induction k with
  | zero =>
    intro done a w hw h
    rw [Nat.zero_add]
    exact hD done a w hw h
  | succ k ih =>
    intro done a w hw h
    rw [Nat.add_right_comm]
    exact ⟨fun e => absurd e h.1, fun i hi => wpOp_of_qOp hw (fun a' w' hw' hh => ih _ a' w' hw' hh) (h.2 i hi).2⟩

/-- One operation of the head that may come now may come first. -/
theorem Heads.first (hns : Region.noSelect ops = true) (hs : Region.sinkB .any ops n = true) (hc : Region.chainB .any ops n = true) (hn : n < ops.size)
    (hD : ∀ done a, D done a → ∀ j, j ∈ Region.ready .any ops done → n ≤ j) {i : Nat} {o : Oper} {v : Value} (ho : ops[i]? = some o) (hi : i < n) :
    ∀ k done a, HeadInv .any ops n done →
      (∀ j p, ops[j]? = some p → j ≠ i → done.getD j true = false → (∀ e ∈ p.after, Region.binds .any e = true → e.on ≠ i) → o.apart ops p = true) →
      i ∈ Region.ready .any ops done → YieldsIn P ops C o v a → Heads P ops C n D k (done.setIfInBounds i true) (a.put o.dst v) → Heads P ops C n D (k + 1) done a := by
  have sel := Region.noSelect_spec hns
  intro k
  induction k with
  | zero =>
    intro done a inv _ hr hy hh
    have open' := (mem_ready.1 hr).1
    refine ⟨List.ne_nil_of_mem hr, fun j hj => ?_⟩
    have lt : j < n := Nat.lt_of_not_le fun h => tail_waits hs hc hn inv _ i rfl hi open' j h hj
    by_cases e : j = i
    · subst e
      exact ⟨lt, hy.qOp ho hh⟩
    · have := hD _ _ hh j (ready_mono hj e)
      omega
  | succ k ih =>
    intro done a inv hap hr hy hh
    have open' := (mem_ready.1 hr).1
    refine ⟨List.ne_nil_of_mem hr, fun j hj => ?_⟩
    have lt : j < n := Nat.lt_of_not_le fun h => tail_waits hs hc hn inv _ i rfl hi open' j h hj
    by_cases e : j = i
    · subst e
      exact ⟨lt, hy.qOp ho hh⟩
    · obtain ⟨openj, p, hp, waits⟩ := mem_ready.1 hj
      have free : ∀ d ∈ p.after, Region.binds .any d = true → d.on ≠ i := fun d hd hb he => by
        have := waits d hd hb
        rw [he, getD_both open'] at this
        cases this
      refine ⟨lt, qOp_mono (fun a' ha' => ih _ a' (inv.set hj lt) ?_ (ready_mono hr (Ne.symm e)) ha'.1 ?_) (qOp_put hp (hap j p hp e openj free) (sel i o · · ho) (sel j p · · hp) hy (hh.2 j (ready_mono hj e)).2)⟩
      · intro q r hq hqi hopen
        refine hap q r hq hqi ?_
        by_cases eq : j = q
        · rw [← eq]; exact openj
        · rwa [getD_set_ne true eq] at hopen
      · rw [Array.setIfInBounds_comm _ _ e]
        exact ha'.2

/-- The head in the text's order. -/
theorem Heads.text {R : Act → Prop} (hns : Region.noSelect ops = true) (hs : Region.sinkB .any ops n = true) (hc : Region.chainB .any ops n = true) (hn : n < ops.size) :
    ∀ (l : List Oper) (k : Nat) (done : Array Bool) (a : Act), (∀ j, j < l.length → l[j]? = ops[k + j]?) → k + l.length = n → HeadInv .any ops n done →
      Region.lexHead .any ops g l.length k done = true → wpQuiet P ops C R l a → Heads P ops C n (fun done' a' => Region.seqB .any ops g n done' = true ∧ R a') l.length done a := by
  intro l
  induction l with
  | nil =>
    intro k done a _ hk _ hB h
    simp only [List.length_nil, Nat.add_zero] at hk
    subst hk
    exact ⟨hB, h⟩
  | cons o l ih =>
    intro k done a hl hk inv hB h
    have ho : ops[k]? = some o := by simpa using (hl 0 (by simp)).symm
    simp only [List.length_cons, Region.lexHead, Bool.and_eq_true] at hB hk
    have hr : k ∈ Region.ready .any ops done := by simpa using hB.1.1
    obtain ⟨v, hy, hh⟩ := yieldsIn_of_qOp ho (show qOp P ops C k (wpQuiet P ops C R l) a by unfold qOp; simp only [ho]; exact h)
    refine Heads.first hns hs hc hn (fun _ _ hd => seqB_ready hd.1) ho (by omega) l.length done a inv (Region.free_spec ho hB.1.2) hr hy ?_
    exact ih (k + 1) _ _ (fun j hj => by have := hl (j + 1) (by simp; omega); simpa [Nat.add_assoc, Nat.add_comm 1 j] using this) (by omega) (inv.set hr (by omega)) hB.2 hh

/-- THE REGION: n operations quiet in the class, then the rest, in the text's order, from whatever world of the class. -/
theorem wp_region_head {id : Nat} {Q : Exit → Act → World → Prop} {a : Act} {w : World} {l : List Oper} (n : Nat) (C : World → Prop) (hm : P.follows .mixedOrders = true) (hB : Region.lexTailB .any l.toArray n = true) (hC : C w.drew)
    (h : wpQuiet P l.toArray C (fun a' => ∀ w', C w' → wpList P l.toArray Q (l.drop n) a' w') (l.take n) a) : (Code.region id l.toArray true).wp P Q a w := by
  simp only [Region.lexTailB, Bool.and_eq_true, decide_eq_true_eq] at hB
  obtain ⟨⟨⟨⟨hns, hlt⟩, hs⟩, hc⟩, hx⟩ := hB
  have hlt' : n < l.length := by simpa using hlt
  have e1 : (l.take n).length = n := by rw [List.length_take]; omega
  have e2 : (l.drop n).length = l.toArray.size - n := by rw [List.length_drop, List.size_toArray]
  have start : HeadInv .any l.toArray n (Array.replicate l.toArray.size false) :=
    ⟨Array.size_replicate, fun j _ _ ht => absurd ht (by rw [getD_replicate_false]; exact Bool.noConfusion), fun t _ ht => getD_in (by rw [Array.size_replicate]; exact ht) (getD_replicate_false _ _)⟩
  have heads := Heads.text (g := l.toArray.size - n) hns hs hc hlt (l.take n) 0 _ a (fun j hj => by
    rw [e1] at hj
    rw [List.getElem?_take, if_pos hj, Nat.zero_add, List.getElem?_toArray]) (by rw [Nat.zero_add, e1]) start (by rw [e1]; exact hx) h
  have all := Heads.any (Q := Q) (g := l.toArray.size - n) (fun done a' w' hw' hd => by
    have := wpAny_of_seq (md := .any) (Q' := Q) (l.drop n) n done a' w' (fun j => by rw [List.getElem?_drop, List.getElem?_toArray]) (by rw [e2]; exact hd.1) (hd.2 w' hw')
    rwa [e2] at this) _ _ _ _ hC heads
  rw [e1, show n + (l.toArray.size - n) = l.toArray.size by omega] at all
  exact wp_region_any hm all
end

/-- The worlds that are as w below block B, and hold S. -/
def BelS (B : Nat) (w : World) : Type := { w' : World // Below B w w' }
def BelS.at {B : Nat} {w : World} (x : BelS B w) : World := x.val
theorem BelS.out {B : Nat} {w : World} (x : BelS B w) : Below B w x.at := x.property
theorem BelS.of {B : Nat} {w w' : World} (h : Below B w w') : ∃ x : BelS B w, w' = x.at := ⟨⟨w', h⟩, rfl⟩
/-- A callee that only makes memory stays in the class. -/
theorem BelS.call {P : Program} {f : FuncId} {args : Array Value} {v : Value} {W : World} (x : BelS W.heap.size W) (h : Calls P f args x.at fun e w' => e = .returned v ∧ Below x.at.heap.size x.at w') :
    Calls P f args x.at fun e w' => e = .returned v ∧ ∃ y : BelS W.heap.size W, w' = y.at :=
  h.mono fun _ _ ⟨h1, h2⟩ => ⟨h1, BelS.of (x.out.trans (h2.mono x.out.size))⟩
/-- .. at the class of the worlds that are as w below block B. -/
theorem wp_region_headB {P : Program} {id : Nat} {Q : Exit → Act → World → Prop} {a : Act} {w : World} {l : List Oper} (n B : Nat) (hm : P.follows .mixedOrders = true) (hB : Region.lexTailB .any l.toArray n = true)
    (h : wpQuiet P l.toArray (fun w' => ∃ x : BelS B w, w' = x.at) (fun a' => ∀ w', (∃ x : BelS B w, w' = x.at) → wpList P l.toArray Q (l.drop n) a' w') (l.take n) a) : (Code.region id l.toArray true).wp P Q a w :=
  wp_region_head n _ hm hB (BelS.of (Below.refl _ _).drew) h
/-- In such a walk: a conversion, a load, by their runs in every world of the class. -/
theorem wpQuiet_convert {P : Program} {ops : Array Oper} {S : World → Prop} {Q : Act → Prop} {rest : List Oper} {a : Act} {o : Oper} (hg : o.guard = none) (t u : TypeId) (x : Operand) (ho : o.op = .convert t u x)
    (p : Value) (hx : a.eval x = p) (v : Value) (hrun : ∀ w, S w → (convert t u p).run P w = .ok v w) (h : wpQuiet P ops S Q rest (a.put o.dst v)) : wpQuiet P ops S Q (o :: rest) a := by
  unfold wpQuiet
  rw [if_pos (show Region.wanted o (yielded ops a.tmps) = true by simp [Region.wanted, hg])]
  refine ⟨v, fun w hS => ?_, h⟩
  unfold Oper.quietAt execOp
  simp only [ho, hx, Sem.run_bind, Sem.run_pure, hrun w hS, Result.andThen_ok, Oper.quietUpon, and_self]
theorem wpQuiet_loadAt {P : Program} {ops : Array Oper} {S : World → Prop} {Q : Act → Prop} {rest : List Oper} {a : Act} {o : Oper} (hg : o.guard = none) (ty : TypeId) (x : Operand) (ho : o.op = .load ty x)
    (p : Value) (hx : a.eval x = p) (v : Value) (hrun : ∀ w, S w → (Instr.loadAt ty p).run P w = .ok v w) (h : wpQuiet P ops S Q rest (a.put o.dst v)) : wpQuiet P ops S Q (o :: rest) a := by
  unfold wpQuiet
  rw [if_pos (show Region.wanted o (yielded ops a.tmps) = true by simp [Region.wanted, hg])]
  refine ⟨v, fun w hS => ?_, h⟩
  unfold Oper.quietAt execOp
  simp only [ho, hx, Sem.run_bind, Sem.run_pure, hrun w hS, Result.andThen_ok, Oper.quietUpon, and_self]
end Go.Proofs.YtkelfcgomeojeaaDoor
end

section
/- The contract of hash.Sum. -/



namespace Go.Proofs.YtkelfcgomeojeaaDoor
open Go.RowKit
set_option linter.unusedVariables false

theorem bbytes_size (l : List UInt8) : (bs l).size = l.length := by simp [bs, ByteArray.size]
theorem begin_strm (w : World) : Calls Tryd.prog 53 #[] w fun e w' => e = .returned (.agg (Strm []).toArray) ∧ Below w.heap.size w w' := begin_any w

set_option maxRecDepth 100000 in
set_option maxHeartbeats 2000000 in
theorem hsum_any (A : Option Addr) (cap : Nat) (l : List UInt8) (w : World) (hr : RdB w w.heap.size A l) (hl : l.length ≤ 100000000) (ht : HTab w) :
    Calls Tryd.prog 62 #[.slice A l.length cap] w fun e w' => e = .returned (.agg ((H.sha l).map bv).toArray) ∧ Below w.heap.size w w' := by
  obtain ⟨hz, -⟩ := zero_of_info sum_zero
  obtain ⟨Z, hZ⟩ : ∃ Z, Z = (H.zeros 32).map bv := ⟨_, rfl⟩
  rw [← hZ] at hz
  have lZ : Z.length = 32 := by rw [hZ, List.length_map, H.zeros_len]
  obtain ⟨R, hR⟩ : ∃ R, R = (H.sha l).map bv := ⟨_, rfl⟩
  have hRl : R.length = 32 := by rw [hR, List.length_map, H.sha_len]
  rw [← hR]
  obtain ⟨s, hs⟩ : ∃ s, s = bs l := ⟨_, rfl⟩
  have hsb : sb s = l := by rw [hs]; exact sb_bs l
  have hsl : s.size ≤ 100000000 := by rw [hs, bbytes_size]; exact hl
  obtain ⟨W0, hW0⟩ : ∃ W0, W0 = w.alloc (.cells Z.toArray 85) := ⟨_, rfl⟩
  have hbel0 : Below w.heap.size w W0 := by rw [hW0]; exact (Below.refl _ _).alloc (Nat.le_refl _) _
  have hb0 : Blk W0 w.heap.size Z 85 := by rw [hW0]; exact Blk.new w Z _
  have hs0 : W0.heap.size = w.heap.size + 1 := by rw [hW0]; simp only [World.size_alloc]
  obtain ⟨n, hn⟩ : ∃ n, n = l.length := ⟨_, rfl⟩
  have hcv : ∀ x : BelS W0.heap.size W0, (convert 51 9 (.slice A n cap)).run Tryd.prog x.at = .ok (.string s) x.at := fun x => by
    rw [hs, hn]
    exact conv_bytes x.at _ A l cap ((hr.below hbel0).keep fun p hp => x.out.cell (by omega))
  have hbeg : ∀ x : BelS W0.heap.size W0, Calls Tryd.prog 53 #[] x.at fun e w' => e = .returned (.agg (Strm []).toArray) ∧ ∃ y : BelS W0.heap.size W0, w' = y.at := fun x =>
    (begin_strm x.at).mono fun e w' ⟨h1, h2⟩ => ⟨h1, BelS.of (x.out.trans (h2.mono x.out.size))⟩
  have hadd : ∀ x : BelS W0.heap.size W0, Calls Tryd.prog 54 #[.agg (Strm []).toArray, .string s] x.at fun e w' => e = .returned (.agg (Strm l).toArray) ∧ ∃ y : BelS W0.heap.size W0, w' = y.at := fun x =>
    (add_any [] s x.at (by simp; omega) ((ht.below hbel0 (Nat.le_refl _)).below x.out (Nat.le_refl _))).mono fun e w' ⟨h1, h2⟩ => ⟨by rw [h1, hsb]; rfl, BelS.of (x.out.trans (h2.mono x.out.size))⟩
  have hsum : ∀ x : BelS W0.heap.size W0, Calls Tryd.prog 56 #[.agg (Strm l).toArray] x.at fun e w' => e = .returned (.agg R.toArray) ∧ ∃ y : BelS W0.heap.size W0, w' = y.at := fun x =>
    (sum_any l x.at (by omega) ((ht.below hbel0 (Nat.le_refl _)).below x.out (Nat.le_refl _))).mono fun e w' ⟨h1, h2⟩ => ⟨by rw [h1, hR], BelS.of (x.out.trans (h2.mono x.out.size))⟩
  have y1 := size_sum hRl
  have o : R.toArray.all (·.oneCell') = true := all_oneCell_toArray (by rw [hR]; exact bytes_one _)
  obtain ⟨S0, hS0⟩ : ∃ S0, S0 = (Strm []).toArray := ⟨_, rfl⟩
  obtain ⟨S1, hS1⟩ : ∃ S1, S1 = (Strm l).toArray := ⟨_, rfl⟩
  rw [← hn]
  rw [← hS0] at hbeg hadd
  rw [← hS1] at hadd hsum
  have K := Lib.hid (And.intro hbel0 (And.intro hb0 (And.intro hs0 (And.intro hRl lZ))))
  have HCV := Lib.hid hcv
  have HB := Lib.hid hbeg
  have HA := Lib.hid hadd
  have HS := Lib.hid hsum
  have HW0 := Lib.hid hW0
  have Y1 := Lib.hid y1
  clear hZ lZ hR hRl hs hsb hsl hbel0 hb0 hs0 hcv hbeg hadd hsum hS0 hS1 y1 hr hn hW0
  go_enter Tryd.func62, Tryd.ntmps62
  go_wp2_with fail
  rw [← HW0.out]
  refine wp_region_headB 5 W0.heap.size (by kernel_rfl) (by kernel_rfl) ?_
  simp only [List.take_succ_cons, List.take_zero, List.drop_succ_cons, List.drop_zero]
  go_big_quiet_step (exact HB.out _)
  go_big_quiet_step (fail)
  refine wpQuiet_convert rfl 51 9 (.tmp 4) rfl (.slice A n cap) rfl (.string s) (fun w' hw' => by obtain ⟨x, rfl⟩ := hw'; exact HCV.out x) ?_
  go_simp
  go_big_quiet_step (exact HA.out _)
  go_big_quiet_step (exact HS.out _)
  refine wpQuiet_nil ?_
  intro x
  obtain ⟨hbel0, hb0, hs0, hRl, lZ⟩ := K.out
  have hb1 : Blk x.at w.heap.size Z 85 := hb0.below x.out (by omega)
  have t1 : x.at.there w.heap.size 0 R.toArray.size := hb1.there 0 _ (by rw [List.size_toArray, hRl, lZ]; omega)
  have d1 := hb1.whole R (by rw [hRl, lZ])
  have e1 : Below w.heap.size w (x.at.setCells w.heap.size 0 R) := below_setCells _ (Nat.le_refl _) _ _ _ (hbel0.trans (x.out.mono (by omega)))
  have T1 := Lib.hid t1
  have D1 := Lib.hid d1
  have E1 := Lib.hid e1
  clear hbel0 hb0 hs0 hRl lZ hb1 t1 d1 e1
  go_wp2_with (refine wpList_store_mid rfl 85 (.tmp 2) (.tmp 7) rfl w.heap.size 0 R.toArray rfl rfl T1.out Y1.out o ?_)
  exact bodyPost_ret (results_cell_row rfl _ _ w.heap.size 85 _ (0, 0) _ rfl D1.out Tryd.underlying85 rfl Y1.out) rfl ⟨rfl, E1.out⟩
end Go.Proofs.YtkelfcgomeojeaaDoor
end

section
/- The contract of hash.padded. -/

namespace Go.Proofs.YtkelfcgomeojeaaDoor
open Go.RowKit
set_option linter.unusedVariables false

theorem bxor8 (x y : UInt8) : bits .xor .u8 (x.toNat : Int) (y.toNat : Int) = ((x ^^^ y).toNat : Int) := by
  rw [u8_xor_nat _ _ x.toNat_lt y.toNat_lt, UInt8.toNat_xor]
/-- A key, extended to a block, every byte combined with c. -/
def padK (k : List UInt8) (c : UInt8) : List UInt8 := (k ++ H.zeros (64 - k.length)).map (· ^^^ c)
theorem padK_len (k : List UInt8) (c : UInt8) (h : k.length ≤ 64) : (padK k c).length = 64 := by simp [padK, H.zeros_len]; omega
def mixed (b : List UInt8) (c : UInt8) (k : Nat) : List UInt8 := (b.take k).map (· ^^^ c) ++ b.drop k
theorem mixed_len (b : List UInt8) (c : UInt8) (k : Nat) (h : k ≤ b.length) : (mixed b c k).length = b.length := by simp [mixed]; omega
theorem mixed_at (b : List UInt8) (c : UInt8) (k : Nat) (h : k < b.length) : (mixed b c k)[k]? = some (b.getD k 0) := by
  unfold mixed
  rw [List.getElem?_append_right (by simp; omega)]
  simp [List.getElem?_eq_getElem h, show k - min k b.length = 0 by omega]
theorem mixed_set (b : List UInt8) (c : UInt8) (k : Nat) (h : k < b.length) : (mixed b c k).set k (b.getD k 0 ^^^ c) = mixed b c (k + 1) := by
  unfold mixed
  have hl : ((b.take k).map (· ^^^ c)).length = k := by simp; omega
  rw [List.set_append_right _ _ (by omega), hl, Nat.sub_self, List.drop_eq_getElem_cons h, List.set_cons_zero, List.take_add_one, List.getElem?_eq_getElem h, show b.getD k 0 = b[k] from by simp [h]]
  simp only [List.map_append, Option.toList, List.map_cons, List.map_nil, List.append_assoc, List.cons_append, List.nil_append]
theorem mixed_full (b : List UInt8) (c : UInt8) (k : Nat) (h : k = b.length) : mixed b c k = b.map (· ^^^ c) := by
  unfold mixed
  rw [h, List.take_length, List.drop_length, List.append_nil]
theorem slice_b64 (W : World) (b : Nat) :
    (Instr.sliceAt 79 (.pointer (some ⟨b, 0, none⟩)) none none none).run Tryd.prog W = .ok (.slice (some ⟨b, 0, none⟩) 64 64) W := by
  have h := run_sliceAt_array_all (P := Tryd.prog) W 79 ⟨b, 0, none⟩ (by kernel_rfl)
  rw [h]
  have h1 : Tryd.prog.arrayLen 79 = 64 := by kernel_rfl
  have h2 : (sizeOf (Tryd.prog.elem 79)).run Tryd.prog W = .ok 1 W := by kernel_rfl
  rw [h1, h2]
  simp [slicedAt, Addr.add]
theorem slice_b32 (W : World) (b : Nat) :
    (Instr.sliceAt 85 (.pointer (some ⟨b, 0, none⟩)) none none none).run Tryd.prog W = .ok (.slice (some ⟨b, 0, none⟩) 32 32) W := by
  have h := run_sliceAt_array_all (P := Tryd.prog) W 85 ⟨b, 0, none⟩ (by kernel_rfl)
  rw [h]
  have h1 : Tryd.prog.arrayLen 85 = 32 := by kernel_rfl
  have h2 : (sizeOf (Tryd.prog.elem 85)).run Tryd.prog W = .ok 1 W := by kernel_rfl
  rw [h1, h2]
  simp [slicedAt, Addr.add]

set_option maxRecDepth 100000 in
set_option maxHeartbeats 2000000 in
theorem padded_any (s : ByteArray) (c : UInt8) (z : Int) (w : World) (hz : z = (c.toNat : Int)) (hs : s.size ≤ 64) :
    Calls Tryd.prog 63 #[.string s, .int .u8 z] w fun e w' => e = .returned (.string (bs (padK (sb s) c))) ∧ Below w.heap.size w w' := by
  subst hz
  obtain ⟨hzb, -⟩ := zero_of_info block_zero
  obtain ⟨Zb, hZb⟩ : ∃ Zb, Zb = (H.zeros 64).map bv := ⟨_, rfl⟩
  rw [← hZb] at hzb
  have lZb : Zb.length = 64 := by rw [hZb, List.length_map, H.zeros_len]
  obtain ⟨b, hb⟩ : ∃ b, b = sb s ++ H.zeros (64 - s.size) := ⟨_, rfl⟩
  have hbl : b.length = 64 := by rw [hb, List.length_append, sb_len, H.zeros_len]; omega
  have hfin : padK (sb s) c = b.map (· ^^^ c) := by unfold padK; rw [hb, sb_len]
  obtain ⟨W0, hW0⟩ : ∃ W0, W0 = w.alloc (.cells Zb.toArray 79) := ⟨_, rfl⟩
  have hb0 : Blk W0 w.heap.size Zb 79 := by rw [hW0]; exact Blk.new w _ _
  have hbel0 : Below w.heap.size w W0 := by rw [hW0]; exact (Below.refl _ _).alloc (Nat.le_refl _) _
  obtain ⟨W1, hW1⟩ : ∃ W1, W1 = W0.setCells w.heap.size 0 ((sb s).map bv) := ⟨_, rfl⟩
  have hrun : (Builtin.copy_ #[51, 9] 3 #[.slice (some ⟨w.heap.size, 0, none⟩) 64 64, .string s]).run Tryd.prog W0 = .ok (goInt s.size) W1 := by
    have := run_copy_min (P := Tryd.prog) W0 51 9 3 5 w.heap.size 0 64 64 s Tryd.underlying51 size_u8 s.size (by omega) (hb0.there 0 _ (by omega))
    rw [List.take_of_length_le (by rw [sb_len]; omega)] at this
    rw [hW1]
    exact this
  have hb1 : Blk W1 w.heap.size (b.map bv) 79 := by
    rw [hW1]
    have := set_all ((sb s).map bv) Zb 0 W0 _ _ hb0 (by rw [List.length_map, sb_len]; omega)
    have e : Zb.take 0 ++ (sb s).map bv ++ Zb.drop (0 + ((sb s).map bv).length) = b.map bv := by
      rw [hb, hZb]
      simp only [List.take_zero, List.nil_append, List.map_append, List.length_map, sb_len, Nat.zero_add, H.zeros, List.map_replicate, List.drop_replicate]
    rwa [e] at this
  have hbel1 : Below w.heap.size w W1 := by rw [hW1]; exact below_setCells _ (Nat.le_refl _) _ _ _ hbel0
  have hsl := fun W => slice_b64 W w.heap.size
  have K1 := Lib.hid (And.intro hb1 hbel1)
  have HBl := Lib.hid hbl
  have HF := Lib.hid hfin
  have HW0 := Lib.hid hW0
  have HR := Lib.hid hrun
  clear hZb lZb hb hbl hfin hb0 hbel0 hW0 hrun hb1 hbel1 hW1
  go_enter Tryd.func63, Tryd.ntmps63
  go_wp2_with (rw [← HW0.out]; refine Lib.wpList_copy_run _ rfl (.tmp 7) (.tmp 8) 51 9 rfl _ _ rfl rfl HR.out ?_)
  go_loopw [10] (fun i wr => ∃ k : Nat, k ≤ 64 ∧ i = .int .i64 k ∧ Blk wr w.heap.size ((mixed b c k).map bv) 79 ∧ Below w.heap.size w wr) (fun i _ => 64 - (intOf i).toNat)
  case atStart => exact ⟨0, by omega, rfl, by simpa [mixed] using K1.out.1, K1.out.2⟩
  case round =>
    clear K1
    obtain ⟨k, hk, rfl, hB, hbel⟩ := hrel
    by_cases hlt : k < 64
    · obtain ⟨x, hx⟩ : ∃ x, x = b.getD k 0 := ⟨_, rfl⟩
      have g1 : wr.cell? ⟨w.heap.size, k, none⟩ = some (.int .u8 (x.toNat : Int)) := hB.cell k (bv x) (by rw [List.getElem?_map, mixed_at b c k (by rw [HBl.out]; exact hlt), hx]; rfl)
      have f1 : wr.frozen? ⟨w.heap.size, k, none⟩ = false := hB.frozen _
      have hB2 := hB.set k (bv (x ^^^ c))
      rw [← List.map_set, hx, mixed_set b c k (by rw [HBl.out]; exact hlt), ← hx] at hB2
      have hbel2 : Below w.heap.size w (wr.setCell ⟨w.heap.size, k, none⟩ (bv (x ^^^ c))) := hbel.setCell (Nat.le_refl _) _
      have hv : bv (x ^^^ c) = .int .u8 (bits .xor .u8 (x.toNat : Int) (c.toNat : Int)) := by rw [bxor8]; rfl
      rw [hv] at hB2 hbel2
      have K2 := Lib.hid (And.intro hB2 hbel2)
      have hlt' : (k : Int) < 64 := by omega
      clear hx hB hB2 hbel2 hv hsl
      go_wp2_with fail
      exact ⟨⟨k + 1, by omega, by go_num, K2.out.1, K2.out.2⟩, by simp [intOf]; omega⟩
    · have hk64 : k = 64 := by omega
      rw [hk64, mixed_full b c 64 HBl.out.symm, ← HF.out] at hB
      have hr : RdB wr (w.heap.size + 1) (some ⟨w.heap.size, 0, none⟩) (padK (sb s) c) := fun _ => ⟨w.heap.size, 0, rfl, by omega, fun j u hu => by rw [Nat.zero_add]; exact hB.cell j u hu⟩
      have hcv := conv_bytes wr _ _ _ 64 hr
      rw [padK_len _ _ (by rw [sb_len]; exact hs)] at hcv
      have hge : (64 : Int) ≤ k := by omega
      obtain ⟨R, hR⟩ : ∃ R, R = bs (padK (sb s) c) := ⟨_, rfl⟩
      rw [← hR] at hcv
      have HR2 := Lib.hid hR
      clear hk64 hr hB hR
      go_wp2_with fail
      go_ret
      exact ⟨by rw [HR2.out]; rfl, hbel⟩
end Go.Proofs.YtkelfcgomeojeaaDoor
end

