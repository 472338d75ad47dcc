/- A region that draws its order: its head yields one value an operation in every world of a class (callees may make memory), its tail comes in one forced order. The head is walked once, in the text's order. -/
import Derived.Test.YtkenfgifhebnpaaDoorProg
import Derived.StillTail
import Derived.Deep.Quiet
import Derived.Deep.QuietTactic
import Derived.BigQuiet
import Derived.Below
namespace Go.Proofs.YtkenfgifhebnpaaDoor
open Go.RowKit

section
variable {P : Program} {ops : Array Oper} {C : World → Prop} {n g : Nat} {D : Array Bool → Act → Prop}

/-- Whatever is picked: an operation of the head, quiet in the class; after so many the state is as D says. -/
def Heads (P : Program) (ops : Array Oper) (C : World → Prop) (n : Nat) (D : Array Bool → Act → Prop) : Nat → Array Bool → Act → Prop
  | 0, done, a => D done a
  | k + 1, done, a => Region.ready .any ops done ≠ [] ∧ ∀ i, i ∈ Region.ready .any ops done → i < n ∧ qOp P ops C i (Heads P ops C n D k (done.setIfInBounds i true)) a

theorem Heads.any {Q : Exit → Act → World → Prop} (hD : ∀ done a w, C w → D done a → wpAny P .any ops Q g done a w) :
    ∀ k done a w, C w → Heads P ops C n D k done a → wpAny P .any ops Q (k + g) done a w := by
  intro k
  induction k with
  | zero =>
    intro done a w hw h
    rw [Nat.zero_add]
    exact hD done a w hw h
  | succ k ih =>
    intro done a w hw h
    rw [Nat.add_right_comm]
    exact ⟨fun e => absurd e h.1, fun i hi => wpOp_of_qOp hw (fun a' w' hw' hh => ih _ a' w' hw' hh) (h.2 i hi).2⟩

/-- One operation of the head that may come now may come first. -/
theorem Heads.first (hns : Region.noSelect ops = true) (hs : Region.sinkB .any ops n = true) (hc : Region.chainB .any ops n = true) (hn : n < ops.size)
    (hD : ∀ done a, D done a → ∀ j, j ∈ Region.ready .any ops done → n ≤ j) {i : Nat} {o : Oper} {v : Value} (ho : ops[i]? = some o) (hi : i < n) :
    ∀ k done a, HeadInv .any ops n done →
      (∀ j p, ops[j]? = some p → j ≠ i → done.getD j true = false → (∀ e ∈ p.after, Region.binds .any e = true → e.on ≠ i) → o.apart ops p = true) →
      i ∈ Region.ready .any ops done → YieldsIn P ops C o v a → Heads P ops C n D k (done.setIfInBounds i true) (a.put o.dst v) → Heads P ops C n D (k + 1) done a := by
  have sel := Region.noSelect_spec hns
  intro k
  induction k with
  | zero =>
    intro done a inv _ hr hy hh
    have open' := (mem_ready.1 hr).1
    refine ⟨List.ne_nil_of_mem hr, fun j hj => ?_⟩
    have lt : j < n := Nat.lt_of_not_le fun h => tail_waits hs hc hn inv _ i rfl hi open' j h hj
    by_cases e : j = i
    · subst e
      exact ⟨lt, hy.qOp ho hh⟩
    · have := hD _ _ hh j (ready_mono hj e)
      omega
  | succ k ih =>
    intro done a inv hap hr hy hh
    have open' := (mem_ready.1 hr).1
    refine ⟨List.ne_nil_of_mem hr, fun j hj => ?_⟩
    have lt : j < n := Nat.lt_of_not_le fun h => tail_waits hs hc hn inv _ i rfl hi open' j h hj
    by_cases e : j = i
    · subst e
      exact ⟨lt, hy.qOp ho hh⟩
    · obtain ⟨openj, p, hp, waits⟩ := mem_ready.1 hj
      have free : ∀ d ∈ p.after, Region.binds .any d = true → d.on ≠ i := fun d hd hb he => by
        have := waits d hd hb
        rw [he, getD_both open'] at this
        cases this
      refine ⟨lt, qOp_mono (fun a' ha' => ih _ a' (inv.set hj lt) ?_ (ready_mono hr (Ne.symm e)) ha'.1 ?_) (qOp_put hp (hap j p hp e openj free) (sel i o · · ho) (sel j p · · hp) hy (hh.2 j (ready_mono hj e)).2)⟩
      · intro q r hq hqi hopen
        refine hap q r hq hqi ?_
        by_cases eq : j = q
        · rw [← eq]; exact openj
        · rwa [getD_set_ne true eq] at hopen
      · rw [Array.setIfInBounds_comm _ _ e]
        exact ha'.2

/-- The head in the text's order. -/
theorem Heads.text {R : Act → Prop} (hns : Region.noSelect ops = true) (hs : Region.sinkB .any ops n = true) (hc : Region.chainB .any ops n = true) (hn : n < ops.size) :
    ∀ (l : List Oper) (k : Nat) (done : Array Bool) (a : Act), (∀ j, j < l.length → l[j]? = ops[k + j]?) → k + l.length = n → HeadInv .any ops n done →
      Region.lexHead .any ops g l.length k done = true → wpQuiet P ops C R l a → Heads P ops C n (fun done' a' => Region.seqB .any ops g n done' = true ∧ R a') l.length done a := by
  intro l
  induction l with
  | nil =>
    intro k done a _ hk _ hB h
    simp only [List.length_nil, Nat.add_zero] at hk
    subst hk
    exact ⟨hB, h⟩
  | cons o l ih =>
    intro k done a hl hk inv hB h
    have ho : ops[k]? = some o := by simpa using (hl 0 (by simp)).symm
    simp only [List.length_cons, Region.lexHead, Bool.and_eq_true] at hB hk
    have hr : k ∈ Region.ready .any ops done := by simpa using hB.1.1
    obtain ⟨v, hy, hh⟩ := yieldsIn_of_qOp ho (show qOp P ops C k (wpQuiet P ops C R l) a by unfold qOp; simp only [ho]; exact h)
    refine Heads.first hns hs hc hn (fun _ _ hd => seqB_ready hd.1) ho (by omega) l.length done a inv (Region.free_spec ho hB.1.2) hr hy ?_
    exact ih (k + 1) _ _ (fun j hj => by have := hl (j + 1) (by simp; omega); simpa [Nat.add_assoc, Nat.add_comm 1 j] using this) (by omega) (inv.set hr (by omega)) hB.2 hh

/-- THE REGION: n operations quiet in the class, then the rest, in the text's order, from whatever world of the class. -/
theorem wp_region_head {id : Nat} {Q : Exit → Act → World → Prop} {a : Act} {w : World} {l : List Oper} (n : Nat) (C : World → Prop) (hm : P.follows .mixedOrders = true) (hB : Region.lexTailB .any l.toArray n = true) (hC : C w.drew)
    (h : wpQuiet P l.toArray C (fun a' => ∀ w', C w' → wpList P l.toArray Q (l.drop n) a' w') (l.take n) a) : (Code.region id l.toArray true).wp P Q a w := by
  simp only [Region.lexTailB, Bool.and_eq_true, decide_eq_true_eq] at hB
  obtain ⟨⟨⟨⟨hns, hlt⟩, hs⟩, hc⟩, hx⟩ := hB
  have hlt' : n < l.length := by simpa using hlt
  have e1 : (l.take n).length = n := by rw [List.length_take]; omega
  have e2 : (l.drop n).length = l.toArray.size - n := by rw [List.length_drop, List.size_toArray]
  have start : HeadInv .any l.toArray n (Array.replicate l.toArray.size false) :=
    ⟨Array.size_replicate, fun j _ _ ht => absurd ht (by rw [getD_replicate_false]; exact Bool.noConfusion), fun t _ ht => getD_in (by rw [Array.size_replicate]; exact ht) (getD_replicate_false _ _)⟩
  have heads := Heads.text (g := l.toArray.size - n) hns hs hc hlt (l.take n) 0 _ a (fun j hj => by
    rw [e1] at hj
    rw [List.getElem?_take, if_pos hj, Nat.zero_add, List.getElem?_toArray]) (by rw [Nat.zero_add, e1]) start (by rw [e1]; exact hx) h
  have all := Heads.any (Q := Q) (g := l.toArray.size - n) (fun done a' w' hw' hd => by
    have := wpAny_of_seq (md := .any) (Q' := Q) (l.drop n) n done a' w' (fun j => by rw [List.getElem?_drop, List.getElem?_toArray]) (by rw [e2]; exact hd.1) (hd.2 w' hw')
    rwa [e2] at this) _ _ _ _ hC heads
  rw [e1, show n + (l.toArray.size - n) = l.toArray.size by omega] at all
  exact wp_region_any hm all
end

/-- The worlds that are as w below block B, and hold S. -/
def BelS (B : Nat) (w : World) : Type := { w' : World // Below B w w' }
def BelS.at {B : Nat} {w : World} (x : BelS B w) : World := x.val
theorem BelS.out {B : Nat} {w : World} (x : BelS B w) : Below B w x.at := x.property
theorem BelS.of {B : Nat} {w w' : World} (h : Below B w w') : ∃ x : BelS B w, w' = x.at := ⟨⟨w', h⟩, rfl⟩
instance {B : Nat} {w : World} : Nonempty (BelS B w) := ⟨⟨w, Below.refl _ _⟩⟩
/-- A callee that only makes memory stays in the class. -/
theorem BelS.call {P : Program} {f : FuncId} {args : Array Value} {v : Value} {W : World} (x : BelS W.heap.size W) (h : Calls P f args x.at fun e w' => e = .returned v ∧ Below x.at.heap.size x.at w') :
    Calls P f args x.at fun e w' => e = .returned v ∧ ∃ y : BelS W.heap.size W, w' = y.at :=
  h.mono fun _ _ ⟨h1, h2⟩ => ⟨h1, BelS.of (x.out.trans (h2.mono x.out.size))⟩
/-- .. at the class of the worlds that are as w below block B. -/
theorem wp_region_headB {P : Program} {id : Nat} {Q : Exit → Act → World → Prop} {a : Act} {w : World} {l : List Oper} (n B : Nat) (hm : P.follows .mixedOrders = true) (hB : Region.lexTailB .any l.toArray n = true)
    (h : wpQuiet P l.toArray (fun w' => ∃ x : BelS B w, w' = x.at) (fun a' => ∀ w', (∃ x : BelS B w, w' = x.at) → wpList P l.toArray Q (l.drop n) a' w') (l.take n) a) : (Code.region id l.toArray true).wp P Q a w :=
  wp_region_head n _ hm hB (BelS.of (Below.refl _ _).drew) h
/-- In such a walk: a conversion, a load, by their runs in every world of the class. -/
theorem wpQuiet_convert {P : Program} {ops : Array Oper} {S : World → Prop} {Q : Act → Prop} {rest : List Oper} {a : Act} {o : Oper} (hg : o.guard = none) (t u : TypeId) (x : Operand) (ho : o.op = .convert t u x)
    (p : Value) (hx : a.eval x = p) (v : Value) (hrun : ∀ w, S w → (convert t u p).run P w = .ok v w) (h : wpQuiet P ops S Q rest (a.put o.dst v)) : wpQuiet P ops S Q (o :: rest) a := by
  unfold wpQuiet
  rw [if_pos (show Region.wanted o (yielded ops a.tmps) = true by simp [Region.wanted, hg])]
  refine ⟨v, fun w hS => ?_, h⟩
  unfold Oper.quietAt execOp
  simp only [ho, hx, Sem.run_bind, Sem.run_pure, hrun w hS, Result.andThen_ok, Oper.quietUpon, and_self]
theorem wpQuiet_loadAt {P : Program} {ops : Array Oper} {S : World → Prop} {Q : Act → Prop} {rest : List Oper} {a : Act} {o : Oper} (hg : o.guard = none) (ty : TypeId) (x : Operand) (ho : o.op = .load ty x)
    (p : Value) (hx : a.eval x = p) (v : Value) (hrun : ∀ w, S w → (Instr.loadAt ty p).run P w = .ok v w) (h : wpQuiet P ops S Q rest (a.put o.dst v)) : wpQuiet P ops S Q (o :: rest) a := by
  unfold wpQuiet
  rw [if_pos (show Region.wanted o (yielded ops a.tmps) = true by simp [Region.wanted, hg])]
  refine ⟨v, fun w hS => ?_, h⟩
  unfold Oper.quietAt execOp
  simp only [ho, hx, Sem.run_bind, Sem.run_pure, hrun w hS, Result.andThen_ok, Oper.quietUpon, and_self]
end Go.Proofs.YtkenfgifhebnpaaDoor
