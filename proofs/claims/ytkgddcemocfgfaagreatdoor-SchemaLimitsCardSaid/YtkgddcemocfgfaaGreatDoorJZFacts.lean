import Derived.Test.YtkgddcemocfgfaaGreatDoorProg
import Derived.StillTail
import Derived.Deep.Quiet
import Derived.Deep.QuietTactic
import Derived.BigQuiet
import Derived.Below

section
/- A region that draws its order: its head yields one value an operation in every world of a class (callees may make memory), its tail comes in one forced order. The head is walked once, in the text's order. -/






namespace Go.Proofs.YtkgddcemocfgfaaGreatDoor
open Go.RowKit

section
variable {P : Program} {ops : Array Oper} {C : World → Prop} {n g : Nat} {D : Array Bool → Act → Prop}

/-- Whatever is picked: an operation of the head, quiet in the class; after so many the state is as D says. -/
def Heads (P : Program) (ops : Array Oper) (C : World → Prop) (n : Nat) (D : Array Bool → Act → Prop) : Nat → Array Bool → Act → Prop
 | 0, done, a => D done a
 | k + 1, done, a => Region.ready .any ops done ≠ [] ∧ ∀ i, i ∈ Region.ready .any ops done → i < n ∧ qOp P ops C i (Heads P ops C n D k (done.setIfInBounds i true)) a

theorem Heads.any {Q : Exit → Act → World → Prop} (hD : ∀ done a w, C w → D done a → wpAny P .any ops Q g done a w) :
  ∀ k done a w, C w → Heads P ops C n D k done a → wpAny P .any ops Q (k + g) done a w := by
 intro k
 induction k with
 | zero =>
  intro done a w hw h
  rw [Nat.zero_add]
  exact hD done a w hw h
 | succ k ih =>
  intro done a w hw h
  rw [Nat.add_right_comm]
  exact ⟨fun e => absurd e h.1, fun i hi => wpOp_of_qOp hw (fun a' w' hw' hh => ih _ a' w' hw' hh) (h.2 i hi).2⟩

/-- One operation of the head that may come now may come first. -/
theorem Heads.first (hns : Region.noSelect ops = true) (hs : Region.sinkB .any ops n = true) (hc : Region.chainB .any ops n = true) (hn : n < ops.size)
  (hD : ∀ done a, D done a → ∀ j, j ∈ Region.ready .any ops done → n ≤ j) {i : Nat} {o : Oper} {v : Value} (ho : ops[i]? = some o) (hi : i < n) :
  ∀ k done a, HeadInv .any ops n done →
   (∀ j p, ops[j]? = some p → j ≠ i → done.getD j true = false → (∀ e ∈ p.after, Region.binds .any e = true → e.on ≠ i) → o.apart ops p = true) →
   i ∈ Region.ready .any ops done → YieldsIn P ops C o v a → Heads P ops C n D k (done.setIfInBounds i true) (a.put o.dst v) → Heads P ops C n D (k + 1) done a := by
 have sel := Region.noSelect_spec hns
 intro k
 induction k with
 | zero =>
  intro done a inv _ hr hy hh
  have open' := (mem_ready.1 hr).1
  refine ⟨List.ne_nil_of_mem hr, fun j hj => ?_⟩
  have lt : j < n := Nat.lt_of_not_le fun h => tail_waits hs hc hn inv _ i rfl hi open' j h hj
  by_cases e : j = i
  ·subst e
   exact ⟨lt, hy.qOp ho hh⟩
  ·have := hD _ _ hh j (ready_mono hj e)
   omega
 | succ k ih =>
  intro done a inv hap hr hy hh
  have open' := (mem_ready.1 hr).1
  refine ⟨List.ne_nil_of_mem hr, fun j hj => ?_⟩
  have lt : j < n := Nat.lt_of_not_le fun h => tail_waits hs hc hn inv _ i rfl hi open' j h hj
  by_cases e : j = i
  ·subst e
   exact ⟨lt, hy.qOp ho hh⟩
  ·obtain ⟨openj, p, hp, waits⟩ := mem_ready.1 hj
   have free : ∀ d ∈ p.after, Region.binds .any d = true → d.on ≠ i := fun d hd hb he => by
    have := waits d hd hb
    rw [he, getD_both open'] at this
    cases this
   refine ⟨lt, qOp_mono (fun a' ha' => ih _ a' (inv.set hj lt) ?_ (ready_mono hr (Ne.symm e)) ha'.1 ?_) (qOp_put hp (hap j p hp e openj free) (sel i o · · ho) (sel j p · · hp) hy (hh.2 j (ready_mono hj e)).2)⟩
   ·intro q r hq hqi hopen
    refine hap q r hq hqi ?_
    by_cases eq : j = q
    ·rw [← eq]; exact openj
    ·rwa [getD_set_ne true eq] at hopen
   ·rw [Array.setIfInBounds_comm _ _ e]
    exact ha'.2

/-- The head in the text's order. -/
theorem Heads.text {R : Act → Prop} (hns : Region.noSelect ops = true) (hs : Region.sinkB .any ops n = true) (hc : Region.chainB .any ops n = true) (hn : n < ops.size) :
  ∀ (l : List Oper) (k : Nat) (done : Array Bool) (a : Act), (∀ j, j < l.length → l[j]? = ops[k + j]?) → k + l.length = n → HeadInv .any ops n done →
   Region.lexHead .any ops g l.length k done = true → wpQuiet P ops C R l a → Heads P ops C n (fun done' a' => Region.seqB .any ops g n done' = true ∧ R a') l.length done a := by
 intro l
 induction l with
 | nil =>
  intro k done a _ hk _ hB h
  simp only [List.length_nil, Nat.add_zero] at hk
  subst hk
  exact ⟨hB, h⟩
 | cons o l ih =>
  intro k done a hl hk inv hB h
  have ho : ops[k]? = some o := by simpa using (hl 0 (by simp)).symm
  simp only [List.length_cons, Region.lexHead, Bool.and_eq_true] at hB hk
  have hr : k ∈ Region.ready .any ops done := by simpa using hB.1.1
  obtain ⟨v, hy, hh⟩ := yieldsIn_of_qOp ho (show qOp P ops C k (wpQuiet P ops C R l) a by unfold qOp; simp only [ho]; exact h)
  refine Heads.first hns hs hc hn (fun _ _ hd => seqB_ready hd.1) ho (by omega) l.length done a inv (Region.free_spec ho hB.1.2) hr hy ?_
  exact ih (k + 1) _ _ (fun j hj => by have := hl (j + 1) (by simp; omega); simpa [Nat.add_assoc, Nat.add_comm 1 j] using this) (by omega) (inv.set hr (by omega)) hB.2 hh

/-- THE REGION: n operations quiet in the class, then the rest, in the text's order, from whatever world of the class. -/
theorem wp_region_head {id : Nat} {Q : Exit → Act → World → Prop} {a : Act} {w : World} {l : List Oper} (n : Nat) (C : World → Prop) (hm : P.follows .mixedOrders = true) (hB : Region.lexTailB .any l.toArray n = true) (hC : C w.drew)
  (h : wpQuiet P l.toArray C (fun a' => ∀ w', C w' → wpList P l.toArray Q (l.drop n) a' w') (l.take n) a) : (Code.region id l.toArray true).wp P Q a w := by
 simp only [Region.lexTailB, Bool.and_eq_true, decide_eq_true_eq] at hB
 obtain ⟨⟨⟨⟨hns, hlt⟩, hs⟩, hc⟩, hx⟩ := hB
 have hlt' : n < l.length := by simpa using hlt
 have e1 : (l.take n).length = n := by rw [List.length_take]; omega
 have e2 : (l.drop n).length = l.toArray.size - n := by rw [List.length_drop, List.size_toArray]
 have start : HeadInv .any l.toArray n (Array.replicate l.toArray.size false) :=
  ⟨Array.size_replicate, fun j _ _ ht => absurd ht (by rw [getD_replicate_false]; exact Bool.noConfusion), fun t _ ht => getD_in (by rw [Array.size_replicate]; exact ht) (getD_replicate_false _ _)⟩
 have heads := Heads.text (g := l.toArray.size - n) hns hs hc hlt (l.take n) 0 _ a (fun j hj => by
  rw [e1] at hj
  rw [List.getElem?_take, if_pos hj, Nat.zero_add, List.getElem?_toArray]) (by rw [Nat.zero_add, e1]) start (by rw [e1]; exact hx) h
 have all := Heads.any (Q := Q) (g := l.toArray.size - n) (fun done a' w' hw' hd => by
  have := wpAny_of_seq (md := .any) (Q' := Q) (l.drop n) n done a' w' (fun j => by rw [List.getElem?_drop, List.getElem?_toArray]) (by rw [e2]; exact hd.1) (hd.2 w' hw')
  rwa [e2] at this) _ _ _ _ hC heads
 rw [e1, show n + (l.toArray.size - n) = l.toArray.size by omega] at all
 exact wp_region_any hm all
end

/-- The worlds that are as w below block B, and hold S. -/
def BelS (B : Nat) (w : World) : Type := { w' : World // Below B w w' }
def BelS.at {B : Nat} {w : World} (x : BelS B w) : World := x.val
theorem BelS.out {B : Nat} {w : World} (x : BelS B w) : Below B w x.at := x.property
theorem BelS.of {B : Nat} {w w' : World} (h : Below B w w') : ∃ x : BelS B w, w' = x.at := ⟨⟨w', h⟩, rfl⟩
instance {B : Nat} {w : World} : Nonempty (BelS B w) := ⟨⟨w, Below.refl _ _⟩⟩
/-- A callee that only makes memory stays in the class. -/
theorem BelS.call {P : Program} {f : FuncId} {args : Array Value} {v : Value} {W : World} (x : BelS W.heap.size W) (h : Calls P f args x.at fun e w' => e = .returned v ∧ Below x.at.heap.size x.at w') :
  Calls P f args x.at fun e w' => e = .returned v ∧ ∃ y : BelS W.heap.size W, w' = y.at :=
 h.mono fun _ _ ⟨h1, h2⟩ => ⟨h1, BelS.of (x.out.trans (h2.mono x.out.size))⟩
/-- .. at the class of the worlds that are as w below block B. -/
theorem wp_region_headB {P : Program} {id : Nat} {Q : Exit → Act → World → Prop} {a : Act} {w : World} {l : List Oper} (n B : Nat) (hm : P.follows .mixedOrders = true) (hB : Region.lexTailB .any l.toArray n = true)
  (h : wpQuiet P l.toArray (fun w' => ∃ x : BelS B w, w' = x.at) (fun a' => ∀ w', (∃ x : BelS B w, w' = x.at) → wpList P l.toArray Q (l.drop n) a' w') (l.take n) a) : (Code.region id l.toArray true).wp P Q a w :=
 wp_region_head n _ hm hB (BelS.of (Below.refl _ _).drew) h
end Go.Proofs.YtkgddcemocfgfaaGreatDoor
end

section
/- A region that draws its order, each operation of whose head leaves a value of which something is known that lasts while memory only grows: one fact an operation, walked in the text's order, serves every order. The tail comes in one forced order. -/

namespace Go.Proofs.YtkgddcemocfgfaaGreatDoor
open Go.RowKit

section
variable {P : Program} {ops : Array Oper} {n : Nat}

/-- What a run leaves. -/
def Runs (P : Program) (R : Value → World → Prop) : Result Next → Prop
 | .ok (.value v) w => R v w
 | .ok .skip w => R undef w
 | .ok (.enter f args) w => Calls P f args w fun e w' => ∃ v, e = .returned v ∧ R v w'
 | _ => False
theorem Runs.upon {R : Value → World → Prop} {o : Oper} {a : Act} {K : Act → World → Prop} {Q : Exit → Act → World → Prop} {r : Result Next} (h : Runs P R r)
  (hK : ∀ v w, R v w → K (a.put o.dst v) w) : o.upon P a K Q r := by
 cases r with
 | halt x w => exact h.elim
 | ok x w =>
  cases x <;> first
   | exact h.elim
   | exact hK _ _ h
   | exact Calls.mono h fun e w' ⟨v, he, hr⟩ => by subst he; exact hK _ _ hr

/-- The slot of operation i. -/
def slot (ops : Array Oper) (i : Nat) : Nat := ((ops[i]?).bind (·.dst)).getD 0
/-- The frame behind the first k operations. -/
def lay (ops : Array Oper) (vals : Nat → Value) (a : Act) : Nat → Act
 | 0 => a
 | k + 1 => (lay ops vals a k).put (some (slot ops k)) (vals k)
def undone : Nat → Array Bool → Nat
 | 0, _ => 0
 | m + 1, d => undone m d + if d.getD m false = true then 0 else 1

theorem put_get (a : Act) (d : Nat) (v : Value) (t : Nat) : (a.put (some d) v).tmps[t]? = if d = t ∧ t < a.tmps.size then some v else a.tmps[t]? := by
 show (a.tmps.setIfInBounds d v)[t]? = _
 rw [Array.getElem?_setIfInBounds]
 by_cases h : d = t
 ·subst h
  by_cases h2 : d < a.tmps.size
  ·rw [if_pos rfl, if_pos h2, if_pos ⟨rfl, h2⟩]
  ·rw [if_pos rfl, if_neg h2, if_neg (fun e => h2 e.2), Array.getElem?_eq_none (by omega)]
 ·rw [if_neg h, if_neg (fun e => h e.1)]
theorem put_size (a : Act) (d : Nat) (v : Value) : (a.put (some d) v).tmps.size = a.tmps.size := by
 show (a.tmps.setIfInBounds d v).size = _
 simp
theorem lay_size (vals : Nat → Value) (a : Act) (k : Nat) : (lay ops vals a k).tmps.size = a.tmps.size := by
 induction k with
 | zero => rfl
 | succ k ih => rw [lay, put_size, ih]
theorem lay_defers (vals : Nat → Value) (a : Act) (k : Nat) : (lay ops vals a k).defers = a.defers := by
 induction k with
 | zero => rfl
 | succ k ih => exact ih
theorem lay_out (vals : Nat → Value) (a : Act) (k t : Nat) (h : ∀ j, j < k → slot ops j ≠ t) : (lay ops vals a k).tmps[t]? = a.tmps[t]? := by
 induction k with
 | zero => rfl
 | succ k ih => rw [lay, put_get, if_neg (fun e => h k (by omega) e.1), ih (fun j hj => h j (by omega))]
theorem lay_in (vals : Nat → Value) (a : Act) (k j : Nat) (hj : j < k) (hs : slot ops j < a.tmps.size) (hd : ∀ i, i < k → ∀ i', i' < i → slot ops i' ≠ slot ops i) :
  (lay ops vals a k).tmps[slot ops j]? = some (vals j) := by
 induction k with
 | zero => omega
 | succ k ih =>
  rw [lay, put_get, lay_size]
  by_cases e : j = k
  ·subst e
   rw [if_pos ⟨rfl, hs⟩]
  ·rw [if_neg (fun h => hd k (by omega) j (by omega) h.1.symm)]
   exact ih (by omega) (fun i hi => hd i (by omega))

theorem undone_set {d : Array Bool} {i : Nat} (hi : i < d.size) (hu : d.getD i false = false) : ∀ m, undone m (d.setIfInBounds i true) + (if i < m then 1 else 0) = undone m d := by
 intro m
 induction m with
 | zero => simp [undone]
 | succ m ih =>
  simp only [undone]
  by_cases e : i = m
  ·subst e
   have h1 : (d.setIfInBounds i true).getD i false = true := by simp [hi]
   have h2 : ¬ d.getD i false = true := by rw [hu]; exact Bool.noConfusion
   rw [if_pos h1, if_neg h2, if_pos (show i < i + 1 by omega)]
   rw [if_neg (by omega)] at ih
   omega
  ·rw [getD_set_ne false e]
   by_cases h : i < m
   ·rw [if_pos h] at ih
    rw [if_pos (show i < m + 1 by omega)]
    omega
   ·rw [if_neg h] at ih
    rw [if_neg (show ¬ i < m + 1 by omega)]
    omega
theorem undone_zero {d : Array Bool} : ∀ m, undone m d = 0 → ∀ j, j < m → d.getD j false = true := by
 intro m
 induction m with
 | zero => intro _ j hj; omega
 | succ m ih =>
  intro h j hj
  unfold undone at h
  by_cases e : d.getD m false = true
  ·by_cases ej : j = m
   ·rw [ej]; exact e
   ·exact ih (by omega) j (by omega)
  ·rw [if_neg e] at h; omega
theorem undone_least {d : Array Bool} : ∀ m, 0 < undone m d → ∃ i, i < m ∧ d.getD i false = false ∧ ∀ j, j < i → d.getD j false = true := by
 intro m
 induction m with
 | zero => intro h; simp [undone] at h
 | succ m ih =>
  intro h
  by_cases e : 0 < undone m d
  ·obtain ⟨i, h1, h2⟩ := ih e
   exact ⟨i, by omega, h2⟩
  ·have z : undone m d = 0 := by omega
   refine ⟨m, by omega, ?_, undone_zero m z⟩
   unfold undone at h
   rw [z] at h
   cases hb : d.getD m false with
   | false => rfl
   | true => rw [hb] at h; simp at h
theorem undone_start (s : Nat) : ∀ m, undone m (Array.replicate s false) = m := by
 intro m
 induction m with
 | zero => rfl
 | succ m ih => unfold undone; rw [ih, getD_replicate_false]; rfl

/-- One operation of the head: unguarded, its slot its own and in the frame, it waits for earlier ones alone, and what it reads was laid by one that it waits for, or by none of the head. -/
def headOpB (ops : Array Oper) (n size i : Nat) : Bool :=
 match ops[i]? with
 | none => false
 | some o => o.guard.isNone && o.dst.isSome && decide (slot ops i < size) && (List.range i).all (fun j => slot ops j != slot ops i) && o.after.all (fun e => !Region.binds .any e || decide (e.on < i)) &&
   o.op.operands.all fun x => match x with
    | .tmp t => (List.range n).all (fun j => slot ops j != t) || (List.range i).any fun j => slot ops j == t && Region.waitsFor .any ops i j
    | _ => true
def doneB (ops : Array Oper) (n : Nat) : Array Bool := Array.ofFn (n := ops.size) fun i => decide (i.val < n)
def factsB (ops : Array Oper) (n size : Nat) : Bool :=
 Region.noSelect ops && decide (n < ops.size) && Region.sinkB .any ops n && Region.chainB .any ops n && (List.range n).all (headOpB ops n size) && Region.seqB .any ops (ops.size - n) n (doneB ops n)

theorem headOpB_spec {size i : Nat} (h : headOpB ops n size i = true) : ∃ o, ops[i]? = some o ∧ o.guard = none ∧ o.dst = some (slot ops i) ∧ slot ops i < size ∧ (∀ j, j < i → slot ops j ≠ slot ops i) ∧
  (∀ e ∈ o.after, Region.binds .any e = true → e.on < i) ∧ ∀ t, .tmp t ∈ o.op.operands → (∀ j, j < n → slot ops j ≠ t) ∨ ∃ j, j < i ∧ slot ops j = t ∧ Region.waitsFor .any ops i j = true := by
 unfold headOpB at h
 split at h
 ·cases h
 ·rename_i o ho
  simp only [Bool.and_eq_true, decide_eq_true_eq, List.all_eq_true, List.mem_range, bne_iff_ne, Array.all_eq_true_iff_forall_mem, Bool.or_eq_true, Bool.not_eq_true', Option.isNone_iff_eq_none] at h
  obtain ⟨⟨⟨⟨⟨hg, hd⟩, hs⟩, hj⟩, ha⟩, hx⟩ := h
  obtain ⟨d, hd⟩ := Option.isSome_iff_exists.1 hd
  refine ⟨o, ho, hg, ?_, hs, hj, fun e he hb => ?_, fun t ht => ?_⟩
  ·rw [hd]
   unfold slot
   rw [ho]
   simp [hd]
  ·rcases ha e he with h | h
   ·rw [hb] at h; cases h
   ·exact h
  ·have hxt := hx _ ht
   simp only [Bool.or_eq_true] at hxt
   rcases hxt with h | h
   ·left
    simp only [List.all_eq_true, List.mem_range, bne_iff_ne] at h
    exact h
   ·right
    obtain ⟨j, hj, h2⟩ := List.any_eq_true.1 h
    simp only [Bool.and_eq_true, beq_iff_eq] at h2
    exact ⟨j, List.mem_range.1 hj, h2.1, h2.2⟩

/-- While the head comes up. -/
structure At (ops : Array Oper) (n B : Nat) (W : World) (a0 : Act) (F : Nat → Value → World → Prop) (done : Array Bool) (a : Act) (w : World) : Prop where
 bel : Below B W w
 inv : HeadInv .any ops n done
 defers : a.defers = a0.defers
 size : a.tmps.size = a0.tmps.size
 fact : ∀ j, j < n → done.getD j false = true → F j (a.tmps.getD (slot ops j) undef) w
 out : ∀ t, (∀ j, j < n → done.getD j false = true → slot ops j ≠ t) → a.tmps[t]? = a0.tmps[t]?

theorem getD_q (xs : Array Value) (t : Nat) : xs.getD t undef = (xs[t]?).getD undef := Array.getD_eq_getD_getElem?
theorem getD_of {a b : Act} {t : Nat} (h : a.tmps[t]? = b.tmps[t]?) : a.tmps.getD t undef = b.tmps.getD t undef := by
 rw [getD_q, getD_q, h]

/-- THE REGION. -/
theorem wp_region_facts {id : Nat} {Q : Exit → Act → World → Prop} {a : Act} {w : World} {l : List Oper} (n : Nat) (F : Nat → Value → World → Prop) (hst : ∀ j v w w', F j v w → Below w.heap.size w w' → F j v w')
  (hm : P.follows .mixedOrders = true) (hB : factsB l.toArray n a.tmps.size = true)
  (hop : ∀ i, i < n → ∀ (vals : Nat → Value) (w' : World), Below w.heap.size w w' → (∀ j, Region.waitsFor .any l.toArray i j = true → F j (vals j) w') → ∀ o, l[i]? = some o →
   Runs P (fun v w'' => F i v w'' ∧ Below w'.heap.size w' w'') ((execOp (lay l.toArray vals a i).eval o).run P w'))
  (hend : ∀ (vals : Nat → Value) (w' : World), Below w.heap.size w w' → (∀ j, j < n → F j (vals j) w') → wpList P l.toArray Q (l.drop n) (lay l.toArray vals a n) w') : (Code.region id l.toArray true).wp P Q a w := by
 simp only [factsB, Bool.and_eq_true, decide_eq_true_eq, List.all_eq_true, List.mem_range] at hB
 obtain ⟨⟨⟨⟨⟨hns, hlt⟩, hs⟩, hc⟩, hh⟩, hseq⟩ := hB
 have spec := fun i hi => headOpB_spec (hh i hi)
 have dist : ∀ i, i < n → ∀ i', i' < i → slot l.toArray i' ≠ slot l.toArray i := fun i hi i' hi' => by
  obtain ⟨o, _, _, _, _, h, _⟩ := spec i hi
  exact h i' hi'
 have inb : ∀ i, i < n → slot l.toArray i < a.tmps.size := fun i hi => by
  obtain ⟨o, _, _, _, h, _⟩ := spec i hi
  exact h
 have key : ∀ k done a' w', At l.toArray n w.heap.size w a F done a' w' → undone n done = k → wpAny P .any l.toArray Q (k + (l.toArray.size - n)) done a' w' := by
  intro k
  induction k with
  | zero =>
   intro done a' w' hA hk
   have all := undone_zero n hk
   have hdone : done = doneB l.toArray n := by
    apply Array.ext
    ·rw [hA.inv.size]; simp [doneB]
    ·intro i h1 h2
     have h3 : i < l.toArray.size := by rw [← hA.inv.size]; exact h1
     have e2 : (doneB l.toArray n)[i] = decide (i < n) := by simp [doneB]
     rw [e2]
     by_cases hi : i < n
     ·have := all i hi
      simp [h1] at this
      rw [this]; simp [hi]
     ·have := hA.inv.tail i (by omega) h3
      simp [h1] at this
      rw [this]; simp [hi]
   have hframe : a' = lay l.toArray (fun j => a'.tmps.getD (slot l.toArray j) undef) a n := by
    have e1 : a'.tmps = (lay l.toArray (fun j => a'.tmps.getD (slot l.toArray j) undef) a n).tmps := by
     apply Array.ext_getElem?
     intro t
     by_cases ht : ∃ j, j < n ∧ slot l.toArray j = t
     ·obtain ⟨j, hj, rfl⟩ := ht
      rw [lay_in _ a n j hj (inb j hj) dist]
      have hb := inb j hj
      rw [← hA.size] at hb
      rw [Array.getElem?_eq_getElem hb]
      simp [Array.getD, hb]
     ·have ht' : ∀ j, j < n → slot l.toArray j ≠ t := fun j hj e => ht ⟨j, hj, e⟩
      rw [lay_out _ a n t ht', hA.out t (fun j hj _ => ht' j hj)]
    have e2 : a'.defers = (lay l.toArray (fun j => a'.tmps.getD (slot l.toArray j) undef) a n).defers := by rw [lay_defers, hA.defers]
    cases a'
    generalize lay l.toArray _ a n = b at *
    cases b
    simp only at e1 e2
    rw [e1, e2]
   rw [Nat.zero_add, hdone, hframe]
   have hd : (l.drop n).length = l.toArray.size - n := by rw [List.length_drop, List.size_toArray]
   rw [← hd]
   exact wpAny_of_seq (md := .any) (l.drop n) n _ _ w' (fun j => by rw [List.getElem?_drop, List.getElem?_toArray]) (by rw [hd]; exact hseq) (hend _ w' hA.bel (fun j hj => hA.fact j hj (all j hj)))
  | succ k ih =>
   intro done a' w' hA hk
   obtain ⟨i0, hi0, hu0, hl0⟩ := undone_least (d := done) n (by omega)
   have hsz : ∀ i, i < n → i < done.size := fun i hi => by rw [hA.inv.size]; omega
   have ready0 : i0 ∈ Region.ready .any l.toArray done := by
    obtain ⟨o, ho, _, _, _, _, haft, _⟩ := spec i0 hi0
    exact mem_ready.2 ⟨getD_in (hsz i0 hi0) hu0, o, ho, fun e he hb => hl0 _ (haft e he hb)⟩
   rw [show k + 1 + (l.toArray.size - n) = (k + (l.toArray.size - n)) + 1 by omega]
   refine ⟨fun e => absurd e (List.ne_nil_of_mem ready0), fun i hi => ?_⟩
   have hin : i < n := Nat.lt_of_not_le fun h => tail_waits hs hc hlt hA.inv _ i0 rfl hi0 (getD_in (hsz i0 hi0) hu0) i h hi
   obtain ⟨hopen, o, ho, hwait⟩ := mem_ready.1 hi
   obtain ⟨o', ho', hg, hdst, hslot, hdj, haft, hread⟩ := spec i hin
   obtain rfl : o = o' := Option.some.inj (ho.symm.trans ho')
   have dep : ∀ j, Region.waitsFor .any l.toArray i j = true → j < i ∧ done.getD j false = true := fun j hj => by
    obtain ⟨o2, ho2, e, he, hb, hon⟩ := Region.waitsFor_spec hj
    obtain rfl : o = o2 := Option.some.inj (ho.symm.trans ho2)
    rw [← hon]
    exact ⟨haft e he hb, hwait e he hb⟩
   have vals : ∃ vals : Nat → Value, vals = fun j => a'.tmps.getD (slot l.toArray j) undef := ⟨_, rfl⟩
   obtain ⟨vals, hvals⟩ := vals
   have hrun := hop i hin vals w' hA.bel (fun j hj => by
    rw [hvals]
    exact hA.fact j (by have := (dep j hj).1; omega) (dep j hj).2) o (by rw [← List.getElem?_toArray]; exact ho)
   have hexec : execOp a'.eval o = execOp (lay l.toArray vals a i).eval o := by
    refine execOp_congr o (fun cs b => Region.noSelect_spec hns i o cs b ho) fun x hx => ?_
    cases x with
    | tmp t =>
     show a'.tmps.getD t undef = (lay l.toArray vals a i).tmps.getD t undef
     rcases hread t hx with h | ⟨j, hj, rfl, hwj⟩
     ·exact getD_of ((hA.out t (fun j hj _ => h j hj)).trans (lay_out vals a i t (fun j hj => h j (by omega))).symm)
     ·have h1 := lay_in vals a i j hj (inb j (by omega)) (fun p hp => dist p (by omega))
      rw [getD_q (lay l.toArray vals a i).tmps, h1, hvals]
      rfl
    | const v => rfl
    | global g => rfl
    | func f => rfl
   unfold wpOp
   simp only [ho]
   rw [if_pos (show Region.wanted o (yielded l.toArray a'.tmps) = true by simp [Region.wanted, hg])]
   left
   unfold Oper.wp
   rw [hexec]
   refine hrun.upon fun v w'' ⟨hF, hb⟩ => ih _ _ _ ?_ (by have := undone_set (hsz i hin) (getD_both hopen) n; rw [if_pos hin] at this; omega)
   rw [hdst]
   refine ⟨hA.bel.trans (hb.mono hA.bel.size), hA.inv.set hi hin, hA.defers, by rw [put_size]; exact hA.size, fun j hj hd => ?_, fun t ht => ?_⟩
   ·by_cases e : j = i
    ·subst e
     have : ((a'.put (some (slot l.toArray j)) v).tmps).getD (slot l.toArray j) undef = v := by
      rw [getD_q, put_get, if_pos ⟨rfl, by rw [hA.size]; exact hslot⟩]
      rfl
     rw [this]
     exact hF
    ·have hne : slot l.toArray i ≠ slot l.toArray j := by
      rcases Nat.lt_or_ge j i with h | h
      ·exact fun h2 => hdj j h h2.symm
      ·exact dist j hj i (by omega)
     have : ((a'.put (some (slot l.toArray i)) v).tmps).getD (slot l.toArray j) undef = a'.tmps.getD (slot l.toArray j) undef := by
      rw [getD_q, getD_q, put_get, if_neg (fun h => hne h.1)]
     rw [this]
     rw [getD_set_ne false (Ne.symm e)] at hd
     exact hst j _ w' w'' (hA.fact j hj hd) hb
   ·rw [put_get, if_neg (fun h => ht i hin (by simp [hsz i hin]) h.1)]
    exact hA.out t fun j hj hd => ht j hj (getD_set_true hd)
 refine wp_region_any hm ?_
 have start := key n (Array.replicate l.toArray.size false) a { w with drawn := w.drawn + 1 } ⟨(Below.refl _ _).drew, ⟨Array.size_replicate, fun j _ _ ht => absurd ht (by rw [getD_replicate_false]; exact Bool.noConfusion), fun t _ ht => getD_in (by rw [Array.size_replicate]; exact ht) (getD_replicate_false _ _)⟩, rfl, rfl,
  (fun j _ hd => by rw [getD_replicate_false] at hd; cases hd), fun t _ => rfl⟩ (undone_start _ n)
 rw [show n + (l.toArray.size - n) = l.toArray.size by omega] at start
 exact start

/-- A fact on a value that lasts while memory only grows. -/
structure Fact where
 p : Value → World → Prop
 lasts : ∀ v w w', p v w → Below w.heap.size w w' → p v w'
def Fact.any : Fact := ⟨fun _ _ => True, fun _ _ _ h _ => h⟩
def Fact.is (u : Value) : Fact := ⟨fun v _ => v = u, fun _ _ _ h _ => h⟩
/-- A variable of its own, from block B on. -/
def Fact.var (B : Nat) (cs : Array Value) (t : TypeId) : Fact :=
 ⟨fun v w => ∃ b, v = .pointer (some ⟨b, 0, none⟩) ∧ B ≤ b ∧ w.heap[b]? = some (.cells cs t (0, 0)), fun _ _ _ ⟨b, h1, h2, h3⟩ hb => ⟨b, h1, h2, (hb.block b (Array.getElem?_eq_some_iff.1 h3).1).trans h3⟩⟩
def factAt (fs : List Fact) (j : Nat) : Fact := fs.getD j Fact.any

theorem runs_value {R : Value → World → Prop} {X : Sem Value} {S : Sem Next} {v : Value} {w w' : World} (hx : S = (do pure (Next.value (← X)))) (hr : X.run P w = .ok v w') (h : R v w') : Runs P R (S.run P w) := by
 subst hx
 simp only [Sem.run_bind, hr, Result.andThen_ok, Sem.run_pure]
 exact h
theorem run_call_func {o : Oper} {f : FuncId} {args : List Operand} {ats : Array TypeId} (ho : o.op = .call { callee := .value (.func f), args := args.toArray, argTypes := ats }) (hc : ∀ xs w, (callFunc f xs).run P w = .ok (.enter f xs) w) (b : Act) (w : World) :
  (execOp b.eval o).run P w = .ok (.enter f (args.map b.eval).toArray) w := by
 unfold execOp
 simp only [ho, resolve, Deferred.ofValue, Act.eval, invoke, Sem.run_bind, Sem.run_pure, Result.andThen_ok, List.map_toArray, Array.append_empty, Array.empty_append, hc]
theorem runs_call {R : Value → World → Prop} {o : Oper} {f : FuncId} {args : List Operand} {ats : Array TypeId} {b : Act} {w : World} (ho : o.op = .call { callee := .value (.func f), args := args.toArray, argTypes := ats }) (hc : ∀ xs w, (callFunc f xs).run P w = .ok (.enter f xs) w)
  (h : Calls P f (args.map b.eval).toArray w fun e w' => ∃ v, e = .returned v ∧ R v w') : Runs P R ((execOp b.eval o).run P w) := by
 rw [run_call_func ho hc]
 exact h
/-- The slots under their numbers. -/
def slotsB (ops : Array Oper) (ds : List Nat) : Bool := (List.range ds.length).all fun j => slot ops j == ds.getD j 0
def puts (vals : Nat → Value) : List Nat → Nat → Act → Act
 | [], _, a => a
 | d :: ds, k, a => puts vals ds (k + 1) (a.put (some d) (vals k))
theorem puts_snoc (vals : Nat → Value) (d : Nat) : ∀ (ds : List Nat) (k : Nat) (a : Act), puts vals (ds ++ [d]) k a = (puts vals ds k a).put (some d) (vals (k + ds.length)) := by
 intro ds
 induction ds with
 | nil => intro k a; rfl
 | cons e ds ih => intro k a; simp only [List.cons_append, puts, ih, List.length_cons]; congr 2; omega
theorem lay_puts (vals : Nat → Value) (a : Act) : ∀ ds : List Nat, slotsB ops ds = true → lay ops vals a ds.length = puts vals ds 0 a := by
 suffices h : ∀ (k : Nat) (ds : List Nat), ds.length = k → (∀ j, j < k → slot ops j = ds.getD j 0) → lay ops vals a k = puts vals ds 0 a by
  intro ds hs
  refine h ds.length ds rfl fun j hj => ?_
  have := List.all_eq_true.1 hs j (List.mem_range.2 hj)
  simpa using this
 intro k
 induction k with
 | zero =>
  intro ds hl _
  rw [List.eq_nil_of_length_eq_zero hl]
  rfl
 | succ k ih =>
  intro ds hl hs
  have hne : ds ≠ [] := fun e => by rw [e] at hl; cases hl
  have hdl : ds.dropLast.length = k := by rw [List.length_dropLast, hl]; rfl
  have e := List.dropLast_concat_getLast hne
  have h1 : ds.getD k 0 = ds.getLast hne := by
   conv => lhs; rw [← e]
   rw [List.getD_eq_getElem?_getD, List.getElem?_append_right (by omega), hdl, Nat.sub_self]
   rfl
  have h2 := ih ds.dropLast hdl fun j hj => by
   rw [hs j (by omega)]
   conv => lhs; rw [← e]
   rw [List.getD_eq_getElem?_getD, List.getElem?_append_left (by omega), ← List.getD_eq_getElem?_getD]
  conv => rhs; rw [← e, puts_snoc, hdl, Nat.zero_add]
  rw [lay, h2, hs k (by omega), h1]

/-- The same, its facts in a list; the frame that an operation meets is known at the slots that it may read. -/
theorem wp_region_list {id : Nat} {Q : Exit → Act → World → Prop} {a : Act} {w : World} {l : List Oper} (ds : List Nat) (fs : List Fact) (hm : P.follows .mixedOrders = true) (hB : (factsB l.toArray ds.length a.tmps.size && slotsB l.toArray ds) = true)
  (hop : ∀ i, i < ds.length → ∀ (b : Act) (w' : World), Below w.heap.size w w' → (∀ j, Region.waitsFor .any l.toArray i j = true → j < i → (factAt fs j).p (b.tmps.getD (ds.getD j 0) undef) w') →
   (∀ t, ds.all (· != t) = true → b.tmps.getD t undef = a.tmps.getD t undef) → ∀ o, l[i]? = some o → Runs P (fun v w'' => (factAt fs i).p v w'' ∧ Below w'.heap.size w' w'') ((execOp b.eval o).run P w'))
  (hend : ∀ (vals : Nat → Value) (w' : World), Below w.heap.size w w' → (∀ j, j < ds.length → (factAt fs j).p (vals j) w') → wpList P l.toArray Q (l.drop ds.length) (puts vals ds 0 a) w') : (Code.region id l.toArray true).wp P Q a w := by
 rw [Bool.and_eq_true] at hB
 obtain ⟨hB, hS⟩ := hB
 have hB' := hB
 simp only [factsB, Bool.and_eq_true, decide_eq_true_eq, List.all_eq_true, List.mem_range] at hB'
 obtain ⟨⟨⟨⟨⟨_, _⟩, _⟩, _⟩, hh⟩, _⟩ := hB'
 have spec := fun i hi => headOpB_spec (hh i hi)
 have hs : ∀ j, j < ds.length → slot l.toArray j = ds.getD j 0 := fun j hj => by
  have := List.all_eq_true.1 hS j (List.mem_range.2 hj)
  simpa using this
 refine wp_region_facts ds.length (fun j v w => (factAt fs j).p v w) (fun j v w w' h hb => (factAt fs j).lasts v w w' h hb) hm hB (fun i hi vals w' hb hd o ho => ?_) (fun vals w' hb hf => by rw [lay_puts vals a ds hS]; exact hend vals w' hb hf)
 refine hop i hi (lay l.toArray vals a i) w' hb (fun j hw hj => ?_) (fun t ht => ?_) o ho
 ·have h1 := lay_in vals a i j hj (by obtain ⟨_, _, _, _, h, _⟩ := spec j (by omega); exact h) (fun p hp p' hp' => by obtain ⟨_, _, _, _, _, h, _⟩ := spec p (by omega); exact h p' hp')
  rw [hs j (by omega)] at h1
  rw [getD_q, h1]
  exact hd j hw
 ·refine getD_of (lay_out vals a i t fun j hj => ?_)
  rw [hs j (by omega)]
  have hj2 : j < ds.length := by omega
  have := List.all_eq_true.1 ht (ds.getD j 0) (by rw [List.getD_eq_getElem?_getD, List.getElem?_eq_getElem hj2]; exact List.getElem_mem hj2)
  simpa using this
end
end Go.Proofs.YtkgddcemocfgfaaGreatDoor
end

