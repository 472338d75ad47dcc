import Derived.Test.YtkgddcemocfgfaaGreatDoorJZSmPh

section
/- Like FactsJ, where operations of the head may leave no value (a store that may come before another operation's load). -/

namespace Go.Proofs.YtkgddcemocfgfaaGreatDoor
open Go.RowKit

section
variable {P : Program} {ops : Array Oper} {n : Nat}

/-- The slotX of operation i. -/
def slotX (ops : Array Oper) (i : Nat) : Nat := ((ops[i]?).bind (·.dst)).getD (1000000 + i)
/-- What an operation leaves. -/
def leftX (o : Oper) (v : Value) : Value := if o.dst.isSome = true then v else undef
/-- The frame behind the first k operations. -/
def layX (ops : Array Oper) (vals : Nat → Value) (a : Act) : Nat → Act
 | 0 => a
 | k + 1 => (layX ops vals a k).put (some (slotX ops k)) (vals k)
theorem layX_size (vals : Nat → Value) (a : Act) (k : Nat) : (layX ops vals a k).tmps.size = a.tmps.size := by
 induction k with
 | zero => rfl
 | succ k ih => rw [layX, put_size, ih]
theorem layX_defers (vals : Nat → Value) (a : Act) (k : Nat) : (layX ops vals a k).defers = a.defers := by
 induction k with
 | zero => rfl
 | succ k ih => exact ih
theorem layX_out (vals : Nat → Value) (a : Act) (k t : Nat) (h : ∀ j, j < k → slotX ops j ≠ t) : (layX ops vals a k).tmps[t]? = a.tmps[t]? := by
 induction k with
 | zero => rfl
 | succ k ih => rw [layX, put_get, if_neg (fun e => h k (by omega) e.1), ih (fun j hj => h j (by omega))]
theorem layX_in (vals : Nat → Value) (a : Act) (k j : Nat) (hj : j < k) (hs : slotX ops j < a.tmps.size) (hd : ∀ i, i < k → ∀ i', i' < i → slotX ops i' ≠ slotX ops i) :
  (layX ops vals a k).tmps[slotX ops j]? = some (vals j) := by
 induction k with
 | zero => omega
 | succ k ih =>
  rw [layX, put_get, layX_size]
  by_cases e : j = k
  ·subst e
   rw [if_pos ⟨rfl, hs⟩]
  ·rw [if_neg (fun h => hd k (by omega) j (by omega) h.1.symm)]
   exact ih (by omega) (fun i hi => hd i (by omega))

/-- One operation of the head: unguarded, its slotX its own and in the frame, it waits for earlier ones alone, and what it reads was laid by one that it waits for, or by none of the head. -/
def headOpX (ops : Array Oper) (n size i : Nat) : Bool :=
 match ops[i]? with
 | none => false
 | some o => o.guard.isNone && (o.dst.isNone || decide (slotX ops i < size)) && (List.range i).all (fun j => slotX ops j != slotX ops i) && o.after.all (fun e => !Region.binds .any e || decide (e.on < i)) &&
   o.op.operands.all fun x => match x with
    | .tmp t => (List.range n).all (fun j => slotX ops j != t) || (List.range i).any fun j => slotX ops j == t && Region.waitsFor .any ops i j
    | _ => true
def factsX (ops : Array Oper) (n size : Nat) : Bool :=
 Region.noSelect ops && decide (n < ops.size) && Region.sinkB .any ops n && Region.chainB .any ops n && (List.range n).all (headOpX ops n size) && Region.seqB .any ops (ops.size - n) n (doneB ops n) && decide (size ≤ 1000000)

theorem headOpX_spec {size i : Nat} (h : headOpX ops n size i = true) : ∃ o, ops[i]? = some o ∧ o.guard = none ∧ (o.dst = some (slotX ops i) ∧ slotX ops i < size ∨ o.dst = none ∧ 1000000 ≤ slotX ops i) ∧ (∀ j, j < i → slotX ops j ≠ slotX ops i) ∧
  (∀ e ∈ o.after, Region.binds .any e = true → e.on < i) ∧ ∀ t, .tmp t ∈ o.op.operands → (∀ j, j < n → slotX ops j ≠ t) ∨ ∃ j, j < i ∧ slotX ops j = t ∧ Region.waitsFor .any ops i j = true := by
 unfold headOpX at h
 split at h
 ·cases h
 ·rename_i o ho
  simp only [Bool.and_eq_true, decide_eq_true_eq, List.all_eq_true, List.mem_range, bne_iff_ne, Array.all_eq_true_iff_forall_mem, Bool.or_eq_true, Bool.not_eq_true', Option.isNone_iff_eq_none] at h
  obtain ⟨⟨⟨⟨hg, hd⟩, hj⟩, ha⟩, hx⟩ := h
  refine ⟨o, ho, hg, ?_, hj, fun e he hb => ?_, fun t ht => ?_⟩
  ·cases hdst : o.dst with
   | none =>
    right
    refine ⟨rfl, ?_⟩
    unfold slotX
    rw [ho]
    simp [hdst]
   | some d =>
    left
    rcases hd with hd | hd
    ·rw [hdst] at hd; cases hd
    ·refine ⟨?_, hd⟩
     unfold slotX
     rw [ho]
     simp [hdst]
  ·rcases ha e he with h | h
   ·rw [hb] at h; cases h
   ·exact h
  ·have hxt := hx _ ht
   simp only [Bool.or_eq_true] at hxt
   rcases hxt with h | h
   ·left
    simp only [List.all_eq_true, List.mem_range, bne_iff_ne] at h
    exact h
   ·right
    obtain ⟨j, hj, h2⟩ := List.any_eq_true.1 h
    simp only [Bool.and_eq_true, beq_iff_eq] at h2
    exact ⟨j, List.mem_range.1 hj, h2.1, h2.2⟩

/-- The values that the head has left. -/
def seenX (ops : Array Oper) (n : Nat) (a : Act) (j : Nat) : Value := if j < n then a.tmps.getD (slotX ops j) undef else undef
/-- While the head comes up: what holds of the world follows what is done. -/
structure AtX (ops : Array Oper) (n : Nat) (J : (Nat → Bool) → (Nat → Value) → World → Prop) (a0 : Act) (F : Nat → Value → World → Prop) (done : Array Bool) (a : Act) (w : World) : Prop where
 bel : J (fun j => done.getD j false) (seenX ops n a) w
 inv : HeadInv .any ops n done
 defers : a.defers = a0.defers
 size : a.tmps.size = a0.tmps.size
 fact : ∀ j, j < n → done.getD j false = true → F j (a.tmps.getD (slotX ops j) undef) w
 out : ∀ t, (∀ j, j < n → done.getD j false = true → slotX ops j ≠ t) → a.tmps[t]? = a0.tmps[t]?

theorem layX_seen (a' a : Act) : ∀ k, k ≤ n → layX ops (seenX ops n a') a k = layX ops (fun j => a'.tmps.getD (slotX ops j) undef) a k := by
 intro k
 induction k with
 | zero => intro _; rfl
 | succ k ih =>
  intro hk
  unfold layX
  rw [ih (by omega)]
  congr 1
  unfold seenX
  rw [if_pos (by omega)]
theorem get_big {tmps : Array Value} {t : Nat} (h : tmps.size ≤ t) : tmps.getD t undef = undef := by
 rw [getD_q, Array.getElem?_eq_none h]
 rfl
theorem put_gets (a : Act) (d : Nat) (u : Value) (h : d < a.tmps.size ∨ u = undef) : (a.put (some d) u).tmps.getD d undef = u := by
 by_cases hd : d < a.tmps.size
 ·rw [getD_q, put_get, if_pos ⟨rfl, hd⟩]
  rfl
 ·rcases h with h | h
  ·exact absurd h hd
  ·rw [h]
   exact get_big (by rw [put_size]; omega)
theorem seenX_put (ops : Array Oper) (n i : Nat) (a : Act) (v : Value) (hi : i < n) (hs : slotX ops i < a.tmps.size ∨ v = undef) (hd : ∀ j, j < n → j ≠ i → slotX ops i ≠ slotX ops j) :
  seenX ops n (a.put (some (slotX ops i)) v) = fun j => if j = i then v else seenX ops n a j := by
 funext j
 unfold seenX
 by_cases e : j = i
 ·subst e
  rw [if_pos hi, if_pos rfl, put_gets a _ v hs]
 ·rw [if_neg e]
  by_cases hj : j < n
  ·rw [if_pos hj, if_pos hj, getD_q, getD_q, put_get, if_neg (fun h => hd j hj e h.1)]
  ·rw [if_neg hj, if_neg hj]
theorem put_left (a : Act) (o : Oper) (d : Nat) (v : Value) (h : o.dst = some d ∧ d < a.tmps.size ∨ o.dst = none ∧ a.tmps.size ≤ d) : a.put o.dst v = a.put (some d) (leftX o v) := by
 rcases h with ⟨h, _⟩ | ⟨h, h2⟩
 ·unfold leftX
  rw [h]
  rfl
 ·rw [h]
  show a = { a with tmps := a.tmps.setIfInBounds d (leftX o v) }
  rw [Array.setIfInBounds_eq_of_size_le h2]
theorem left_undef (a : Act) (o : Oper) (d : Nat) (v : Value) (h : o.dst = some d ∧ d < a.tmps.size ∨ o.dst = none ∧ a.tmps.size ≤ d) : d < a.tmps.size ∨ leftX o v = undef := by
 rcases h with ⟨_, h⟩ | ⟨h, _⟩
 ·exact .inl h
 ·right
  unfold leftX
  rw [h]
  rfl
theorem runs_unit {P : Program} {R : Value → World → Prop} {X : Sem Unit} {S : Sem Next} {w w' : World} (hx : S = (do X; pure Next.skip)) (hr : X.run P w = .ok () w') (h : R undef w') : Runs P R (S.run P w) := by
 subst hx
 simp only [Sem.run_bind, hr, Result.andThen_ok, Sem.run_pure]
 exact h
/-- THE REGION. -/
theorem wp_region_stateX {id : Nat} {Q : Exit → Act → World → Prop} {a : Act} {w : World} {l : List Oper} (n : Nat) (J : (Nat → Bool) → (Nat → Value) → World → Prop) (Rel : World → World → Prop) (F : Nat → Value → World → Prop) (hst : ∀ j v w w', F j v w → Rel w w' → F j v w') (hJ : ∀ vals, J (fun _ => false) vals { w with drawn := w.drawn + 1 })
  (hm : P.follows .mixedOrders = true) (hB : factsX l.toArray n a.tmps.size = true)
  (hop : ∀ i, i < n → ∀ (d : Nat → Bool) (vals : Nat → Value) (w' : World), J d vals w' → d i = false → (∀ j, Region.waitsFor .any l.toArray i j = true → d j = true ∧ F j (vals j) w') → (∀ j, j < n → d j = true → F j (vals j) w') → ∀ o, l[i]? = some o →
   Runs P (fun v w'' => F i (leftX o v) w'' ∧ Rel w' w'' ∧ J (fun j => if j = i then true else d j) (fun j => if j = i then leftX o v else vals j) w'') ((execOp (layX l.toArray vals a i).eval o).run P w'))
  (hend : ∀ (d : Nat → Bool) (vals : Nat → Value) (w' : World), J d vals w' → (∀ j, j < n → d j = true) → (∀ j, j < n → F j (vals j) w') → wpList P l.toArray Q (l.drop n) (layX l.toArray vals a n) w') : (Code.region id l.toArray true).wp P Q a w := by
 simp only [factsX, Bool.and_eq_true, decide_eq_true_eq, List.all_eq_true, List.mem_range] at hB
 obtain ⟨⟨⟨⟨⟨⟨hns, hlt⟩, hs⟩, hc⟩, hh⟩, hseq⟩, hbig⟩ := hB
 have spec := fun i hi => headOpX_spec (hh i hi)
 have dist : ∀ i, i < n → ∀ i', i' < i → slotX l.toArray i' ≠ slotX l.toArray i := fun i hi i' hi' => by
  obtain ⟨o, _, _, _, h, _⟩ := spec i hi
  exact h i' hi'
 have inb : ∀ i, i < n → slotX l.toArray i < a.tmps.size ∨ a.tmps.size ≤ slotX l.toArray i := fun i _ => Nat.lt_or_ge _ _
 have key : ∀ k done a' w', AtX l.toArray n J a F done a' w' → undone n done = k → wpAny P .any l.toArray Q (k + (l.toArray.size - n)) done a' w' := by
  intro k
  induction k with
  | zero =>
   intro done a' w' hA hk
   have all := undone_zero n hk
   have hdone : done = doneB l.toArray n := by
    apply Array.ext
    ·rw [hA.inv.size]; simp [doneB]
    ·intro i h1 h2
     have h3 : i < l.toArray.size := by rw [← hA.inv.size]; exact h1
     have e2 : (doneB l.toArray n)[i] = decide (i < n) := by simp [doneB]
     rw [e2]
     by_cases hi : i < n
     ·have := all i hi
      simp [h1] at this
      rw [this]; simp [hi]
     ·have := hA.inv.tail i (by omega) h3
      simp [h1] at this
      rw [this]; simp [hi]
   have hframe : a' = layX l.toArray (fun j => a'.tmps.getD (slotX l.toArray j) undef) a n := by
    have e1 : a'.tmps = (layX l.toArray (fun j => a'.tmps.getD (slotX l.toArray j) undef) a n).tmps := by
     apply Array.ext_getElem?
     intro t
     by_cases ht : ∃ j, j < n ∧ slotX l.toArray j = t
     ·obtain ⟨j, hj, rfl⟩ := ht
      rcases inb j hj with hb | hb
      case inr =>
       rw [Array.getElem?_eq_none (by rw [hA.size]; exact hb), Array.getElem?_eq_none (by rw [layX_size]; exact hb)]
      rw [layX_in _ a n j hj hb dist]
      rw [← hA.size] at hb
      rw [Array.getElem?_eq_getElem hb]
      simp [Array.getD, hb]
     ·have ht' : ∀ j, j < n → slotX l.toArray j ≠ t := fun j hj e => ht ⟨j, hj, e⟩
      rw [layX_out _ a n t ht', hA.out t (fun j hj _ => ht' j hj)]
    have e2 : a'.defers = (layX l.toArray (fun j => a'.tmps.getD (slotX l.toArray j) undef) a n).defers := by rw [layX_defers, hA.defers]
    cases a'
    generalize layX l.toArray _ a n = b at *
    cases b
    simp only at e1 e2
    rw [e1, e2]
   rw [Nat.zero_add, hdone, hframe]
   have hd : (l.drop n).length = l.toArray.size - n := by rw [List.length_drop, List.size_toArray]
   rw [← hd]
   exact wpAny_of_seq (md := .any) (l.drop n) n _ _ w' (fun j => by rw [List.getElem?_drop, List.getElem?_toArray]) (by rw [hd]; exact hseq) (by
    have hs := hend _ (seenX l.toArray n a') w' hA.bel all (fun j hj => by unfold seenX; rw [if_pos hj]; exact hA.fact j hj (all j hj))
    rw [layX_seen a' a n (Nat.le_refl _)] at hs
    exact hs)
  | succ k ih =>
   intro done a' w' hA hk
   obtain ⟨i0, hi0, hu0, hl0⟩ := undone_least (d := done) n (by omega)
   have hsz : ∀ i, i < n → i < done.size := fun i hi => by rw [hA.inv.size]; omega
   have ready0 : i0 ∈ Region.ready .any l.toArray done := by
    obtain ⟨o, ho, _, _, _, haft, _⟩ := spec i0 hi0
    exact mem_ready.2 ⟨getD_in (hsz i0 hi0) hu0, o, ho, fun e he hb => hl0 _ (haft e he hb)⟩
   rw [show k + 1 + (l.toArray.size - n) = (k + (l.toArray.size - n)) + 1 by omega]
   refine ⟨fun e => absurd e (List.ne_nil_of_mem ready0), fun i hi => ?_⟩
   have hin : i < n := Nat.lt_of_not_le fun h => tail_waits hs hc hlt hA.inv _ i0 rfl hi0 (getD_in (hsz i0 hi0) hu0) i h hi
   obtain ⟨hopen, o, ho, hwait⟩ := mem_ready.1 hi
   obtain ⟨o', ho', hg, hdst0, hdj, haft, hread⟩ := spec i hin
   obtain rfl : o = o' := Option.some.inj (ho.symm.trans ho')
   have dep : ∀ j, Region.waitsFor .any l.toArray i j = true → j < i ∧ done.getD j false = true := fun j hj => by
    obtain ⟨o2, ho2, e, he, hb, hon⟩ := Region.waitsFor_spec hj
    obtain rfl : o = o2 := Option.some.inj (ho.symm.trans ho2)
    rw [← hon]
    exact ⟨haft e he hb, hwait e he hb⟩
   have vals : ∃ vals : Nat → Value, vals = seenX l.toArray n a' := ⟨_, rfl⟩
   obtain ⟨vals, hvals⟩ := vals
   have hrun := hop i hin _ vals w' (by rw [hvals]; exact hA.bel) (getD_both hopen) (fun j hj => by
    rw [hvals]
    unfold seenX
    rw [if_pos (by have := (dep j hj).1; omega)]
    exact ⟨(dep j hj).2, hA.fact j (by have := (dep j hj).1; omega) (dep j hj).2⟩) (fun j hj hd => by
    rw [hvals]
    unfold seenX
    rw [if_pos hj]
    exact hA.fact j hj hd) o (by rw [← List.getElem?_toArray]; exact ho)
   have hexec : execOp a'.eval o = execOp (layX l.toArray vals a i).eval o := by
    refine execOp_congr o (fun cs b => Region.noSelect_spec hns i o cs b ho) fun x hx => ?_
    cases x with
    | tmp t =>
     show a'.tmps.getD t undef = (layX l.toArray vals a i).tmps.getD t undef
     rcases hread t hx with h | ⟨j, hj, rfl, hwj⟩
     ·exact getD_of ((hA.out t (fun j hj _ => h j hj)).trans (layX_out vals a i t (fun j hj => h j (by omega))).symm)
     ·rcases inb j (by omega) with hb | hb
      case inr =>
       rw [get_big (by rw [hA.size]; exact hb), get_big (by rw [layX_size]; exact hb)]
      have h1 := layX_in vals a i j hj hb (fun p hp => dist p (by omega))
      rw [getD_q (layX l.toArray vals a i).tmps, h1, hvals]
      unfold seenX
      rw [if_pos (by omega)]
      rfl
    | const v => rfl
    | global g => rfl
    | func f => rfl
   unfold wpOp
   simp only [ho]
   rw [if_pos (show Region.wanted o (yielded l.toArray a'.tmps) = true by simp [Region.wanted, hg])]
   left
   unfold Oper.wp
   rw [hexec]
   refine hrun.upon fun v w'' ⟨hF, hb, hJ2⟩ => ih _ _ _ ?_ (by have := undone_set (hsz i hin) (getD_both hopen) n; rw [if_pos hin] at this; omega)
   have hdst : o.dst = some (slotX l.toArray i) ∧ slotX l.toArray i < a'.tmps.size ∨ o.dst = none ∧ a'.tmps.size ≤ slotX l.toArray i := by
    rw [hA.size]
    rcases hdst0 with h | ⟨h, h2⟩
    ·exact .inl h
    ·exact .inr ⟨h, by omega⟩
   rw [put_left a' o _ v hdst]
   refine ⟨by
    rw [done_set (hsz i hin), seenX_put l.toArray n i a' (leftX o v) hin (left_undef a' o _ v hdst) (fun j hj e => (Nat.lt_or_ge j i).elim (fun h h2 => hdj j h h2.symm) (fun h => dist j hj i (by omega))), ← hvals]
    exact hJ2, hA.inv.set hi hin, hA.defers, by rw [put_size]; exact hA.size, fun j hj hd => ?_, fun t ht => ?_⟩
   ·by_cases e : j = i
    ·subst e
     have : ((a'.put (some (slotX l.toArray j)) (leftX o v)).tmps).getD (slotX l.toArray j) undef = leftX o v := put_gets a' _ _ (left_undef a' o _ v hdst)
     rw [this]
     exact hF
    ·have hne : slotX l.toArray i ≠ slotX l.toArray j := by
      rcases Nat.lt_or_ge j i with h | h
      ·exact fun h2 => hdj j h h2.symm
      ·exact dist j hj i (by omega)
     have : ((a'.put (some (slotX l.toArray i)) (leftX o v)).tmps).getD (slotX l.toArray j) undef = a'.tmps.getD (slotX l.toArray j) undef := by
      rw [getD_q, getD_q, put_get, if_neg (fun h => hne h.1)]
     rw [this]
     rw [getD_set_ne false (Ne.symm e)] at hd
     exact hst j _ w' w'' (hA.fact j hj hd) hb
   ·rw [put_get, if_neg (fun h => ht i hin (by simp [hsz i hin]) h.1)]
    exact hA.out t fun j hj hd => ht j hj (getD_set_true hd)
 refine wp_region_any hm ?_
 have start := key n (Array.replicate l.toArray.size false) a { w with drawn := w.drawn + 1 } ⟨by
  rw [show (fun j => (Array.replicate l.toArray.size false).getD j false) = fun _ => false from by funext j; exact getD_replicate_false _ _]
  exact hJ _, ⟨Array.size_replicate, fun j _ _ ht => absurd ht (by rw [getD_replicate_false]; exact Bool.noConfusion), fun t _ ht => getD_in (by rw [Array.size_replicate]; exact ht) (getD_replicate_false _ _)⟩, rfl, rfl,
  (fun j _ hd => by rw [getD_replicate_false] at hd; cases hd), fun t _ => rfl⟩ (undone_start _ n)
 rw [show n + (l.toArray.size - n) = l.toArray.size by omega] at start
 exact start

/-- The slots under their numbers. -/
def slotsX (ops : Array Oper) (ds : List Nat) : Bool := (List.range ds.length).all fun j => slotX ops j == ds.getD j 0
theorem layX_puts (vals : Nat → Value) (a : Act) : ∀ ds : List Nat, slotsX ops ds = true → layX ops vals a ds.length = puts vals ds 0 a := by
 suffices h : ∀ (k : Nat) (ds : List Nat), ds.length = k → (∀ j, j < k → slotX ops j = ds.getD j 0) → layX ops vals a k = puts vals ds 0 a by
  intro ds hs
  refine h ds.length ds rfl fun j hj => ?_
  have := List.all_eq_true.1 hs j (List.mem_range.2 hj)
  simpa using this
 intro k
 induction k with
 | zero =>
  intro ds hl _
  rw [List.eq_nil_of_length_eq_zero hl]
  rfl
 | succ k ih =>
  intro ds hl hs
  have hne : ds ≠ [] := fun e => by rw [e] at hl; cases hl
  have hdl : ds.dropLast.length = k := by rw [List.length_dropLast, hl]; rfl
  have e := List.dropLast_concat_getLast hne
  have h1 : ds.getD k 0 = ds.getLast hne := by
   conv => lhs; rw [← e]
   rw [List.getD_eq_getElem?_getD, List.getElem?_append_right (by omega), hdl, Nat.sub_self]
   rfl
  have h2 := ih ds.dropLast hdl fun j hj => by
   rw [hs j (by omega)]
   conv => lhs; rw [← e]
   rw [List.getD_eq_getElem?_getD, List.getElem?_append_left (by omega), ← List.getD_eq_getElem?_getD]
  conv => rhs; rw [← e, puts_snoc, hdl, Nat.zero_add]
  rw [layX, h2, hs k (by omega), h1]

/-- The same, its facts in a list; the frame that an operation meets is known at the slots that it may read. -/
theorem wp_region_listX {id : Nat} {Q : Exit → Act → World → Prop} {a : Act} {w : World} {l : List Oper} (ds : List Nat) (J : (Nat → Bool) → (Nat → Value) → World → Prop) (Rel : World → World → Prop) (fs : List (Value → World → Prop)) (hst : ∀ f ∈ fs, ∀ v w w', f v w → Rel w w' → f v w') (hJ : ∀ vals, J (fun _ => false) vals { w with drawn := w.drawn + 1 }) (hm : P.follows .mixedOrders = true) (hB : (factsX l.toArray ds.length a.tmps.size && slotsX l.toArray ds) = true)
  (hop : ∀ i, i < ds.length → ∀ (d : Nat → Bool) (vals : Nat → Value) (b : Act) (w' : World), J d vals w' → d i = false → (∀ j, Region.waitsFor .any l.toArray i j = true → j < i → d j = true ∧ (ds.getD j 0 < 1000000 → factJ fs j (b.tmps.getD (ds.getD j 0) undef) w')) → (∀ j, j < ds.length → d j = true → factJ fs j (vals j) w') →
   (∀ t, ds.all (· != t) = true → b.tmps.getD t undef = a.tmps.getD t undef) → ∀ o, l[i]? = some o → Runs P (fun v w'' => factJ fs i (leftX o v) w'' ∧ Rel w' w'' ∧ J (fun j => if j = i then true else d j) (fun j => if j = i then leftX o v else vals j) w'') ((execOp b.eval o).run P w'))
  (hend : ∀ (d : Nat → Bool) (vals : Nat → Value) (w' : World), J d vals w' → (∀ j, j < ds.length → d j = true) → (∀ j, j < ds.length → factJ fs j (vals j) w') → wpList P l.toArray Q (l.drop ds.length) (puts vals ds 0 a) w') : (Code.region id l.toArray true).wp P Q a w := by
 rw [Bool.and_eq_true] at hB
 obtain ⟨hB, hS⟩ := hB
 have hB' := hB
 simp only [factsX, Bool.and_eq_true, decide_eq_true_eq, List.all_eq_true, List.mem_range] at hB'
 obtain ⟨⟨⟨⟨⟨⟨_, _⟩, _⟩, _⟩, hh⟩, _⟩, _⟩ := hB'
 have spec := fun i hi => headOpX_spec (hh i hi)
 have hs : ∀ j, j < ds.length → slotX l.toArray j = ds.getD j 0 := fun j hj => by
  have := List.all_eq_true.1 hS j (List.mem_range.2 hj)
  simpa using this
 refine wp_region_stateX ds.length J Rel (fun j v w => factJ fs j v w) (fun j v w w' h hb => factJ_lasts hst j v w w' h hb) hJ hm hB (fun i hi d vals w' hb hu hd hall o ho => ?_) (fun d vals w' hb hall hf => by rw [layX_puts vals a ds hS]; exact hend d vals w' hb hall hf)
 refine hop i hi d vals (layX l.toArray vals a i) w' hb hu (fun j hw hj => ?_) hall (fun t ht => ?_) o ho
 ·refine ⟨(hd j hw).1, fun hlt => ?_⟩
  have h1 := layX_in vals a i j hj (by obtain ⟨_, _, _, h, _⟩ := spec j (by omega); rcases h with h | h; exact h.2; have := hs j (by omega); omega) (fun p hp p' hp' => by obtain ⟨_, _, _, _, h, _⟩ := spec p (by omega); exact h p' hp')
  rw [hs j (by omega)] at h1
  rw [getD_q, h1]
  exact (hd j hw).2
 ·refine getD_of (layX_out vals a i t fun j hj => ?_)
  rw [hs j (by omega)]
  have hj2 : j < ds.length := by omega
  have := List.all_eq_true.1 ht (ds.getD j 0) (by rw [List.getD_eq_getElem?_getD, List.getElem?_eq_getElem hj2]; exact List.getElem_mem hj2)
  simpa using this
end
end Go.Proofs.YtkgddcemocfgfaaGreatDoor
end

