import Derived.Test.YtcejokbbiinbkaaDoorJFacts

section
/- Facts for a region that draws its order and holds guarded operations ('a && b'): the guard's value is decided by its own fact. -/

namespace Go.Proofs.YtcejokbbiinbkaaDoor
open Go.RowKit
set_option linter.unusedVariables false

section
variable {P : Program} {ops : Array Oper} {n : Nat}

/-- What is asked of a guarded operation: its guard is a Boolean; where it is the one that is wanted R, else S. -/
def Guarded (o : Oper) (v : Nat → Value) (R S : Prop) : Prop :=
  match o.guard with
  | none => R
  | some (g, b) => ∃ c, v g = .bool c ∧ (c = b → R) ∧ (c ≠ b → S)

/-- One operation of the head, guarded by none or by one that it waits for: its slot its own and in the frame, it waits for earlier ones alone, and what it reads was laid by one that it waits for, or by none of the head. -/
def headOpG (ops : Array Oper) (n size i : Nat) : Bool :=
  match ops[i]? with
  | none => false
  | some o => (match o.guard with | none => true | some (g, _) => decide (g < i) && Region.waitsFor .any ops i g) && o.dst.isSome && decide (slot ops i < size) && (List.range i).all (fun j => slot ops j != slot ops i) && o.after.all (fun e => !Region.binds .any e || decide (e.on < i)) &&
      o.op.operands.all fun x => match x with
        | .tmp t => (List.range n).all (fun j => slot ops j != t) || (List.range i).any fun j => slot ops j == t && Region.waitsFor .any ops i j
        | _ => true
def guardsB (ops : Array Oper) (n size : Nat) : Bool :=
  Region.noSelect ops && decide (n < ops.size) && Region.sinkB .any ops n && Region.chainB .any ops n && (List.range n).all (headOpG ops n size) && Region.seqB .any ops (ops.size - n) n (doneB ops n)

theorem headOpG_spec {size i : Nat} (h : headOpG ops n size i = true) : ∃ o, ops[i]? = some o ∧ (∀ g b, o.guard = some (g, b) → g < i ∧ Region.waitsFor .any ops i g = true) ∧ o.dst = some (slot ops i) ∧ slot ops i < size ∧ (∀ j, j < i → slot ops j ≠ slot ops i) ∧
    (∀ e ∈ o.after, Region.binds .any e = true → e.on < i) ∧ ∀ t, .tmp t ∈ o.op.operands → (∀ j, j < n → slot ops j ≠ t) ∨ ∃ j, j < i ∧ slot ops j = t ∧ Region.waitsFor .any ops i j = true := by
  unfold headOpG at h
  split at h
  · cases h
  · rename_i o ho
    simp only [Bool.and_eq_true, decide_eq_true_eq, List.all_eq_true, List.mem_range, bne_iff_ne, Array.all_eq_true_iff_forall_mem, Bool.or_eq_true, Bool.not_eq_true'] at h
    obtain ⟨⟨⟨⟨⟨hg, hd⟩, hs⟩, hj⟩, ha⟩, hx⟩ := h
    obtain ⟨d, hd⟩ := Option.isSome_iff_exists.1 hd
    refine ⟨o, ho, fun g b e => ?_, ?_, hs, hj, fun e he hb => ?_, fun t ht => ?_⟩
    · rw [e] at hg
      simpa using hg
    · rw [hd]
      unfold slot
      rw [ho]
      simp [hd]
    · rcases ha e he with h | h
      · rw [hb] at h; cases h
      · exact h
    · have hxt := hx _ ht
      simp only [Bool.or_eq_true] at hxt
      rcases hxt with h | h
      · left
        simp only [List.all_eq_true, List.mem_range, bne_iff_ne] at h
        exact h
      · right
        obtain ⟨j, hj, h2⟩ := List.any_eq_true.1 h
        simp only [Bool.and_eq_true, beq_iff_eq] at h2
        exact ⟨j, List.mem_range.1 hj, h2.1, h2.2⟩

/-- THE REGION. -/
theorem wp_region_guards {id : Nat} {Q : Exit → Act → World → Prop} {a : Act} {w : World} {l : List Oper} (n : Nat) (F : Nat → Value → World → Prop) (hst : ∀ j v w w', F j v w → Below w.heap.size w w' → F j v w')
    (hm : P.follows .mixedOrders = true) (hB : guardsB l.toArray n a.tmps.size = true)
    (hop : ∀ i, i < n → ∀ (vals : Nat → Value) (w' : World), Below w.heap.size w w' → (∀ j, Region.waitsFor .any l.toArray i j = true → F j (vals j) w') → ∀ o, l[i]? = some o →
      Guarded o vals (Runs P (fun v w'' => F i v w'' ∧ Below w'.heap.size w' w'') ((execOp (lay l.toArray vals a i).eval o).run P w')) (F i undef w'))
    (hend : ∀ (vals : Nat → Value) (w' : World), Below w.heap.size w w' → (∀ j, j < n → F j (vals j) w') → wpList P l.toArray Q (l.drop n) (lay l.toArray vals a n) w') : (Code.region id l.toArray true).wp P Q a w := by
  simp only [guardsB, Bool.and_eq_true, decide_eq_true_eq, List.all_eq_true, List.mem_range] at hB
  obtain ⟨⟨⟨⟨⟨hns, hlt⟩, hs⟩, hc⟩, hh⟩, hseq⟩ := hB
  have spec := fun i hi => headOpG_spec (hh i hi)
  have dist : ∀ i, i < n → ∀ i', i' < i → slot l.toArray i' ≠ slot l.toArray i := fun i hi i' hi' => by
    obtain ⟨o, _, _, _, _, h, _⟩ := spec i hi
    exact h i' hi'
  have inb : ∀ i, i < n → slot l.toArray i < a.tmps.size := fun i hi => by
    obtain ⟨o, _, _, _, h, _⟩ := spec i hi
    exact h
  have key : ∀ k done a' w', At l.toArray n w.heap.size w a F done a' w' → undone n done = k → wpAny P .any l.toArray Q (k + (l.toArray.size - n)) done a' w' := by
    intro k
    induction k with
    | zero =>
      intro done a' w' hA hk
      have all := undone_zero n hk
      have hdone : done = doneB l.toArray n := by
        apply Array.ext
        · rw [hA.inv.size]; simp [doneB]
        · intro i h1 h2
          have h3 : i < l.toArray.size := by rw [← hA.inv.size]; exact h1
          have e2 : (doneB l.toArray n)[i] = decide (i < n) := by simp [doneB]
          rw [e2]
          by_cases hi : i < n
          · have := all i hi
            simp [h1] at this
            rw [this]; simp [hi]
          · have := hA.inv.tail i (by omega) h3
            simp [h1] at this
            rw [this]; simp [hi]
      have hframe : a' = lay l.toArray (fun j => a'.tmps.getD (slot l.toArray j) undef) a n := by
        have e1 : a'.tmps = (lay l.toArray (fun j => a'.tmps.getD (slot l.toArray j) undef) a n).tmps := by
          apply Array.ext_getElem?
          intro t
          by_cases ht : ∃ j, j < n ∧ slot l.toArray j = t
          · obtain ⟨j, hj, rfl⟩ := ht
            rw [lay_in _ a n j hj (inb j hj) dist]
            have hb := inb j hj
            rw [← hA.size] at hb
            rw [Array.getElem?_eq_getElem hb]
            simp [Array.getD, hb]
          · have ht' : ∀ j, j < n → slot l.toArray j ≠ t := fun j hj e => ht ⟨j, hj, e⟩
            rw [lay_out _ a n t ht', hA.out t (fun j hj _ => ht' j hj)]
        have e2 : a'.defers = (lay l.toArray (fun j => a'.tmps.getD (slot l.toArray j) undef) a n).defers := by rw [lay_defers, hA.defers]
        cases a'
        generalize lay l.toArray _ a n = b at *
        cases b
        simp only at e1 e2
        rw [e1, e2]
      rw [Nat.zero_add, hdone, hframe]
      have hd : (l.drop n).length = l.toArray.size - n := by rw [List.length_drop, List.size_toArray]
      rw [← hd]
      exact wpAny_of_seq (md := .any) (l.drop n) n _ _ w' (fun j => by rw [List.getElem?_drop, List.getElem?_toArray]) (by rw [hd]; exact hseq) (hend _ w' hA.bel (fun j hj => hA.fact j hj (all j hj)))
    | succ k ih =>
      intro done a' w' hA hk
      obtain ⟨i0, hi0, hu0, hl0⟩ := undone_least (d := done) n (by omega)
      have hsz : ∀ i, i < n → i < done.size := fun i hi => by rw [hA.inv.size]; omega
      have ready0 : i0 ∈ Region.ready .any l.toArray done := by
        obtain ⟨o, ho, _, _, _, _, haft, _⟩ := spec i0 hi0
        exact mem_ready.2 ⟨getD_in (hsz i0 hi0) hu0, o, ho, fun e he hb => hl0 _ (haft e he hb)⟩
      rw [show k + 1 + (l.toArray.size - n) = (k + (l.toArray.size - n)) + 1 by omega]
      refine ⟨fun e => absurd e (List.ne_nil_of_mem ready0), fun i hi => ?_⟩
      have hin : i < n := Nat.lt_of_not_le fun h => tail_waits hs hc hlt hA.inv _ i0 rfl hi0 (getD_in (hsz i0 hi0) hu0) i h hi
      obtain ⟨hopen, o, ho, hwait⟩ := mem_ready.1 hi
      obtain ⟨o', ho', hg, hdst, hslot, hdj, haft, hread⟩ := spec i hin
      obtain rfl : o = o' := Option.some.inj (ho.symm.trans ho')
      have dep : ∀ j, Region.waitsFor .any l.toArray i j = true → j < i ∧ done.getD j false = true := fun j hj => by
        obtain ⟨o2, ho2, e, he, hb, hon⟩ := Region.waitsFor_spec hj
        obtain rfl : o = o2 := Option.some.inj (ho.symm.trans ho2)
        rw [← hon]
        exact ⟨haft e he hb, hwait e he hb⟩
      have vals : ∃ vals : Nat → Value, vals = fun j => a'.tmps.getD (slot l.toArray j) undef := ⟨_, rfl⟩
      obtain ⟨vals, hvals⟩ := vals
      have hrun := hop i hin vals w' hA.bel (fun j hj => by
        rw [hvals]
        exact hA.fact j (by have := (dep j hj).1; omega) (dep j hj).2) o (by rw [← List.getElem?_toArray]; exact ho)
      have hexec : execOp a'.eval o = execOp (lay l.toArray vals a i).eval o := by
        refine execOp_congr o (fun cs b => Region.noSelect_spec hns i o cs b ho) fun x hx => ?_
        cases x with
        | tmp t =>
          show a'.tmps.getD t undef = (lay l.toArray vals a i).tmps.getD t undef
          rcases hread t hx with h | ⟨j, hj, rfl, hwj⟩
          · exact getD_of ((hA.out t (fun j hj _ => h j hj)).trans (lay_out vals a i t (fun j hj => h j (by omega))).symm)
          · have h1 := lay_in vals a i j hj (inb j (by omega)) (fun p hp => dist p (by omega))
            rw [getD_q (lay l.toArray vals a i).tmps, h1, hvals]
            rfl
        | const v => rfl
        | global g => rfl
        | func f => rfl
      have cont : ∀ v w'', F i v w'' → Below w'.heap.size w' w'' → wpAny P .any l.toArray Q (k + (l.toArray.size - n)) (done.setIfInBounds i true) (a'.put o.dst v) w'' := fun v w'' hF hb => ih _ _ _ (by
        rw [hdst]
        refine ⟨hA.bel.trans (hb.mono hA.bel.size), hA.inv.set hi hin, hA.defers, by rw [put_size]; exact hA.size, fun j hj hd => ?_, fun t ht => ?_⟩
        · by_cases e : j = i
          · subst e
            have : ((a'.put (some (slot l.toArray j)) v).tmps).getD (slot l.toArray j) undef = v := by
              rw [getD_q, put_get, if_pos ⟨rfl, by rw [hA.size]; exact hslot⟩]
              rfl
            rw [this]
            exact hF
          · have hne : slot l.toArray i ≠ slot l.toArray j := by
              rcases Nat.lt_or_ge j i with h | h
              · exact fun h2 => hdj j h h2.symm
              · exact dist j hj i (by omega)
            have : ((a'.put (some (slot l.toArray i)) v).tmps).getD (slot l.toArray j) undef = a'.tmps.getD (slot l.toArray j) undef := by
              rw [getD_q, getD_q, put_get, if_neg (fun h => hne h.1)]
            rw [this]
            rw [getD_set_ne false (Ne.symm e)] at hd
            exact hst j _ w' w'' (hA.fact j hj hd) hb
        · rw [put_get, if_neg (fun h => ht i hin (by simp [hsz i hin]) h.1)]
          exact hA.out t fun j hj hd => ht j hj (getD_set_true hd)
        ) (by have := undone_set (hsz i hin) (getD_both hopen) n; rw [if_pos hin] at this; omega)
      unfold wpOp
      simp only [ho]
      have run : Runs P (fun v w'' => F i v w'' ∧ Below w'.heap.size w' w'') ((execOp (lay l.toArray vals a i).eval o).run P w') → o.wp P a' w' (wpAny P .any l.toArray Q (k + (l.toArray.size - n)) (done.setIfInBounds i true)) Q := fun h => by
        unfold Oper.wp
        rw [hexec]
        exact h.upon fun v w'' ⟨hF, hb⟩ => cont v w'' hF hb
      cases hgd : o.guard with
      | none =>
        unfold Guarded at hrun
        rw [hgd] at hrun
        rw [if_pos (show Region.wanted o (yielded l.toArray a'.tmps) = true by simp [Region.wanted, hgd])]
        exact .inl (run hrun)
      | some gb =>
        obtain ⟨g, b⟩ := gb
        unfold Guarded at hrun
        rw [hgd] at hrun
        obtain ⟨c, hc1, hc2, hc3⟩ := hrun
        obtain ⟨hgi, -⟩ := hg g b hgd
        obtain ⟨og, hog, -, hdg, hsg, -⟩ := spec g (by omega)
        have hy : yielded l.toArray a'.tmps g = some c := by
          rw [hvals] at hc1
          have hlt2 : slot l.toArray g < a'.tmps.size := by rw [hA.size]; exact hsg
          have h3 : a'.tmps[slot l.toArray g]? = some (.bool c) := by
            rw [Array.getElem?_eq_getElem hlt2]
            have : a'.tmps.getD (slot l.toArray g) undef = .bool c := hc1
            simpa [Array.getD, hlt2] using this
          unfold yielded
          rw [hog]
          simp [hdg, h3]
        by_cases hcb : c = b
        · rw [if_pos (show Region.wanted o (yielded l.toArray a'.tmps) = true by simp [Region.wanted, hgd, hy, hcb])]
          exact .inl (run (hc2 hcb))
        · rw [if_neg (show ¬ Region.wanted o (yielded l.toArray a'.tmps) = true by simp [Region.wanted, hgd, hy, hcb])]
          exact cont undef w' (hc3 hcb) (Below.refl _ _)
  refine wp_region_any hm ?_
  have start := key n (Array.replicate l.toArray.size false) a { w with drawn := w.drawn + 1 } ⟨(Below.refl _ _).drew, ⟨Array.size_replicate, fun j _ _ ht => absurd ht (by rw [getD_replicate_false]; exact Bool.noConfusion), fun t _ ht => getD_in (by rw [Array.size_replicate]; exact ht) (getD_replicate_false _ _)⟩, rfl, rfl,
    (fun j _ hd => by rw [getD_replicate_false] at hd; cases hd), fun t _ => rfl⟩ (undone_start _ n)
  rw [show n + (l.toArray.size - n) = l.toArray.size by omega] at start
  exact start

/-- The same, its facts in a list; the frame that an operation meets is known at the slots that it may read. -/
theorem wp_region_guarded {id : Nat} {Q : Exit → Act → World → Prop} {a : Act} {w : World} {l : List Oper} (ds : List Nat) (fs : List Fact) (hm : P.follows .mixedOrders = true) (hB : (guardsB l.toArray ds.length a.tmps.size && slotsB l.toArray ds) = true)
    (hop : ∀ i, i < ds.length → ∀ (b : Act) (w' : World), Below w.heap.size w w' → (∀ j, Region.waitsFor .any l.toArray i j = true → j < i → (factAt fs j).p (b.tmps.getD (ds.getD j 0) undef) w') →
      (∀ t, ds.all (· != t) = true → b.tmps.getD t undef = a.tmps.getD t undef) → ∀ o, l[i]? = some o → Guarded o (fun g => b.tmps.getD (ds.getD g 0) undef) (Runs P (fun v w'' => (factAt fs i).p v w'' ∧ Below w'.heap.size w' w'') ((execOp b.eval o).run P w')) ((factAt fs i).p undef w'))
    (hend : ∀ (vals : Nat → Value) (w' : World), Below w.heap.size w w' → (∀ j, j < ds.length → (factAt fs j).p (vals j) w') → wpList P l.toArray Q (l.drop ds.length) (puts vals ds 0 a) w') : (Code.region id l.toArray true).wp P Q a w := by
  rw [Bool.and_eq_true] at hB
  obtain ⟨hB, hS⟩ := hB
  have hB' := hB
  simp only [guardsB, Bool.and_eq_true, decide_eq_true_eq, List.all_eq_true, List.mem_range] at hB'
  obtain ⟨⟨⟨⟨⟨_, _⟩, _⟩, _⟩, hh⟩, _⟩ := hB'
  have spec := fun i hi => headOpG_spec (hh i hi)
  have hs : ∀ j, j < ds.length → slot l.toArray j = ds.getD j 0 := fun j hj => by
    have := List.all_eq_true.1 hS j (List.mem_range.2 hj)
    simpa using this
  refine wp_region_guards ds.length (fun j v w => (factAt fs j).p v w) (fun j v w w' h hb => (factAt fs j).lasts v w w' h hb) hm hB (fun i hi vals w' hb hd o ho => ?_) (fun vals w' hb hf => by rw [lay_puts vals a ds hS]; exact hend vals w' hb hf)
  have lin : ∀ j, j < i → (lay l.toArray vals a i).tmps.getD (ds.getD j 0) undef = vals j := fun j hj => by
    have h1 := lay_in vals a i j hj (by obtain ⟨_, _, _, _, h, _⟩ := spec j (by omega); exact h) (fun p hp p' hp' => by obtain ⟨_, _, _, _, _, h, _⟩ := spec p (by omega); exact h p' hp')
    rw [hs j (by omega)] at h1
    rw [getD_q, h1]
    rfl
  have h := hop i hi (lay l.toArray vals a i) w' hb (fun j hw hj => by rw [lin j hj]; exact hd j hw) (fun t ht => by
    refine getD_of (lay_out vals a i t fun j hj => ?_)
    rw [hs j (by omega)]
    have hj2 : j < ds.length := by omega
    have := List.all_eq_true.1 ht (ds.getD j 0) (by rw [List.getD_eq_getElem?_getD, List.getElem?_eq_getElem hj2]; exact List.getElem_mem hj2)
    simpa using this) o ho
  obtain ⟨o', ho', hg, -⟩ := spec i hi
  have e : o = o' := Option.some.inj (ho.symm.trans (by rw [← ho']; simp))
  subst e
  unfold Guarded at h ⊢
  cases hgd : o.guard with
  | none => rw [hgd] at h; exact h
  | some gb =>
    obtain ⟨g, b⟩ := gb
    rw [hgd] at h
    obtain ⟨c, h1, h2, h3⟩ := h
    exact ⟨c, by rw [← lin g (hg g b hgd).1]; exact h1, h2, h3⟩
end
end Go.Proofs.YtcejokbbiinbkaaDoor
end

