import Derived.Maps.AppendAt
import Derived.Test.YtkgddcemocfgfaaGreatDoorJZFacts
import Derived.Test.YtkgddcemocfgfaaGreatDoorJZShort
import Derived.Test.YtkgddcemocfgfaaGreatDoorJZSmPg

section
/- Like Facts, where what an operation does to the world is followed by hand: a state that depends on what is done, and a relation under which the facts last. -/

namespace Go.Proofs.YtkgddcemocfgfaaGreatDoor
open Go.RowKit

section
variable {P : Program} {ops : Array Oper} {n : Nat}

/-- The values that the head has left. -/
def seen (ops : Array Oper) (n : Nat) (a : Act) (j : Nat) : Value := if j < n then a.tmps.getD (slot ops j) undef else undef
/-- While the head comes up: what holds of the world follows what is done. -/
structure AtJ (ops : Array Oper) (n : Nat) (J : (Nat → Bool) → (Nat → Value) → World → Prop) (a0 : Act) (F : Nat → Value → World → Prop) (done : Array Bool) (a : Act) (w : World) : Prop where
 bel : J (fun j => done.getD j false) (seen ops n a) w
 inv : HeadInv .any ops n done
 defers : a.defers = a0.defers
 size : a.tmps.size = a0.tmps.size
 fact : ∀ j, j < n → done.getD j false = true → F j (a.tmps.getD (slot ops j) undef) w
 out : ∀ t, (∀ j, j < n → done.getD j false = true → slot ops j ≠ t) → a.tmps[t]? = a0.tmps[t]?
theorem done_set {d : Array Bool} {i : Nat} (hi : i < d.size) : (fun j => (d.setIfInBounds i true).getD j false) = fun j => if j = i then true else d.getD j false := by
 funext j
 by_cases e : j = i
 ·subst e; simp [hi]
 ·rw [if_neg e, getD_set_ne false (Ne.symm e)]

theorem lay_seen (a' a : Act) : ∀ k, k ≤ n → lay ops (seen ops n a') a k = lay ops (fun j => a'.tmps.getD (slot ops j) undef) a k := by
 intro k
 induction k with
 | zero => intro _; rfl
 | succ k ih =>
  intro hk
  unfold lay
  rw [ih (by omega)]
  congr 1
  unfold seen
  rw [if_pos (by omega)]
theorem seen_put (ops : Array Oper) (n i : Nat) (a : Act) (v : Value) (hi : i < n) (hs : slot ops i < a.tmps.size) (hd : ∀ j, j < n → j ≠ i → slot ops i ≠ slot ops j) :
  seen ops n (a.put (some (slot ops i)) v) = fun j => if j = i then v else seen ops n a j := by
 funext j
 unfold seen
 by_cases e : j = i
 ·subst e
  rw [if_pos hi, if_pos rfl, getD_q, put_get, if_pos ⟨rfl, hs⟩]
  rfl
 ·rw [if_neg e]
  by_cases hj : j < n
  ·rw [if_pos hj, if_pos hj, getD_q, getD_q, put_get, if_neg (fun h => hd j hj e h.1)]
  ·rw [if_neg hj, if_neg hj]
/-- THE REGION. -/
theorem wp_region_state {id : Nat} {Q : Exit → Act → World → Prop} {a : Act} {w : World} {l : List Oper} (n : Nat) (J : (Nat → Bool) → (Nat → Value) → World → Prop) (Rel : World → World → Prop) (F : Nat → Value → World → Prop) (hst : ∀ j v w w', F j v w → Rel w w' → F j v w') (hJ : ∀ vals, J (fun _ => false) vals { w with drawn := w.drawn + 1 })
  (hm : P.follows .mixedOrders = true) (hB : factsB l.toArray n a.tmps.size = true)
  (hop : ∀ i, i < n → ∀ (d : Nat → Bool) (vals : Nat → Value) (w' : World), J d vals w' → d i = false → (∀ j, Region.waitsFor .any l.toArray i j = true → d j = true ∧ F j (vals j) w') → (∀ j, j < n → d j = true → F j (vals j) w') → ∀ o, l[i]? = some o →
   Runs P (fun v w'' => F i v w'' ∧ Rel w' w'' ∧ J (fun j => if j = i then true else d j) (fun j => if j = i then v else vals j) w'') ((execOp (lay l.toArray vals a i).eval o).run P w'))
  (hend : ∀ (d : Nat → Bool) (vals : Nat → Value) (w' : World), J d vals w' → (∀ j, j < n → d j = true) → (∀ j, j < n → F j (vals j) w') → wpList P l.toArray Q (l.drop n) (lay l.toArray vals a n) w') : (Code.region id l.toArray true).wp P Q a w := by
 simp only [factsB, Bool.and_eq_true, decide_eq_true_eq, List.all_eq_true, List.mem_range] at hB
 obtain ⟨⟨⟨⟨⟨hns, hlt⟩, hs⟩, hc⟩, hh⟩, hseq⟩ := hB
 have spec := fun i hi => headOpB_spec (hh i hi)
 have dist : ∀ i, i < n → ∀ i', i' < i → slot l.toArray i' ≠ slot l.toArray i := fun i hi i' hi' => by
  obtain ⟨o, _, _, _, _, h, _⟩ := spec i hi
  exact h i' hi'
 have inb : ∀ i, i < n → slot l.toArray i < a.tmps.size := fun i hi => by
  obtain ⟨o, _, _, _, h, _⟩ := spec i hi
  exact h
 have key : ∀ k done a' w', AtJ l.toArray n J a F done a' w' → undone n done = k → wpAny P .any l.toArray Q (k + (l.toArray.size - n)) done a' w' := by
  intro k
  induction k with
  | zero =>
   intro done a' w' hA hk
   have all := undone_zero n hk
   have hdone : done = doneB l.toArray n := by
    apply Array.ext
    ·rw [hA.inv.size]; simp [doneB]
    ·intro i h1 h2
     have h3 : i < l.toArray.size := by rw [← hA.inv.size]; exact h1
     have e2 : (doneB l.toArray n)[i] = decide (i < n) := by simp [doneB]
     rw [e2]
     by_cases hi : i < n
     ·have := all i hi
      simp [h1] at this
      rw [this]; simp [hi]
     ·have := hA.inv.tail i (by omega) h3
      simp [h1] at this
      rw [this]; simp [hi]
   have hframe : a' = lay l.toArray (fun j => a'.tmps.getD (slot l.toArray j) undef) a n := by
    have e1 : a'.tmps = (lay l.toArray (fun j => a'.tmps.getD (slot l.toArray j) undef) a n).tmps := by
     apply Array.ext_getElem?
     intro t
     by_cases ht : ∃ j, j < n ∧ slot l.toArray j = t
     ·obtain ⟨j, hj, rfl⟩ := ht
      rw [lay_in _ a n j hj (inb j hj) dist]
      have hb := inb j hj
      rw [← hA.size] at hb
      rw [Array.getElem?_eq_getElem hb]
      simp [Array.getD, hb]
     ·have ht' : ∀ j, j < n → slot l.toArray j ≠ t := fun j hj e => ht ⟨j, hj, e⟩
      rw [lay_out _ a n t ht', hA.out t (fun j hj _ => ht' j hj)]
    have e2 : a'.defers = (lay l.toArray (fun j => a'.tmps.getD (slot l.toArray j) undef) a n).defers := by rw [lay_defers, hA.defers]
    cases a'
    generalize lay l.toArray _ a n = b at *
    cases b
    simp only at e1 e2
    rw [e1, e2]
   rw [Nat.zero_add, hdone, hframe]
   have hd : (l.drop n).length = l.toArray.size - n := by rw [List.length_drop, List.size_toArray]
   rw [← hd]
   exact wpAny_of_seq (md := .any) (l.drop n) n _ _ w' (fun j => by rw [List.getElem?_drop, List.getElem?_toArray]) (by rw [hd]; exact hseq) (by
    have hs := hend _ (seen l.toArray n a') w' hA.bel all (fun j hj => by unfold seen; rw [if_pos hj]; exact hA.fact j hj (all j hj))
    rw [lay_seen a' a n (Nat.le_refl _)] at hs
    exact hs)
  | succ k ih =>
   intro done a' w' hA hk
   obtain ⟨i0, hi0, hu0, hl0⟩ := undone_least (d := done) n (by omega)
   have hsz : ∀ i, i < n → i < done.size := fun i hi => by rw [hA.inv.size]; omega
   have ready0 : i0 ∈ Region.ready .any l.toArray done := by
    obtain ⟨o, ho, _, _, _, _, haft, _⟩ := spec i0 hi0
    exact mem_ready.2 ⟨getD_in (hsz i0 hi0) hu0, o, ho, fun e he hb => hl0 _ (haft e he hb)⟩
   rw [show k + 1 + (l.toArray.size - n) = (k + (l.toArray.size - n)) + 1 by omega]
   refine ⟨fun e => absurd e (List.ne_nil_of_mem ready0), fun i hi => ?_⟩
   have hin : i < n := Nat.lt_of_not_le fun h => tail_waits hs hc hlt hA.inv _ i0 rfl hi0 (getD_in (hsz i0 hi0) hu0) i h hi
   obtain ⟨hopen, o, ho, hwait⟩ := mem_ready.1 hi
   obtain ⟨o', ho', hg, hdst, hslot, hdj, haft, hread⟩ := spec i hin
   obtain rfl : o = o' := Option.some.inj (ho.symm.trans ho')
   have dep : ∀ j, Region.waitsFor .any l.toArray i j = true → j < i ∧ done.getD j false = true := fun j hj => by
    obtain ⟨o2, ho2, e, he, hb, hon⟩ := Region.waitsFor_spec hj
    obtain rfl : o = o2 := Option.some.inj (ho.symm.trans ho2)
    rw [← hon]
    exact ⟨haft e he hb, hwait e he hb⟩
   have vals : ∃ vals : Nat → Value, vals = seen l.toArray n a' := ⟨_, rfl⟩
   obtain ⟨vals, hvals⟩ := vals
   have hrun := hop i hin _ vals w' (by rw [hvals]; exact hA.bel) (getD_both hopen) (fun j hj => by
    rw [hvals]
    unfold seen
    rw [if_pos (by have := (dep j hj).1; omega)]
    exact ⟨(dep j hj).2, hA.fact j (by have := (dep j hj).1; omega) (dep j hj).2⟩) (fun j hj hd => by
    rw [hvals]
    unfold seen
    rw [if_pos hj]
    exact hA.fact j hj hd) o (by rw [← List.getElem?_toArray]; exact ho)
   have hexec : execOp a'.eval o = execOp (lay l.toArray vals a i).eval o := by
    refine execOp_congr o (fun cs b => Region.noSelect_spec hns i o cs b ho) fun x hx => ?_
    cases x with
    | tmp t =>
     show a'.tmps.getD t undef = (lay l.toArray vals a i).tmps.getD t undef
     rcases hread t hx with h | ⟨j, hj, rfl, hwj⟩
     ·exact getD_of ((hA.out t (fun j hj _ => h j hj)).trans (lay_out vals a i t (fun j hj => h j (by omega))).symm)
     ·have h1 := lay_in vals a i j hj (inb j (by omega)) (fun p hp => dist p (by omega))
      rw [getD_q (lay l.toArray vals a i).tmps, h1, hvals]
      unfold seen
      rw [if_pos (by omega)]
      rfl
    | const v => rfl
    | global g => rfl
    | func f => rfl
   unfold wpOp
   simp only [ho]
   rw [if_pos (show Region.wanted o (yielded l.toArray a'.tmps) = true by simp [Region.wanted, hg])]
   left
   unfold Oper.wp
   rw [hexec]
   refine hrun.upon fun v w'' ⟨hF, hb, hJ2⟩ => ih _ _ _ ?_ (by have := undone_set (hsz i hin) (getD_both hopen) n; rw [if_pos hin] at this; omega)
   rw [hdst]
   refine ⟨by
    rw [done_set (hsz i hin), seen_put l.toArray n i a' v hin (by rw [hA.size]; exact hslot) (fun j hj e => (Nat.lt_or_ge j i).elim (fun h h2 => hdj j h h2.symm) (fun h => dist j hj i (by omega))), ← hvals]
    exact hJ2, hA.inv.set hi hin, hA.defers, by rw [put_size]; exact hA.size, fun j hj hd => ?_, fun t ht => ?_⟩
   ·by_cases e : j = i
    ·subst e
     have : ((a'.put (some (slot l.toArray j)) v).tmps).getD (slot l.toArray j) undef = v := by
      rw [getD_q, put_get, if_pos ⟨rfl, by rw [hA.size]; exact hslot⟩]
      rfl
     rw [this]
     exact hF
    ·have hne : slot l.toArray i ≠ slot l.toArray j := by
      rcases Nat.lt_or_ge j i with h | h
      ·exact fun h2 => hdj j h h2.symm
      ·exact dist j hj i (by omega)
     have : ((a'.put (some (slot l.toArray i)) v).tmps).getD (slot l.toArray j) undef = a'.tmps.getD (slot l.toArray j) undef := by
      rw [getD_q, getD_q, put_get, if_neg (fun h => hne h.1)]
     rw [this]
     rw [getD_set_ne false (Ne.symm e)] at hd
     exact hst j _ w' w'' (hA.fact j hj hd) hb
   ·rw [put_get, if_neg (fun h => ht i hin (by simp [hsz i hin]) h.1)]
    exact hA.out t fun j hj hd => ht j hj (getD_set_true hd)
 refine wp_region_any hm ?_
 have start := key n (Array.replicate l.toArray.size false) a { w with drawn := w.drawn + 1 } ⟨by
  rw [show (fun j => (Array.replicate l.toArray.size false).getD j false) = fun _ => false from by funext j; exact getD_replicate_false _ _]
  exact hJ _, ⟨Array.size_replicate, fun j _ _ ht => absurd ht (by rw [getD_replicate_false]; exact Bool.noConfusion), fun t _ ht => getD_in (by rw [Array.size_replicate]; exact ht) (getD_replicate_false _ _)⟩, rfl, rfl,
  (fun j _ hd => by rw [getD_replicate_false] at hd; cases hd), fun t _ => rfl⟩ (undone_start _ n)
 rw [show n + (l.toArray.size - n) = l.toArray.size by omega] at start
 exact start

def factJ (fs : List (Value → World → Prop)) (j : Nat) : Value → World → Prop := fs.getD j fun _ _ => True
theorem factJ_lasts {fs : List (Value → World → Prop)} {Rel : World → World → Prop} (hst : ∀ f ∈ fs, ∀ v w w', f v w → Rel w w' → f v w') (j : Nat) (v : Value) (w w' : World) (h : factJ fs j v w) (hb : Rel w w') : factJ fs j v w' := by
 unfold factJ at h ⊢
 by_cases hj : j < fs.length
 ·rw [List.getD_eq_getElem?_getD, List.getElem?_eq_getElem hj] at h ⊢
  exact hst _ (List.getElem_mem hj) v w w' h hb
 ·rw [List.getD_eq_getElem?_getD, List.getElem?_eq_none (by omega)] at h ⊢
  trivial

/-- The same, its facts in a list; the frame that an operation meets is known at the slots that it may read. -/
theorem wp_region_statelist {id : Nat} {Q : Exit → Act → World → Prop} {a : Act} {w : World} {l : List Oper} (ds : List Nat) (J : (Nat → Bool) → (Nat → Value) → World → Prop) (Rel : World → World → Prop) (fs : List (Value → World → Prop)) (hst : ∀ f ∈ fs, ∀ v w w', f v w → Rel w w' → f v w') (hJ : ∀ vals, J (fun _ => false) vals { w with drawn := w.drawn + 1 }) (hm : P.follows .mixedOrders = true) (hB : (factsB l.toArray ds.length a.tmps.size && slotsB l.toArray ds) = true)
  (hop : ∀ i, i < ds.length → ∀ (d : Nat → Bool) (vals : Nat → Value) (b : Act) (w' : World), J d vals w' → d i = false → (∀ j, Region.waitsFor .any l.toArray i j = true → j < i → d j = true ∧ factJ fs j (b.tmps.getD (ds.getD j 0) undef) w') → (∀ j, j < ds.length → d j = true → factJ fs j (vals j) w') →
   (∀ t, ds.all (· != t) = true → b.tmps.getD t undef = a.tmps.getD t undef) → ∀ o, l[i]? = some o → Runs P (fun v w'' => factJ fs i v w'' ∧ Rel w' w'' ∧ J (fun j => if j = i then true else d j) (fun j => if j = i then v else vals j) w'') ((execOp b.eval o).run P w'))
  (hend : ∀ (d : Nat → Bool) (vals : Nat → Value) (w' : World), J d vals w' → (∀ j, j < ds.length → d j = true) → (∀ j, j < ds.length → factJ fs j (vals j) w') → wpList P l.toArray Q (l.drop ds.length) (puts vals ds 0 a) w') : (Code.region id l.toArray true).wp P Q a w := by
 rw [Bool.and_eq_true] at hB
 obtain ⟨hB, hS⟩ := hB
 have hB' := hB
 simp only [factsB, Bool.and_eq_true, decide_eq_true_eq, List.all_eq_true, List.mem_range] at hB'
 obtain ⟨⟨⟨⟨⟨_, _⟩, _⟩, _⟩, hh⟩, _⟩ := hB'
 have spec := fun i hi => headOpB_spec (hh i hi)
 have hs : ∀ j, j < ds.length → slot l.toArray j = ds.getD j 0 := fun j hj => by
  have := List.all_eq_true.1 hS j (List.mem_range.2 hj)
  simpa using this
 refine wp_region_state ds.length J Rel (fun j v w => factJ fs j v w) (fun j v w w' h hb => factJ_lasts hst j v w w' h hb) hJ hm hB (fun i hi d vals w' hb hu hd hall o ho => ?_) (fun d vals w' hb hall hf => by rw [lay_puts vals a ds hS]; exact hend d vals w' hb hall hf)
 refine hop i hi d vals (lay l.toArray vals a i) w' hb hu (fun j hw hj => ?_) hall (fun t ht => ?_) o ho
 ·have h1 := lay_in vals a i j hj (by obtain ⟨_, _, _, _, h, _⟩ := spec j (by omega); exact h) (fun p hp p' hp' => by obtain ⟨_, _, _, _, _, h, _⟩ := spec p (by omega); exact h p' hp')
  rw [hs j (by omega)] at h1
  rw [getD_q, h1]
  exact hd j hw
 ·refine getD_of (lay_out vals a i t fun j hj => ?_)
  rw [hs j (by omega)]
  have hj2 : j < ds.length := by omega
  have := List.all_eq_true.1 ht (ds.getD j 0) (by rw [List.getD_eq_getElem?_getD, List.getElem?_eq_getElem hj2]; exact List.getElem_mem hj2)
  simpa using this
end
end Go.Proofs.YtkgddcemocfgfaaGreatDoor
end

section
/- The reference's parser: a Pick under way. -/




namespace Go.Proofs.YtkgddcemocfgfaaGreatDoor
open Go.RowKit
set_option linter.unusedVariables false
set_option linter.unusedSimpArgs false
set_option maxRecDepth 100000

theorem PaAt.drew {pb : Nat} {s : ByteArray} {A : Option Addr} {cap : Nat} {ts : List (Nat × Nat)} {p : Sm.PS} {W : World} (h : PaAt pb s A cap ts p W) : PaAt pb s A cap ts p W.drew := ⟨h.blk, h.rd, h.ok, h.sz⟩
theorem But.drewn {b : Nat} {w w' : World} (h : But b w w') : But b w w'.drew := ⟨h.os, h.tape, h.output, h.size, h.block⟩
theorem own_but {w w' : World} {b base n size : Nat} {e : TypeId} {v : Value} {xs : List Value} (h : w.ownsRow base e size v n xs) (hb : But b w w') (hB : b < base) : w'.ownsRow base e size v n xs :=
 h.kept (row := some b) ⟨hb.os, hb.tape, hb.output, hb.size, fun k hk hn => hb.block k hk (fun x => hn (by rw [x]))⟩ (by
  rcases hv : v.ownBlock with _ | k
  ·exact .inl rfl
  ·right
   have := (h.lt k hv).1
   intro e
   injection e with e
   omega)
theorem own_setCell {w : World} {base n size : Nat} {e : TypeId} {v : Value} {xs : List Value} (h : w.ownsRow base e size v n xs) (a : Addr) (x : Value) (hB : a.block < base) : (w.setCell a x).ownsRow base e size v n xs :=
 own_but (b := a.block) h ((But.refl _ w).setCell a x rfl) hB
theorem own_grown {w w' : World} {base n size : Nat} {e : TypeId} {v : Value} {xs : List Value} {row : Option Nat} (h : w.ownsRow base e size v n xs) (hg : w.grownBy w' row) (hne : ∀ k, v.ownBlock = some k → row ≠ some k) : w'.ownsRow base e size v n xs :=
 h.kept (row := row) hg (by
  rcases hv : v.ownBlock with _ | k
  ·exact .inl rfl
  ·right
   exact fun x => hne k hv (by rw [x]))
theorem But.grown {b : Nat} {w w' w'' : World} {row : Option Nat} (h : But b w w') (hg : w'.grownBy w'' row) (hr : ∀ k, row = some k → w.heap.size ≤ k) : But b w w'' :=
 ⟨hg.os.trans h.os, hg.tape.trans h.tape, hg.output.trans h.output, Nat.le_trans h.size hg.size, fun k hk hb => (hg.block k (Nat.lt_of_lt_of_le hk h.size) (fun x => by have := hr k x.symm; omega)).trans (h.block k hk hb)⟩
theorem Blk.grown {b : Nat} {vs : List Value} {t : TypeId} {w w' : World} {row : Option Nat} (h : Blk w b vs t) (hg : w.grownBy w' row) (hne : row ≠ some b) : Blk w' b vs t :=
 (hg.block b h.lt (fun x => hne x.symm)).trans h
theorem PaAt.grown {pb : Nat} {s : ByteArray} {A : Option Addr} {cap : Nat} {ts : List (Nat × Nat)} {p : Sm.PS} {W W' : World} {row : Option Nat} (h : PaAt pb s A cap ts p W) (hg : W.grownBy W' row) (hr : ∀ k, row = some k → pb < k) : PaAt pb s A cap ts p W' :=
 ⟨h.blk.grown hg (fun x => by have := hr _ x; omega), h.rd.keep fun q hq => by
  unfold World.cell?
  rw [hg.block q.block (by have := h.blk.lt; omega) (fun x => by have := hr _ x.symm; omega)], h.ok, h.sz⟩

/-- Two rows under way. -/
structure PkSt (pb : Nat) (s : ByteArray) (A : Option Addr) (cap : Nat) (ts : List (Nat × Nat)) (W : World) (rb fb : Nat) (nm : ByteArray) (p : Sm.PS) (vw vg : Value) (Lw : List ByteArray) (Lg : List Int) (w : World) : Prop where
 fd : FdSt pb s A cap ts W rb fb p (fdCs nm ⟨#[]⟩ ⟨#[]⟩ 3 0 0 vw vg) w
 ow : w.ownsRow (fb + 1) 9 1 vw Lw.length (Lw.map sv)
 og : w.ownsRow (fb + 1) 3 1 vg Lg.length (Lg.map iv)
 ap : ∀ k, vw.ownBlock = some k → vg.ownBlock ≠ some k
theorem FdSt.grown {pb : Nat} {s : ByteArray} {A : Option Addr} {cap : Nat} {ts : List (Nat × Nat)} {W : World} {rb fb : Nat} {p : Sm.PS} {cs : List Value} {w w' : World} {row : Option Nat} (h : FdSt pb s A cap ts W rb fb p cs w) (hg : w.grownBy w' row) (hr : ∀ k, row = some k → fb < k) : FdSt pb s A cap ts W rb fb p cs w' :=
 ⟨h.pa.grown hg (fun k hk => by have := hr k hk; have := h.news; omega), h.but.grown hg (fun k hk => by have := hr k hk; have := h.news; omega), h.fld.grown hg (fun x => by have := hr _ x; omega), h.res.grown hg (fun x => by have := hr _ x; have := h.news; omega), h.news⟩
theorem run_field_row (W : World) (b i : Nat) (hi : i = 6 ∨ i = 7) : (Instr.fieldAt 74 (.pointer (some ⟨b, 0, none⟩)) i).run Tryz.prog W = .ok (.pointer (some ⟨b, i, none⟩)) W := by
 rcases hi with rfl | rfl <;> go_simp
theorem run_load_strs (W : World) (a : Addr) (v : Value) (h : W.cell? a = some v) : (Instr.loadAt 45 (.pointer (some a))).run Tryz.prog W = .ok v W := by go_simp
theorem run_load_ints (W : World) (a : Addr) (v : Value) (h : W.cell? a = some v) : (Instr.loadAt 22 (.pointer (some a))).run Tryz.prog W = .ok v W := by go_simp
theorem run_build_str (w : World) (x : ByteArray) : (Instr.buildSlice 45 1 #[(0, .string x)]).run Tryz.prog w = .ok (.slice (some ⟨w.heap.size, 0, none⟩) 1 1) (w.alloc (.cells #[.string x] 9)) := by go_simp
theorem run_build_int (w : World) (x : Int) : (Instr.buildSlice 22 1 #[(0, .int .i64 x)]).run Tryz.prog w = .ok (.slice (some ⟨w.heap.size, 0, none⟩) 1 1) (w.alloc (.cells #[.int .i64 x] 3)) := by go_simp
theorem own_rdS {w : World} {fb n : Nat} {e : TypeId} {v : Value} {xs : List Value} (h : w.ownsRow (fb + 1) e 1 v n xs) :
  ∃ A c, v = .slice A n c ∧ RdS (fun k => fb < k ∧ k < w.heap.size) w A xs ∧ n ≤ c ∧ c ≤ maxLen := by
 have hl := h.1
 rcases h.2 with ⟨hv, h0⟩ | ⟨g, cap, cur, hv, hb, hg, hnc, hm, hs, ht⟩
 ·subst h0
  have hx : xs = [] := List.eq_nil_of_length_eq_zero (by omega)
  exact ⟨none, 0, hv, by rw [hx]; exact RdS.nil, Nat.le_refl _, Nat.zero_le _⟩
 ·refine ⟨_, _, hv, fun hn => ⟨g, 0, rfl, ⟨by omega, (Array.getElem?_eq_some_iff.1 hg).1⟩, fun j u hu => ?_⟩, hnc, hm⟩
  rw [cell_of_row w g (0 + j) _ _ _ hg]
  rw [← ht, List.getElem?_take] at hu
  split at hu
  ·rw [Nat.zero_add]; simpa using hu
  ·cases hu
theorem Sm.takeP_f (T : List ByteArray) (r : Bool) (p : Sm.PS) (h : (Sm.takeP T r p).f = false) : p.f = false ∧ r = true := by
 unfold Sm.takeP at h
 split at h
 ·rename_i x; exact ⟨h, x.1⟩
 ·cases h
end Go.Proofs.YtkgddcemocfgfaaGreatDoor
end

