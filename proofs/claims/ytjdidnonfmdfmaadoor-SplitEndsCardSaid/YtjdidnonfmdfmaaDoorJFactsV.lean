import Derived.Test.YtjdidnonfmdfmaaDoorJFactsO

section
/- (Over FactsO.) Like wp_region_listX; what an operation meets in a slot that it may read is what was left there. -/

namespace Go.Proofs.YtjdidnonfmdfmaaDoor
open Go.RowKit

section
variable {P : Program} {ops : Array Oper} {n : Nat}

/-- The same; what an operation meets in a slot that it may read is what was left there. -/
theorem wp_region_listV {id : Nat} {Q : Exit → Act → World → Prop} {a : Act} {w : World} {l : List Oper} (ds : List Nat) (J : (Nat → Bool) → (Nat → Value) → World → Prop) (Rel : World → World → Prop) (fs : List (Value → World → Prop)) (hst : ∀ f ∈ fs, ∀ v w w', f v w → Rel w w' → f v w') (hJ : ∀ vals, J (fun _ => false) vals { w with drawn := w.drawn + 1 }) (hm : P.follows .mixedOrders = true) (hB : (factsX l.toArray ds.length a.tmps.size && slotsX l.toArray ds) = true)
    (hop : ∀ i, i < ds.length → ∀ (d : Nat → Bool) (vals : Nat → Value) (b : Act) (w' : World), J d vals w' → d i = false → (∀ j, Region.waitsFor .any l.toArray i j = true → j < i → d j = true ∧ (ds.getD j 0 < 1000000 → b.tmps.getD (ds.getD j 0) undef = vals j)) → (∀ j, j < ds.length → d j = true → factJ fs j (vals j) w') →
      (∀ t, ds.all (· != t) = true → b.tmps.getD t undef = a.tmps.getD t undef) → ∀ o, l[i]? = some o → Runs P (fun v w'' => factJ fs i (leftX o v) w'' ∧ Rel w' w'' ∧ J (fun j => if j = i then true else d j) (fun j => if j = i then leftX o v else vals j) w'') ((execOp b.eval o).run P w'))
    (hend : ∀ (d : Nat → Bool) (vals : Nat → Value) (w' : World), J d vals w' → (∀ j, j < ds.length → d j = true) → (∀ j, j < ds.length → factJ fs j (vals j) w') → wpList P l.toArray Q (l.drop ds.length) (puts vals ds 0 a) w') : (Code.region id l.toArray true).wp P Q a w := by
  rw [Bool.and_eq_true] at hB
  obtain ⟨hB, hS⟩ := hB
  have hB' := hB
  simp only [factsX, Bool.and_eq_true, decide_eq_true_eq, List.all_eq_true, List.mem_range] at hB'
  obtain ⟨⟨⟨⟨⟨⟨_, _⟩, _⟩, _⟩, hh⟩, _⟩, _⟩ := hB'
  have spec := fun i hi => headOpX_spec (hh i hi)
  have hs : ∀ j, j < ds.length → slotX l.toArray j = ds.getD j 0 := fun j hj => by
    have := List.all_eq_true.1 hS j (List.mem_range.2 hj)
    simpa using this
  refine wp_region_stateX ds.length J Rel (fun j v w => factJ fs j v w) (fun j v w w' h hb => factJ_lasts hst j v w w' h hb) hJ hm hB (fun i hi d vals w' hb hu hd hall o ho => ?_) (fun d vals w' hb hall hf => by rw [layX_puts vals a ds hS]; exact hend d vals w' hb hall hf)
  refine hop i hi d vals (layX l.toArray vals a i) w' hb hu (fun j hw hj => ?_) hall (fun t ht => ?_) o ho
  · refine ⟨(hd j hw).1, fun hlt => ?_⟩
    have h1 := layX_in vals a i j hj (by obtain ⟨_, _, _, h, _⟩ := spec j (by omega); rcases h with h | h; exact h.2; have := hs j (by omega); omega) (fun p hp p' hp' => by obtain ⟨_, _, _, _, h, _⟩ := spec p (by omega); exact h p' hp')
    rw [hs j (by omega)] at h1
    rw [getD_q, h1]
    rfl
  · refine getD_of (layX_out vals a i t fun j hj => ?_)
    rw [hs j (by omega)]
    have hj2 : j < ds.length := by omega
    have := List.all_eq_true.1 ht (ds.getD j 0) (by rw [List.getD_eq_getElem?_getD, List.getElem?_eq_getElem hj2]; exact List.getElem_mem hj2)
    simpa using this
end
end Go.Proofs.YtjdidnonfmdfmaaDoor
end

