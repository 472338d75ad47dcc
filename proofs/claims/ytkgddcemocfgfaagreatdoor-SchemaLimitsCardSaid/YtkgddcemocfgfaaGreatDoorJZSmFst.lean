import Derived.Tactics

section
/- The first element that is so. Plain mathematics. -/

namespace Go.Proofs.YtkgddcemocfgfaaGreatDoor
set_option linter.unusedVariables false
namespace Sm
/-- The index of the first element that is so; -1: there is none. -/
def first {α : Type} (p : α → Bool) (l : List α) : Int := match l.findIdx? p with
 | some i => (i : Int)
 | none => -1
theorem first_at {α : Type} (p : α → Bool) (l : List α) (k : Nat) (x : α) (hx : l[k]? = some x) (hp : p x = true) (hb : ∀ y ∈ l.take k, p y = false) : first p l = (k : Int) := by
 have hk := (List.getElem?_eq_some_iff.1 hx)
 have : l.findIdx? p = some k := by
  rw [List.findIdx?_eq_some_iff_getElem]
  refine ⟨hk.1, by rw [hk.2]; exact hp, fun j hj => ?_⟩
  have := hb (l[j]'(by have := hk.1; omega)) (by
   rw [List.mem_take_iff_getElem]
   exact ⟨j, by have := hk.1; omega, rfl⟩)
  simp [this]
 unfold first
 rw [this]
theorem first_none {α : Type} (p : α → Bool) (l : List α) (hb : ∀ y ∈ l, p y = false) : first p l = -1 := by
 have : l.findIdx? p = none := by rw [List.findIdx?_eq_none_iff]; exact hb
 unfold first
 rw [this]
end Sm
theorem mem_take_succ {α : Type} {l : List α} {k : Nat} {x y : α} (hx : l[k]? = some x) (hy : y ∈ l.take (k + 1)) : y ∈ l.take k ∨ y = x := by
 rw [List.take_add_one, hx] at hy
 simpa using hy

end Go.Proofs.YtkgddcemocfgfaaGreatDoor
end

