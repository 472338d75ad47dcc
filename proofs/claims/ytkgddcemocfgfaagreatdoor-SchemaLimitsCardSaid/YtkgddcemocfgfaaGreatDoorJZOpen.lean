import Derived.ProofKit
import Derived.OpenShut
import Derived.ShutString
import Derived.ChangeOld
import Derived.Deep.Slices
import Derived.SliceStrings
import Derived.SizedLaws
import Derived.Test.YtkgddcemocfgfaaGreatDoorJZShort

section
/- What comes in: slices of integers, bytes and strings. -/








namespace Go.Proofs.YtkgddcemocfgfaaGreatDoor
open Go.RowKit
set_option linter.unusedVariables false

/-- Rows in memory. -/
def Mem (W : World) (ps : List (Option Addr × List Value)) : Prop := ∀ p ∈ ps, Rd W W.heap.size p.1 p.2
theorem Mem.step {W W' : World} {ps : List (Option Addr × List Value)} (h : Mem W ps) (hb : Below W.heap.size W W') : Mem W' ps := fun p hp => ((h p hp).below hb).more hb.size
theorem Mem.one {W : World} {A : Option Addr} {l : List Value} (h : Rd W W.heap.size A l) : Mem W [(A, l)] := fun p hp => by
 rw [List.mem_singleton.1 hp]; exact h
theorem Mem.add {W : World} {ps : List (Option Addr × List Value)} {A : Option Addr} {l : List Value} (h : Mem W ps) (hr : Rd W W.heap.size A l) : Mem W ((A, l) :: ps) := fun p hp => by
 rcases List.mem_cons.1 hp with rfl | hp
 ·exact hr
 ·exact h p hp
theorem Rd.cellAt {w : World} {B b : Nat} {xs : List Value} (h : Rd w B (some ⟨b, 0, none⟩) xs) (j : Nat) (v : Value) (hv : xs[j]? = some v) : w.cell? ⟨b, j, none⟩ = some v := by
 have hn : 0 < xs.length := by have := (List.getElem?_eq_some_iff.1 hv).1; omega
 obtain ⟨b', off, e, _, hc⟩ := h hn
 simp only [Option.some.injEq, Addr.mk.injEq] at e
 obtain ⟨rfl, rfl, -⟩ := e
 have := hc j v hv
 rwa [Nat.zero_add] at this
theorem Rd.range {w : World} {B b : Nat} {xs : List Value} (h : Rd w B (some ⟨b, 0, none⟩) xs) : w.rangeAt b 0 xs := fun j v hv => by rw [Nat.zero_add]; exact h.cellAt j v hv
section
open Go.ChangeShapes
end
end Go.Proofs.YtkgddcemocfgfaaGreatDoor
end

