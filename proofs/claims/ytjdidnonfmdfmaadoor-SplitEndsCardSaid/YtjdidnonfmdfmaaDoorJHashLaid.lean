import Derived.Test.YtjdidnonfmdfmaaDoorRows
import Derived.ProofKit
import Derived.LaidMore
import Derived.OpenShut
import Derived.Test.YtjdidnonfmdfmaaDoorJHashC

section
/- The reference's table lies in memory. -/

namespace Go.Proofs.YtjdidnonfmdfmaaDoor
open Go.RowKit
set_option linter.unusedVariables false

/-- The reference's table. -/
def RTab (w : World) : Prop := ∀ k, k < 64 → w.cell? ⟨1, k, none⟩ = some (.int .u32 (nv (H.K k)))
theorem RTab.lt {w : World} (h : RTab w) : 1 < w.heap.size := block_lt_of_cell (h 0 (by omega))
theorem RTab.below {w w' : World} {B : Nat} (h : RTab w) (hb : Below B w w') (hB : w.heap.size ≤ B) : RTab w' := fun k hk =>
  (hb.cell (p := ⟨1, k, none⟩) (by have := h.lt; show 1 < B; omega)).trans (h k hk)
end Go.Proofs.YtjdidnonfmdfmaaDoor
end

section
/- What the listed tables say of the heap. -/





namespace Go.Proofs.YtjdidnonfmdfmaaDoor
open Go.ChangeShapes Go.WideShapes Go.ChangeAt Go.RowKit
set_option linter.unusedVariables false

theorem gH : Tryd.prog.globalNamed "diorama/hash.roundConstants" = some 0 := by kernel_rfl
theorem gR : Tryd.prog.globalNamed "diorama/dioramaref02.constants" = some 1 := by kernel_rfl
theorem tH : (Tryd.prog.globals[0]?).map (·.type) = some 101 := by kernel_rfl
theorem tR : (Tryd.prog.globals[1]?).map (·.type) = some 101 := by kernel_rfl
def constsD (U : Type) : DataW U := .agg ((List.range 64).map fun k => .lit (.int .u32 (nv (H.K k))))
theorem datumH : (Rows.laid_diorama_hash_roundConstants : DataW Unit) = constsD Unit := by kernel_rfl
theorem datumR : (Rows.laid_diorama_dioramaref02_constants : DataW Unit) = constsD Unit := by kernel_rfl

theorem table_cells {U : Type} {enc : TypeId × Value → U} {P : Program} {w : World} {base fuel n : Nat} {spare : Nat → Bool} {held : Bool} {t e : TypeId} {cs : List Value} {x : DataW U × List MemPlace} {q : IntKind}
    (ht : P.underlying t = some (.array n e)) (he : P.underlying e = some (.int q)) (hc : P.cellsOf e = 1) (hct : P.cellsOf t = n) (h : DataW.trod enc P w base spare held fuel t cs = some x) (z : Nat → Int) (hx : x.1 = .agg ((List.range n).map fun k => .lit (.int q (z k)))) :
    ∀ k, k < n → cs[k]? = some (.int q (z k)) := by
  obtain ⟨xs, m, rfl, rfl, hlen, hn, hel⟩ := DataW.trod_array ht h
  intro k hk
  have h1 := hel k hk
  rw [hc, Nat.mul_one, List.getElem?_eq_getElem (by omega)] at h1
  obtain ⟨r, e1, e2, -⟩ := DataW.trod_int he h1
  have h2 : (xs.map (·.1))[k]? = ((List.range n).map fun k => DataW.lit (.int q (z k)))[k]? := by
    simp only [DataW.agg.injEq] at hx
    rw [hx]
  rw [List.getElem?_map, List.getElem?_map, List.getElem?_eq_getElem (by omega), List.getElem?_range hk] at h2
  simp only [Option.map_some, Option.some.injEq] at h2
  rw [e2] at h2
  have hr : r = z k := by simpa using h2
  have h3 : (List.take 1 (List.drop k cs))[0]? = some (.int q r) := by rw [e1]; rfl
  rw [List.getElem?_take_of_lt (by omega), List.getElem?_drop, Nat.add_zero] at h3
  rw [h3, hr]

theorem of_laid1 {W : World} (h : laidMetH Tryd.prog [("diorama/hash.roundConstants", Rows.laid_diorama_hash_roundConstants)] W) : HTab W := by
  rw [MakeChecks.laidMetH_plain _ _ _ (by kernel_rfl)] at h
  obtain ⟨ps, ⟨g0, t0, cs0, f0, p0, q0, hg0, ht0, hv0, hd0, _, _⟩, _, _⟩ := h
  obtain rfl := Option.some.inj (gH.symm.trans hg0)
  obtain rfl := Option.some.inj (tH.symm.trans ht0)
  intro k hk
  rw [World.var?_cell hg0 hv0 k]
  have := table_cells Tryd.underlying101 Tryd.underlying81 (by kernel_rfl) (by kernel_rfl) hd0 (fun k => nv (H.K k)) (by exact datumH) k hk
  rwa [Array.getElem?_toList] at this
theorem of_laid2 {W : World} (h : laidMetH Tryd.prog [("diorama/dioramaref02.constants", Rows.laid_diorama_dioramaref02_constants), ("diorama/hash.roundConstants", Rows.laid_diorama_hash_roundConstants)] W) : RTab W ∧ HTab W := by
  rw [MakeChecks.laidMetH_plain _ _ _ (by kernel_rfl)] at h
  obtain ⟨ps, ⟨g0, t0, cs0, f0, p0, q0, hg0, ht0, hv0, hd0, ⟨g1, t1, cs1, f1, p1, q1, hg1, ht1, hv1, hd1, _, _⟩, _⟩, _, _⟩ := h
  obtain rfl := Option.some.inj (gR.symm.trans hg0)
  obtain rfl := Option.some.inj (tR.symm.trans ht0)
  obtain rfl := Option.some.inj (gH.symm.trans hg1)
  obtain rfl := Option.some.inj (tH.symm.trans ht1)
  refine ⟨fun k hk => ?_, fun k hk => ?_⟩
  · rw [World.var?_cell hg0 hv0 k]
    have := table_cells Tryd.underlying101 Tryd.underlying81 (by kernel_rfl) (by kernel_rfl) hd0 (fun k => nv (H.K k)) (by exact datumR) k hk
    rwa [Array.getElem?_toList] at this
  · rw [World.var?_cell hg1 hv1 k]
    have := table_cells Tryd.underlying101 Tryd.underlying81 (by kernel_rfl) (by kernel_rfl) hd1 (fun k => nv (H.K k)) (by exact datumH) k hk
    rwa [Array.getElem?_toList] at this

theorem door_met1 (os : Os) (args : Array Value) : laidMetH Tryd.prog [("diorama/hash.roundConstants", Rows.laid_diorama_hash_roundConstants)] ((World.doorLaid Tryd.prog 400 os).forCall (fun _ _ => 0) ⟨#[], args, []⟩).memory :=
  laidMetH_of_parts3 (fuel := 8) (laidMet_of_run' 8 (by kernel_rfl) (by kernel_rfl)) (by kernel_rfl) (by kernel_rfl)
theorem door_met2 (os : Os) (args : Array Value) : laidMetH Tryd.prog [("diorama/dioramaref02.constants", Rows.laid_diorama_dioramaref02_constants), ("diorama/hash.roundConstants", Rows.laid_diorama_hash_roundConstants)] ((World.doorLaid Tryd.prog 400 os).forCall (fun _ _ => 0) ⟨#[], args, []⟩).memory :=
  laidMetH_of_parts3 (fuel := 8) (laidMet_of_run' 8 (by kernel_rfl) (by kernel_rfl)) (by kernel_rfl) (by kernel_rfl)
theorem door_shaped (os : Os) (args : Array Value) : ((World.doorLaid Tryd.prog 400 os).forCall (fun _ _ => 0) ⟨#[], args, []⟩).Shaped Tryd.prog := World.shaped_of_RefB (by kernel_rfl) (by kernel_rfl)
end Go.Proofs.YtjdidnonfmdfmaaDoor
end

