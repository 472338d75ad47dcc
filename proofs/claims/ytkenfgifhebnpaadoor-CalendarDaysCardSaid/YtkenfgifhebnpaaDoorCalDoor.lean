/- What the program's table of months and the library's table of powers hold; what a row that lists them says. -/
import Derived.Test.YtkenfgifhebnpaaDoorRows
import Derived.Test.YtkenfgifhebnpaaDoorBase
import Derived.Test.YtkenfgifhebnpaaDoorCalMath
import Derived.Lib.LaidTab
import Derived.Lib.ItoaNum
import Derived.Stop.LaidErr
import Derived.ProofKit
import Derived.LaidMore
import Derived.OpenShut
namespace Go.Proofs.YtkenfgifhebnpaaDoor
open Go.RowKit
set_option linter.unusedVariables false
set_option maxRecDepth 100000

/-- The days of the months of a year of 365 days, as the table has them. -/
def mlT : Array Int := #[31, 28, 31, 30, 31, 30, 31, 31, 30, 31, 30, 31]
/-- The variables that the package and the library read. -/
def CDoor (w : World) : Prop := Lib.TabIs Tryd.prog w "internal/strconv.uint64pow10" .u64 Lib.pow10Tab ∧ ∀ k, k < 12 → w.cell? ⟨0, k, none⟩ = some (.int .i64 (mlT.getD k 0))

theorem cgT : Tryd.prog.globalNamed "internal/strconv.uint64pow10" = some 1 := by kernel_rfl
theorem cgL : Tryd.prog.globalNamed "diorama/calendar.lengths" = some 0 := by kernel_rfl
theorem cvar_below {n : String} {g : Nat} {cs : Array Value} {w w' : World} {B : Nat} (hg : Tryd.prog.globalNamed n = some g) (h : w.var? Tryd.prog n = some cs) (hb : Below B w w') (hB : w.heap.size ≤ B) : w'.var? Tryd.prog n = some cs := by
  unfold World.var? at h ⊢
  rw [hg] at h ⊢
  simp only [Option.bind_some] at h ⊢
  have hlt : g < w.heap.size := by
    apply Decidable.byContradiction
    intro hn
    rw [Array.getElem?_eq_none (by omega)] at h
    simp at h
  rw [hb.block g (by omega)]
  exact h
theorem CDoor.below {w w' : World} {B : Nat} (h : CDoor w) (hb : Below B w w') (hB : w.heap.size ≤ B) : CDoor w' := by
  refine ⟨cvar_below cgT h.1 hb hB, fun k hk => ?_⟩
  have hlt : 0 < w.heap.size := block_lt_of_cell (h.2 0 (by omega))
  exact (hb.cell (p := ⟨0, k, none⟩) (by show 0 < B; omega)).trans (h.2 k hk)

theorem ctT : (Tryd.prog.globals[1]?).map (·.type) = some 82 := by kernel_rfl
theorem ctL : (Tryd.prog.globals[0]?).map (·.type) = some 71 := by kernel_rfl
theorem cdatumT : (Rows.laid_internal_strconv_uint64pow10 : DataW Unit) = Lib.tabData .u64 Lib.pow10Tab := by kernel_rfl
def lensD (U : Type) : DataW U := .agg ((List.range 12).map fun k => .lit (.int .i64 (mlT.getD k 0)))
theorem cdatumL : (Rows.laid_diorama_calendar_lengths : DataW Unit) = lensD Unit := by kernel_rfl

theorem ctable_cells {U : Type} {enc : TypeId × Value → U} {P : Program} {w : World} {base fuel n : Nat} {spare : Nat → Bool} {held : Bool} {t e : TypeId} {cs : List Value} {x : DataW U × List MemPlace} {q : IntKind}
    (ht : P.underlying t = some (.array n e)) (he : P.underlying e = some (.int q)) (hc : P.cellsOf e = 1) (hct : P.cellsOf t = n) (h : DataW.trod enc P w base spare held fuel t cs = some x) (z : Nat → Int) (hx : x.1 = .agg ((List.range n).map fun k => .lit (.int q (z k)))) :
    ∀ k, k < n → cs[k]? = some (.int q (z k)) := by
  obtain ⟨xs, m, rfl, rfl, hlen, hn, hel⟩ := DataW.trod_array ht h
  intro k hk
  have h1 := hel k hk
  rw [hc, Nat.mul_one, List.getElem?_eq_getElem (by omega)] at h1
  obtain ⟨r, e1, e2, -⟩ := DataW.trod_int he h1
  have h2 : (xs.map (·.1))[k]? = ((List.range n).map fun k => DataW.lit (.int q (z k)))[k]? := by
    simp only [DataW.agg.injEq] at hx
    rw [hx]
  rw [List.getElem?_map, List.getElem?_map, List.getElem?_eq_getElem (by omega), List.getElem?_range hk] at h2
  simp only [Option.map_some, Option.some.injEq] at h2
  rw [e2] at h2
  have hr : r = z k := by simpa using h2
  have h3 : (List.take 1 (List.drop k cs))[0]? = some (.int q r) := by rw [e1]; rfl
  rw [List.getElem?_take_of_lt (by omega), List.getElem?_drop, Nat.add_zero] at h3
  rw [h3, hr]

abbrev cLaidList : List (String × DataW Unit) := [("math/bits.deBruijn32tab", Rows.laid_math_bits_deBruijn32tab), ("math/bits.deBruijn64tab", Rows.laid_math_bits_deBruijn64tab), ("internal/strconv.uint64pow10", Rows.laid_internal_strconv_uint64pow10), ("diorama/calendar.lengths", Rows.laid_diorama_calendar_lengths)]
theorem of_laid {W : World} (h : laidMetH Tryd.prog cLaidList W) : CDoor W := by
  rw [MakeChecks.laidMetH_plain _ _ _ (by kernel_rfl)] at h
  have h3 := h.tail.tail
  rw [cdatumT] at h3
  refine ⟨Lib.tabIs_of_head cgT ctT Tryd.underlying82 Tryd.underlying76 (by kernel_rfl) (by kernel_rfl) h3, ?_⟩
  obtain ⟨ps, ⟨g0, t0, cs0, f0, p0, q0, hg0, ht0, hv0, hd0, _, _⟩, _, _⟩ := h.tail.tail.tail
  obtain rfl := Option.some.inj (cgL.symm.trans hg0)
  obtain rfl := Option.some.inj (ctL.symm.trans ht0)
  intro k hk
  rw [World.var?_cell hg0 hv0 k]
  have := ctable_cells Tryd.underlying71 Tryd.underlying3 (by kernel_rfl) (by kernel_rfl) hd0 (fun k => mlT.getD k 0) (by exact cdatumL) k hk
  rwa [Array.getElem?_toList] at this
theorem door_met (os : Os) (args : Array Value) : laidMetH Tryd.prog cLaidList ((World.doorLaid Tryd.prog 400 os).forCall (fun _ _ => 0) ⟨#[], args, []⟩).memory :=
  laidMetH_of_parts3 (fuel := 8) (laidMet_of_run' 8 (by kernel_rfl) (by kernel_rfl)) (by kernel_rfl) (by kernel_rfl)
theorem door_shaped (os : Os) (args : Array Value) : ((World.doorLaid Tryd.prog 400 os).forCall (fun _ _ => 0) ⟨#[], args, []⟩).Shaped Tryd.prog := World.shaped_of_RefB (by kernel_rfl) (by kernel_rfl)
end Go.Proofs.YtkenfgifhebnpaaDoor
