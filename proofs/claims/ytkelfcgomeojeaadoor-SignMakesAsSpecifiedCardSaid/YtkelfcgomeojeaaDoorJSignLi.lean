import Derived.Test.YtkelfcgomeojeaaDoorJSignLh
import Derived.Test.YtkelfcgomeojeaaDoorJWireK0

section
/- An argument that is an array of two ints. -/


namespace Go.Proofs.YtkelfcgomeojeaaDoor
open Go.RowKit
set_option linter.unusedVariables false

theorem open_ints2 {H : Type} {enc : TypeId × Value → H} {P : Program} {W : World} {r : Reach} {base b0 : Nat} {spare : Nat → Bool} {held : Bool} {t e : TypeId} {v : Value} {d : DataW H} {ps : List MemPlace}
    (ht : P.underlying t = some (.array 2 e)) (he : P.underlying e = some (.int .i64)) (hc : P.cellsOf e = 1) (hct : P.cellsOf t = 2) (hval : Value.okWide P W r b0 t v) (hd : DataW.Trod enc P W base spare held t v d ps) :
    ∃ x y : Int, M.I64 x ∧ M.I64 y ∧ v = .agg #[.int .i64 x, .int .i64 y] := by
  simp only [Value.okWide, ht] at hval
  obtain ⟨cs, rfl, -, -⟩ := hval
  obtain ⟨fuel, hf⟩ := hd
  obtain ⟨xs, m, -, -, hl, hxl, hx⟩ := DataW.trod_array ht hf
  rw [hct] at hl
  have key : ∀ i, i < 2 → ∃ z : Int, M.I64 z ∧ cs.toList[i]? = some (.int .i64 z) := by
    intro i hi
    have h1 := hx i hi
    rw [hc, Nat.mul_one, List.getElem?_eq_getElem (by omega)] at h1
    obtain ⟨z, hz, -, hw⟩ := DataW.trod_int he h1
    refine ⟨z, bounds_i64 hw, ?_⟩
    have := congrArg (fun l : List Value => l[0]?) hz
    simpa [Value.cells, List.getElem?_take, List.getElem?_drop] using this
  obtain ⟨x, h1, h2⟩ := key 0 (by decide)
  obtain ⟨y, h3, h4⟩ := key 1 (by decide)
  refine ⟨x, y, h1, h3, ?_⟩
  have hl2 : cs.toList.length = 2 := by simpa [Value.cells] using hl
  obtain ⟨cs⟩ := cs
  match cs, hl2, h2, h4 with
  | [u, v], _, h2, h4 =>
    have h2' : u = .int .i64 x := by simpa using h2
    have h4' : v = .int .i64 y := by simpa using h4
    rw [h2', h4']
end Go.Proofs.YtkelfcgomeojeaaDoor
end

