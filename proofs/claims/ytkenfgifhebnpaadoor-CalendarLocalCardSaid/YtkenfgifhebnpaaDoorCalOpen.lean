/- An argument that is a zone: a struct of four ints. -/
import Derived.Test.YtkenfgifhebnpaaDoorOpen
import Derived.Lib.SmallJoins
namespace Go.Proofs.YtkenfgifhebnpaaDoor
open Go.RowKit
set_option linter.unusedVariables false
set_option maxRecDepth 100000

theorem open_zone {H : Type} {enc : TypeId × Value → H} {W : World} {r : Reach} {base b0 : Nat} {spare : Nat → Bool} {held : Bool} {v : Value} {d : DataW H} {ps : List MemPlace}
    (hval : Value.okWide Tryd.prog W r b0 39 v) (hd : DataW.Trod enc Tryd.prog W base spare held 39 v d ps) :
    ∃ o s f t : Int, M.I64 o ∧ M.I64 s ∧ M.I64 f ∧ M.I64 t ∧ v = .agg #[.int .i64 o, .int .i64 s, .int .i64 f, .int .i64 t] := by
  obtain ⟨v0, v1, v2, v3, y0, y1, y2, y3, n, rfl, -, -, h0, h1, h2, h3⟩ := Joins.open_agg4 Tryd.underlying39 (by kernel_rfl) (by kernel_rfl) hval hd
  obtain ⟨z0, e0, -, w0⟩ := DataW.trod_int Tryd.underlying3 h0
  obtain ⟨z1, e1, -, w1⟩ := DataW.trod_int Tryd.underlying3 h1
  obtain ⟨z2, e2, -, w2⟩ := DataW.trod_int Tryd.underlying3 h2
  obtain ⟨z3, e3, -, w3⟩ := DataW.trod_int Tryd.underlying3 h3
  refine ⟨z0, z1, z2, z3, bounds_i64 w0, bounds_i64 w1, bounds_i64 w2, bounds_i64 w3, ?_⟩
  have e0 : v0 = .int .i64 z0 := by simpa using e0
  have e1 : v1 = .int .i64 z1 := by simpa using e1
  have e2 : v2 = .int .i64 z2 := by simpa using e2
  have e3 : v3 = .int .i64 z3 := by simpa using e3
  rw [e0, e1, e2, e3]
end Go.Proofs.YtkenfgifhebnpaaDoor
