/- An argument that is a fraction. -/
import Derived.Test.YtbkgigbalnmbkaaDoorBaseOpen
import Derived.Test.YtbkgigbalnmbkaaDoorRatioPf
import Derived.Lib.SmallJoins
namespace Go.Proofs.YtbkgigbalnmbkaaDoor
open Go.RowKit
set_option linter.unusedVariables false
set_option maxRecDepth 100000

theorem open_rat {H : Type} {enc : TypeId × Value → H} {W : World} {r : Reach} {base b0 : Nat} {spare : Nat → Bool} {held : Bool} {v : Value} {d : DataW H} {ps : List MemPlace}
    (hval : Value.okWide Tryd.prog W r b0 23 v) (hd : DataW.Trod enc Tryd.prog W base spare held 23 v d ps) :
    ∃ x y : Int, In64 x ∧ In64 y ∧ v = .agg #[.int .i64 x, .int .i64 y] := by
  obtain ⟨v0, v1, y0, y1, n, rfl, -, -, h0, h1⟩ := Joins.open_agg2 Tryd.underlying23 (by kernel_rfl) (by kernel_rfl) hval hd
  obtain ⟨z0, e0, -, w0⟩ := DataW.trod_int Tryd.underlying3 h0
  obtain ⟨z1, e1, -, w1⟩ := DataW.trod_int Tryd.underlying3 h1
  refine ⟨z0, z1, bounds_i64 w0, bounds_i64 w1, ?_⟩
  have e0 : v0 = .int .i64 z0 := by simpa using e0
  have e1 : v1 = .int .i64 z1 := by simpa using e1
  rw [e0, e1]
end Go.Proofs.YtbkgigbalnmbkaaDoor
