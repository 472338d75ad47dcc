/- A choice between two operands in a region that draws its order. -/
import Derived.Test.YtbkgigbalnmbkaaDoorFacts
namespace Go.Proofs.YtbkgigbalnmbkaaDoor
open Go.RowKit
set_option linter.unusedVariables false

theorem runs_pick {R : Value → World → Prop} {o : Oper} {b : Act} {w : World} {x y z : Operand} (ho : o.op = .pick x y z) (c : Bool) (hc : b.eval x = .bool c) (h : R (if c then b.eval y else b.eval z) w) : Runs Tryd.prog R ((execOp b.eval o).run Tryd.prog w) := by
  unfold execOp
  simp only [ho, hc, Sem.run_bind, Sem.run_pure]
  exact h
end Go.Proofs.YtbkgigbalnmbkaaDoor
