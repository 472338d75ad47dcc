/- Operations of a guarded region, run by themselves: equality of arrays of bytes, of strings, of Booleans; a pick. -/
import Derived.Test.YtmlnpnlajgnohaaDoorHashEq
import Derived.Test.YtmlnpnlajgnohaaDoorGuards
namespace Go.Proofs.YtmlnpnlajgnohaaDoor
open Go.RowKit
set_option linter.unusedVariables false

theorem run_eql_sum (X Y : Operand) (C D : List UInt8) (hC : C.length = 32) (hD : D.length = 32) (w : World) :
    (do eqGuard .eql 24 X Y (.agg (C.map bv).toArray) (.agg (D.map bv).toArray); binOp .eql 24 (.agg (C.map bv).toArray) (.agg (D.map bv).toArray) : Sem Value).run Tryd.prog w = .ok (.bool (decide (C = D))) w := by
  have h := eq_sum C D hC hD w
  have hg : Tryd.prog.eqGuardType Tryd.prog.depth 24 = false := by kernel_rfl
  go_simp
theorem run_eql_dig (X Y : Operand) (C D : List UInt8) (hC : C.length = 16) (hD : D.length = 16) (w : World) :
    (do eqGuard .eql 44 X Y (.agg (C.map bv).toArray) (.agg (D.map bv).toArray); binOp .eql 44 (.agg (C.map bv).toArray) (.agg (D.map bv).toArray) : Sem Value).run Tryd.prog w = .ok (.bool (decide (C = D))) w := by
  have h := eq_dig C D hC hD w
  have hg : Tryd.prog.eqGuardType Tryd.prog.depth 44 = false := by kernel_rfl
  go_simp
theorem run_eql_str (X Y : Operand) (s t : ByteArray) (w : World) :
    (do eqGuard .eql 9 X Y (.string s) (.string t); binOp .eql 9 (.string s) (.string t) : Sem Value).run Tryd.prog w = .ok (.bool (decide (s = t))) w := by
  have h : (s.toList == t.toList) = decide (s = t) := by
    rw [Lib.toList_data, Lib.toList_data, Bool.eq_iff_iff]
    simp only [beq_iff_eq, decide_eq_true_iff]
    constructor
    · intro h; apply ByteArray.ext; exact Array.toList_inj.1 h
    · rintro rfl; rfl
  go_simp
theorem runs_pick {R : Value → World → Prop} {o : Oper} {b : Act} {w : World} {x y z : Operand} (ho : o.op = .pick x y z) (c : Bool) (hc : b.eval x = .bool c) (h : R (if c then b.eval y else b.eval z) w) : Runs Tryd.prog R ((execOp b.eval o).run Tryd.prog w) := by
  unfold execOp
  simp only [ho, hc, Sem.run_bind, Sem.run_pure]
  exact h
end Go.Proofs.YtmlnpnlajgnohaaDoor
