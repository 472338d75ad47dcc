/- The contract of dioramaref01.Short, and what the texts of RatioReads are made of. -/
import Derived.Test.YtbkgigbalnmbkaaDoorRatioSc
import Derived.Test.YtbkgigbalnmbkaaDoorRatioPp
import Derived.Test.YtbkgigbalnmbkaaDoorRatioPm
namespace Go.Proofs.YtbkgigbalnmbkaaDoor
open Go.RowKit
set_option linter.unusedVariables false
set_option maxRecDepth 100000

def shortOf (s : ByteArray) : ByteArray := if s.size > 30 then s.extract 0 30 else s
theorem shortOf_size (s : ByteArray) : (shortOf s).size ≤ 30 := by
  unfold shortOf
  split
  · simp; omega
  · omega
theorem short_any (s : ByteArray) (w : World) : Calls Tryd.prog 20 #[.string s, .int .i64 30] w fun e w' => e = .returned (.string (shortOf s)) ∧ Below w.heap.size w w' := by
  unfold shortOf
  by_cases h : s.size > 30
  · rw [if_pos h]
    have h1 : (30 : Int) < s.size := by omega
    have h2 : 30 ≤ s.size := by omega
    go_enter Tryd.func20, Tryd.ntmps20
    go_wp2_with fail
    go_ret
    exact ⟨rfl, Below.refl _ _⟩
  · rw [if_neg h]
    have h1 : ¬ (30 : Int) < s.size := by omega
    go_enter Tryd.func20, Tryd.ntmps20
    go_wp2_with fail
    go_ret
    exact ⟨rfl, Below.refl _ _⟩
theorem run_upto (s : ByteArray) (k : Nat) (hk : k ≤ s.size) (t : TypeId) (W : World) : (Instr.slice 9 (.string s) none (some (.int .i64 (k : Int))) none).run Tryd.prog W = .ok (.string (bs ((sb s).take k))) W := by
  rw [← extract_take]
  have h1 : (k : Int) ≤ s.size := by omega
  have h0 : (0 : Int) ≤ k := by omega
  go_simp
theorem run_from (s : ByteArray) (k : Nat) (hk : k ≤ s.size) (W : World) : (Instr.slice 9 (.string s) (some (.int .i64 (k : Int))) none none).run Tryd.prog W = .ok (.string (bs ((sb s).drop k))) W := by
  rw [← extract_drop]
  have h1 : (k : Int) ≤ s.size := by omega
  have h0 : (0 : Int) ≤ k := by omega
  go_simp
end Go.Proofs.YtbkgigbalnmbkaaDoor
