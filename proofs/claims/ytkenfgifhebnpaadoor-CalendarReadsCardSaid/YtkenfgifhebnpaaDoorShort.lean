/- The contract of dioramaref01.Short at any bound. -/
import Derived.Test.YtkenfgifhebnpaaDoorBase
namespace Go.Proofs.YtkenfgifhebnpaaDoor
open Go.RowKit
set_option linter.unusedVariables false
set_option maxRecDepth 100000

def shortAt (n : Nat) (s : ByteArray) : ByteArray := if s.size > n then s.extract 0 n else s
theorem shortAt_size (n : Nat) (s : ByteArray) : (shortAt n s).size ≤ n := by
  unfold shortAt
  split
  · simp; omega
  · omega
theorem shortAt_any (n : Nat) (s : ByteArray) (w : World) (hn : n ≤ 1000000) : Calls Tryd.prog 21 #[.string s, .int .i64 n] w fun e w' => e = .returned (.string (shortAt n s)) ∧ w' = w := by
  have h0 : (0 : Int) ≤ n := by omega
  unfold shortAt
  by_cases h : s.size > n
  · rw [if_pos h]
    have h1 : (n : Int) < s.size := by omega
    have h2 : (n : Int) ≤ s.size := by omega
    go_enter Tryd.func21, Tryd.ntmps21
    go_wp2_with fail
    go_ret
    exact ⟨rfl, rfl⟩
  · rw [if_neg h]
    have h1 : ¬ (n : Int) < s.size := by omega
    go_enter Tryd.func21, Tryd.ntmps21
    go_wp2_with fail
    go_ret
    exact ⟨rfl, rfl⟩
end Go.Proofs.YtkenfgifhebnpaaDoor
