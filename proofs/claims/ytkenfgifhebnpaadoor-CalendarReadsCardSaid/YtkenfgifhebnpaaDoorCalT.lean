/- Strings in drawn regions, for a seat without ratio's functions. -/
import Derived.Test.YtkenfgifhebnpaaDoorCalL1
import Derived.Test.YtkenfgifhebnpaaDoorCalRl
import Derived.Test.YtkenfgifhebnpaaDoorShort
import Derived.Test.YtkenfgifhebnpaaDoorFacts
import Derived.Test.YtkenfgifhebnpaaDoorStrs
namespace Go.Proofs.YtkenfgifhebnpaaDoor
open Go.RowKit
set_option linter.unusedVariables false
set_option maxRecDepth 100000

theorem run_upto (s : ByteArray) (k : Nat) (hk : k ≤ s.size) (t : TypeId) (W : World) : (Instr.slice 9 (.string s) none (some (.int .i64 (k : Int))) none).run Tryd.prog W = .ok (.string (bs ((sb s).take k))) W := by
  rw [← extract_take]
  have h1 : (k : Int) ≤ s.size := by omega
  have h0 : (0 : Int) ≤ k := by omega
  go_simp
theorem run_from (s : ByteArray) (k : Nat) (hk : k ≤ s.size) (W : World) : (Instr.slice 9 (.string s) (some (.int .i64 (k : Int))) none none).run Tryd.prog W = .ok (.string (bs ((sb s).drop k))) W := by
  rw [← extract_drop]
  have h1 : (k : Int) ≤ s.size := by omega
  have h0 : (0 : Int) ≤ k := by omega
  go_simp
end Go.Proofs.YtkenfgifhebnpaaDoor
