/- The contracts of calendar's eight functions, together. -/
import Derived.Test.YtkenfgifhebnpaaDoorCalPg
import Derived.Test.YtkenfgifhebnpaaDoorCalPh
import Derived.Test.YtkenfgifhebnpaaDoorCalPl
import Derived.Test.YtkenfgifhebnpaaDoorCalPo
namespace Go.Proofs.YtkenfgifhebnpaaDoor
open Go.RowKit
set_option linter.unusedVariables false

theorem calWeekday_any (n : Int) (w : World) (hn : M.I64 n) :
    Calls Tryd.prog 13 #[.int .i64 n] w fun e w' => e = .returned (.int .i64 (Cal.wk n)) ∧ Below w.heap.size w w' :=
  (calWeekday_same n w).mono fun e w' h => ⟨h.1, by rw [h.2]; exact Below.refl _ _⟩
end Go.Proofs.YtkenfgifhebnpaaDoor
