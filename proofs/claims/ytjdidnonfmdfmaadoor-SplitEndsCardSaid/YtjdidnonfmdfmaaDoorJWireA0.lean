import Derived.Test.YtjdidnonfmdfmaaDoorProg
import Derived.WalkKit
import Derived.Lib.Hide
import Derived.Outline
import Derived.Lib.Strings
import Derived.Lib.Slices
import Derived.Lib.Small
import Derived.Lib.Walk
import Derived.Deep.Light
import Derived.Test.YtjdidnonfmdfmaaDoorJWireMath

section
/- The contract of wire.magnitude: what it returns; the world is as it was. -/










namespace Go.Proofs.YtjdidnonfmdfmaaDoor
open Go.RowKit

theorem ret_int {k : IntKind} {a b : Int} (h : a = b) : Ending.returned (.int k a) = .returned (.int k b) := by rw [h]

theorem magnitude_any (n : Int) (w : World) (h : M.I64 n) :
    Calls Tryd.prog 65 #[.int .i64 n] w fun e w' => e = .returned (.int .u64 (M.mag n)) ∧ w = w' := by
  obtain ⟨h0, h1⟩ := h
  by_cases hn : n < 0
  · have hm : (M.mag n : Int) = -1 - n := by unfold M.mag; rw [if_pos hn]; omega
    go_enter Tryd.func65, Tryd.ntmps65
    go_wp2
    go_ret
    exact ⟨ret_int (by omega), rfl⟩
  · have hm : (M.mag n : Int) = n := by unfold M.mag; rw [if_neg hn]; omega
    go_enter Tryd.func65, Tryd.ntmps65
    go_wp2
    go_ret
    exact ⟨ret_int (by omega), rfl⟩

end Go.Proofs.YtjdidnonfmdfmaaDoor
end

