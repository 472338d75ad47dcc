/- The contract of dioramaref01.Around. -/
import Derived.Test.YtbkgigbalnmbkaaDoorRatioPb
namespace Go.Proofs.YtbkgigbalnmbkaaDoor
open Go.RowKit
set_option linter.unusedVariables false
set_option maxRecDepth 100000

/-- A number from 0 to k - 1. -/
def aro (n k : Int) : Int := if k < 1 then 0 else (if n < 0 then -(n + 1) else n) % k
theorem aro_bounds {n k : Int} (hk : 1 ≤ k) : 0 ≤ aro n k ∧ aro n k < k := by
  unfold aro
  rw [if_neg (by omega)]
  exact ⟨Int.emod_nonneg _ (by omega), Int.emod_lt_of_pos _ (by omega)⟩
theorem aro_in {n k : Int} (hk : In64 k) : In64 (aro n k) := by
  obtain ⟨h1, h2⟩ := hk
  by_cases h : k < 1
  · unfold aro; rw [if_pos h]; exact ⟨by decide, by decide⟩
  · have := aro_bounds (n := n) (k := k) (by omega)
    exact ⟨by omega, by omega⟩

set_option maxHeartbeats 4000000 in
theorem around_any (n k : Int) (w : World) (hn : In64 n) (hk : In64 k) : Calls Tryd.prog 19 #[.int .i64 n, .int .i64 k] w fun e w' => e = .returned (.int .i64 (aro n k)) ∧ w' = w := by
  obtain ⟨n1, n2⟩ := hn
  obtain ⟨k1, k2⟩ := hk
  obtain ⟨t, ht⟩ : ∃ t, t = aro n k := ⟨_, rfl⟩
  rw [← ht]
  have HT := Lib.hid ht
  clear ht
  by_cases h1 : n < 0
  · obtain ⟨m, hm, m1, m2⟩ : ∃ m, m = -(n + 1) ∧ 0 ≤ m ∧ m ≤ 9223372036854775807 := ⟨_, rfl, by omega, by omega⟩
    have e1 : wrap64 (n + 1) = n + 1 := IntWalk.wrap64_in _ (by omega)
    have e2 : wrap64 (-(n + 1)) = m := by rw [← hm]; exact IntWalk.wrap64_in _ (by omega)
    have HM := Lib.hid hm
    clear hm
    by_cases h2 : k < 1
    · go_enter Tryd.func19, Tryd.ntmps19
      go_wp2
      go_ret
      exact ⟨congrArg Ending.returned (congrArg (Value.int IntKind.i64) (by rw [HT.out]; unfold aro; rw [if_pos h2])), rfl⟩
    · have hk0 : ¬ k = 0 := by omega
      go_enter Tryd.func19, Tryd.ntmps19
      go_wp2
      go_ret
      refine ⟨congrArg Ending.returned (congrArg (Value.int IntKind.i64) ?_), rfl⟩
      rw [HT.out]; unfold aro; rw [if_neg (by omega), if_pos h1, ← HM.out]
      rw [← Int.neg_tmod, ← HM.out, Int.tmod_eq_emod_of_nonneg m1]
  · by_cases h2 : k < 1
    · go_enter Tryd.func19, Tryd.ntmps19
      go_wp2
      go_ret
      exact ⟨congrArg Ending.returned (congrArg (Value.int IntKind.i64) (by rw [HT.out]; unfold aro; rw [if_pos h2])), rfl⟩
    · have hk0 : ¬ k = 0 := by omega
      go_enter Tryd.func19, Tryd.ntmps19
      go_wp2
      go_ret
      refine ⟨congrArg Ending.returned (congrArg (Value.int IntKind.i64) ?_), rfl⟩
      rw [HT.out]; unfold aro; rw [if_neg (by omega), if_neg (by omega)]
end Go.Proofs.YtbkgigbalnmbkaaDoor
