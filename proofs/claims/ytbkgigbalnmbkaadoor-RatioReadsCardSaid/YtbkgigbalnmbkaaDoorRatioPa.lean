/- Contracts of ratio.magnitude, dioramaref04.Size and dioramaref04.Common; the numbers of fractions as values. -/
import Derived.Test.YtbkgigbalnmbkaaDoorBase
import Derived.Test.YtbkgigbalnmbkaaDoorRatioCut
namespace Go.Proofs.YtbkgigbalnmbkaaDoor
open Go.RowKit
set_option linter.unusedVariables false
set_option maxRecDepth 100000

/-- A fraction as a value. -/
def Rv (P Q : Int) : Value := .agg #[.int .i64 P, .int .i64 Q]
/-- A fraction beside an error. -/
def T3 (t : Rt.Tri) : Value := .tuple #[Rv t.1 t.2.1, .int .i64 t.2.2]
/-- It answers v, and nothing that was there has changed. -/
def Says (v : Value) (w : World) (e : Ending) (w' : World) : Prop := e = .returned v ∧ Below w.heap.size w w'
def In64 (n : Int) : Prop := -9223372036854775808 ≤ n ∧ n ≤ 9223372036854775807

theorem u64_neg {n : Int} (h1 : -9223372036854775808 ≤ n) (h2 : n < 0) : (-(n % 18446744073709551616)) % 18446744073709551616 = (n.natAbs : Int) := by omega

set_option maxHeartbeats 4000000 in
theorem magnitude_any (n : Int) (w : World) (h : In64 n) : Calls Tryd.prog 30 #[.int .i64 n] w fun e w' => e = .returned (.int .u64 n.natAbs) ∧ w = w' := by
  obtain ⟨h1, h2⟩ := h
  go_enter Tryd.func30, Tryd.ntmps30
  go_wp2
  all_goals (go_ret; refine ⟨congrArg Ending.returned (congrArg (Value.int IntKind.u64) ?_), rfl⟩; go_light; (try simp only [IntKind.wrap_u64]); omega)

set_option maxHeartbeats 4000000 in
theorem size_any (n : Int) (w : World) (h : In64 n) : Calls Tryd.prog 33 #[.int .i64 n] w fun e w' => e = .returned (.int .u64 n.natAbs) ∧ w = w' := by
  obtain ⟨h1, h2⟩ := h
  go_enter Tryd.func33, Tryd.ntmps33
  go_wp2
  all_goals (go_ret; refine ⟨congrArg Ending.returned (congrArg (Value.int IntKind.u64) ?_), rfl⟩; go_light; (try simp only [IntKind.wrap_u64]); omega)

set_option maxHeartbeats 4000000 in
theorem common_any (A B : Nat) (w : World) (hA : A < 18446744073709551616) (hB : B < 18446744073709551616) :
    Calls Tryd.prog 32 #[.int .u64 A, .int .u64 B] w fun e w' => e = .returned (.int .u64 (Nat.gcd A B)) ∧ w = w' := by
  go_enter Tryd.func32, Tryd.ntmps32
  go_wp2_with fail
  go_loopw [0, 1, 5] (fun a b c wr => w = wr ∧ ∃ m n : Nat, a = .int .u64 m ∧ b = .int .u64 n ∧ Nat.gcd m n = Nat.gcd A B) (fun _ b _ _ => (intOf b).toNat)
  case atStart => exact ⟨rfl, A, B, rfl, rfl, rfl⟩
  case round =>
    obtain ⟨rfl, m, n, rfl, rfl, hg⟩ := hrel
    have HG := Lib.hid hg
    clear hg
    by_cases hn : n = 0
    · subst hn
      go_wp2_with fail
      go_ret
      have := HG.out
      rw [Nat.gcd_zero_right] at this
      subst this
      exact ⟨rfl, rfl⟩
    · have hn0 : ¬ ((n : Int) = 0) := by omega
      go_wp2_with fail
      have e : (m : Int) % (n : Int) = ((m % n : Nat) : Int) := by omega
      rw [e]
      refine ⟨⟨trivial, n, m % n, rfl, rfl, ?_⟩, ?_⟩
      · rw [← HG.out, Nat.gcd_comm n, ← Nat.gcd_rec, Nat.gcd_comm]
      · have := Nat.mod_lt m (show 0 < n by omega)
        simp [intOf]; omega
end Go.Proofs.YtbkgigbalnmbkaaDoor
