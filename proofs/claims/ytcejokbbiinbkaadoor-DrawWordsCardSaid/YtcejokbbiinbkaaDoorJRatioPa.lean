import Derived.Deep.RegionWith
import Derived.WalkLawsBesides
import Derived.Deep.QuietTactic
import Derived.BigQuiet
import Derived.Below
import Derived.BigRegion
import Derived.Deep.DeepCutAuto
import Derived.Deep.Light
import Derived.Deep.LoopGhost
import Derived.Deep.MidRow
import Derived.Deep.WholeRow
import Derived.IntWalk
import Derived.Laws.BitsAll
import Derived.Laws.BitsAllLaws
import Derived.Laws.BytesArg
import Derived.Laws.EntriesVeiled
import Derived.Laws.ResultCell
import Derived.Laws.StructEq
import Derived.Lib.AppendStr
import Derived.Lib.ConvBytes
import Derived.Lib.Hide
import Derived.Lib.Slices
import Derived.Lib.Small
import Derived.Lib.Strings
import Derived.Lib.Walk
import Derived.Outline
import Derived.StillTailTactics
import Derived.WalkKit
import Derived.WalkSpells
import Derived.Test.YtcejokbbiinbkaaDoorJRatioCut
import Derived.Test.YtcejokbbiinbkaaDoorJShort
import Derived.Test.YtcejokbbiinbkaaDoorJVars
import Derived.Test.YtcejokbbiinbkaaDoorJWireW

section
/- A region that draws its order, where every operation yields one value in every world that is as it was below a block. -/





namespace Go.Proofs.YtcejokbbiinbkaaDoor
open Go.RowKit
set_option linter.unusedVariables false

/-- The worlds that are as w below block B. -/
def BelT (B : Nat) (w : World) : Type := { w' : World // Below B w w' }
def BelT.at {B : Nat} {w : World} (x : BelT B w) : World := x.val
theorem BelT.out {B : Nat} {w : World} (x : BelT B w) : Below B w x.at := x.property
theorem BelT.of {B : Nat} {w w' : World} (h : Below B w w') : ∃ x : BelT B w, w' = x.at := ⟨⟨w', h⟩, rfl⟩
instance {B : Nat} {w : World} : Nonempty (BelT B w) := ⟨⟨w, Below.refl _ _⟩⟩
/-- A region that draws its order, where every operation yields one value in every world that is as it was below B; a callee may make memory. -/
theorem wp_region_below {P : Program} {id : Nat} {Q : Exit → Act → World → Prop} {a : Act} {w : World} {l : List Oper} (B : Nat) (hm : P.follows .mixedOrders = true) (hB : Region.lexB .any l.toArray = true)
    (h : wpQuiet P l.toArray (fun w' => ∃ x : BelT B w, w' = x.at) (fun a' => ∀ w', (∃ x : BelT B w, w' = x.at) → Q .normal a' w') l a) : (Code.region id l.toArray true).wp P Q a w :=
  wp_region_quiet (C := fun w' => ∃ x : BelT B w, w' = x.at) hm hB (BelT.of ⟨rfl, rfl, rfl, Nat.le_refl _, fun _ _ => rfl⟩) (by simpa using h)

end Go.Proofs.YtcejokbbiinbkaaDoor
end

section
/- Words without a program's own functions: rows that read, blocks, what a call leaves, conversions of strings; for seats that hold neither wire nor hash (there WireW, WireG0, WireG1, HashBlk and Below0 say the same). -/


































namespace Go.Proofs.YtcejokbbiinbkaaDoor
open Go.RowKit
set_option linter.unusedVariables false


























end Go.Proofs.YtcejokbbiinbkaaDoor
end

section
/- Contracts of ratio.magnitude, dioramaref04.Size and dioramaref04.Common; the numbers of fractions as values. -/


namespace Go.Proofs.YtcejokbbiinbkaaDoor
open Go.RowKit
set_option linter.unusedVariables false
set_option maxRecDepth 100000

/-- A fraction as a value. -/
def Rv (P Q : Int) : Value := .agg #[.int .i64 P, .int .i64 Q]
/-- A fraction beside an error. -/
def T3 (t : Rt.Tri) : Value := .tuple #[Rv t.1 t.2.1, .int .i64 t.2.2]
/-- It answers v, and nothing that was there has changed. -/
def Says (v : Value) (w : World) (e : Ending) (w' : World) : Prop := e = .returned v ∧ Below w.heap.size w w'
def In64 (n : Int) : Prop := -9223372036854775808 ≤ n ∧ n ≤ 9223372036854775807

theorem u64_neg {n : Int} (h1 : -9223372036854775808 ≤ n) (h2 : n < 0) : (-(n % 18446744073709551616)) % 18446744073709551616 = (n.natAbs : Int) := by omega

set_option maxHeartbeats 4000000 in
theorem rmagnitude_any (n : Int) (w : World) (h : In64 n) : Calls Tryd.prog 44 #[.int .i64 n] w fun e w' => e = .returned (.int .u64 n.natAbs) ∧ w = w' := by
  obtain ⟨h1, h2⟩ := h
  go_enter Tryd.func44, Tryd.ntmps44
  go_wp2
  all_goals (go_ret; refine ⟨congrArg Ending.returned (congrArg (Value.int IntKind.u64) ?_), rfl⟩; go_light; (try simp only [IntKind.wrap_u64]); omega)

set_option maxHeartbeats 4000000 in
theorem size_any (n : Int) (w : World) (h : In64 n) : Calls Tryd.prog 60 #[.int .i64 n] w fun e w' => e = .returned (.int .u64 n.natAbs) ∧ w = w' := by
  obtain ⟨h1, h2⟩ := h
  go_enter Tryd.func60, Tryd.ntmps60
  go_wp2
  all_goals (go_ret; refine ⟨congrArg Ending.returned (congrArg (Value.int IntKind.u64) ?_), rfl⟩; go_light; (try simp only [IntKind.wrap_u64]); omega)

set_option maxHeartbeats 4000000 in
theorem common_any (A B : Nat) (w : World) (hA : A < 18446744073709551616) (hB : B < 18446744073709551616) :
    Calls Tryd.prog 59 #[.int .u64 A, .int .u64 B] w fun e w' => e = .returned (.int .u64 (Nat.gcd A B)) ∧ w = w' := by
  go_enter Tryd.func59, Tryd.ntmps59
  go_wp2_with fail
  go_loopw [0, 1, 5] (fun a b c wr => w = wr ∧ ∃ m n : Nat, a = .int .u64 m ∧ b = .int .u64 n ∧ Nat.gcd m n = Nat.gcd A B) (fun _ b _ _ => (intOf b).toNat)
  case atStart => exact ⟨rfl, A, B, rfl, rfl, rfl⟩
  case round =>
    obtain ⟨rfl, m, n, rfl, rfl, hg⟩ := hrel
    have HG := Lib.hid hg
    clear hg
    by_cases hn : n = 0
    · subst hn
      go_wp2_with fail
      go_ret
      have := HG.out
      rw [Nat.gcd_zero_right] at this
      subst this
      exact ⟨rfl, rfl⟩
    · have hn0 : ¬ ((n : Int) = 0) := by omega
      go_wp2_with fail
      have e : (m : Int) % (n : Int) = ((m % n : Nat) : Int) := by omega
      rw [e]
      refine ⟨⟨trivial, n, m % n, rfl, rfl, ?_⟩, ?_⟩
      · rw [← HG.out, Nat.gcd_comm n, ← Nat.gcd_rec, Nat.gcd_comm]
      · have := Nat.mod_lt m (show 0 < n by omega)
        simp [intOf]; omega
end Go.Proofs.YtcejokbbiinbkaaDoor
end

