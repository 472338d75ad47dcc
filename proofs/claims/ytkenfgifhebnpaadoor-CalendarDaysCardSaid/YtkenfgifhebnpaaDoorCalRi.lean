/- The contracts of the reference's Proper and Local. -/
import Derived.Test.YtkenfgifhebnpaaDoorCalRd
namespace Go.Proofs.YtkenfgifhebnpaaDoor
open Go.RowKit
set_option linter.unusedVariables false
set_option maxRecDepth 100000

/-- A zone: its offset, its summer time, from which day, to which day. -/
def proper (o s f t : Int) : Prop := (-900 ≤ o ∧ o ≤ 900) ∧ (0 ≤ s ∧ s ≤ 120) ∧ 1 ≤ f ∧ f ≤ t ∧ t ≤ 367
instance (o s f t : Int) : Decidable (proper o s f t) := by unfold proper; exact inferInstance
def zc (o s f t : Int) : List Value := [.int .i64 o, .int .i64 s, .int .i64 f, .int .i64 t]
/-- The minute, by the zone's clock; whether its day has summer time. -/
noncomputable def clock (m o s f t : Int) : Int :=
  if f ≤ (m + o) / 1440 - Cal.dayV (Cal.cy ((m + o) / 1440)) 1 1 + 1 ∧ (m + o) / 1440 - Cal.dayV (Cal.cy ((m + o) / 1440)) 1 1 + 1 ≤ t - 1 then m + o + s else m + o
/-- Why there is no local time. -/
noncomputable def localE (m o s f t : Int) : Int :=
  if ¬ proper o s f t then 1 else if m < -1000000000 ∨ m > 1000000000 then 5 else if ¬ Cal.known ((m + o) / 1440) then 5 else if ¬ Cal.known (clock m o s f t / 1440) then 5 else 0
noncomputable def localD (m o s f t : Int) : Int := if localE m o s f t = 0 then clock m o s f t / 1440 else 0
noncomputable def localM (m o s f t : Int) : Int := if localE m o s f t = 0 then clock m o s f t % 1440 else 0

set_option maxHeartbeats 4000000 in
theorem proper_any (o s f t : Int) (w : World) :
    Calls Tryd.prog 52 #[.agg #[.int .i64 o, .int .i64 s, .int .i64 f, .int .i64 t]] w fun e w' => e = .returned (.bool (decide (proper o s f t))) ∧ Below w.heap.size w w' := by
  obtain ⟨r, hr⟩ : ∃ r, r = decide (proper o s f t) := ⟨_, rfl⟩
  rw [← hr]
  by_cases out : o < -900 ∨ (¬ o < -900 ∧ 900 < o) ∨ (¬ o < -900 ∧ ¬ 900 < o ∧ s < 0) ∨ (¬ o < -900 ∧ ¬ 900 < o ∧ ¬ s < 0 ∧ 120 < s)
  · have hf : r = false := by rw [hr]; apply decide_eq_false; unfold proper; omega
    clear hr
    subst hf
    rcases out with h | ⟨h1, h⟩ | ⟨h1, h2, h⟩ | ⟨h1, h2, h3, h⟩
    all_goals
      go_enter Tryd.func52, Tryd.ntmps52
      go_wp2_with fail
      go_ret
      exact ⟨rfl, (Below.refl _ _).alloc (Nat.le_refl _) _⟩
  · have h1 : ¬ o < -900 := by omega
    have h2 : ¬ 900 < o := by omega
    have h3 : ¬ s < 0 := by omega
    have h4 : ¬ 120 < s := by omega
    by_cases x1 : 1 ≤ f
    · by_cases x2 : f ≤ t
      · by_cases x3 : t ≤ 367
        · have hf : r = true := by rw [hr]; apply decide_eq_true; unfold proper; omega
          clear hr out
          subst hf
          go_enter Tryd.func52, Tryd.ntmps52
          go_wp2_with fail
          go_ret
          exact ⟨rfl, (Below.refl _ _).alloc (Nat.le_refl _) _⟩
        · have hf : r = false := by rw [hr]; apply decide_eq_false; unfold proper; omega
          clear hr out
          subst hf
          go_enter Tryd.func52, Tryd.ntmps52
          go_wp2_with fail
          go_ret
          exact ⟨rfl, (Below.refl _ _).alloc (Nat.le_refl _) _⟩
      · have hf : r = false := by rw [hr]; apply decide_eq_false; unfold proper; omega
        clear hr out
        subst hf
        go_enter Tryd.func52, Tryd.ntmps52
        go_wp2_with fail
        go_ret
        exact ⟨rfl, (Below.refl _ _).alloc (Nat.le_refl _) _⟩
    · have hf : r = false := by rw [hr]; apply decide_eq_false; unfold proper; omega
      clear hr out
      subst hf
      go_enter Tryd.func52, Tryd.ntmps52
      go_wp2_with fail
      go_ret
      exact ⟨rfl, (Below.refl _ _).alloc (Nat.le_refl _) _⟩
end Go.Proofs.YtkenfgifhebnpaaDoor
