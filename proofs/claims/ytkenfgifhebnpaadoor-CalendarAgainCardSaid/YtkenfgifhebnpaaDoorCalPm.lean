/- The contract of slices.Compact at two ints. -/
import Derived.Test.YtkenfgifhebnpaaDoorCalPa
import Derived.Lib.SliceRun
import Derived.Deep.QuietTactic
import Derived.BigQuiet
namespace Go.Proofs.YtkenfgifhebnpaaDoor
open Go.RowKit
set_option linter.unusedVariables false
set_option maxRecDepth 100000

/-- What is left of two numbers in a row of their own. -/
def Two (a b : Int) (g : Nat) (w : World) (e : Ending) (w' : World) : Prop :=
  (a ≠ b ∧ e = .returned (.slice (some ⟨g, 0, none⟩) 2 2) ∧ Below g w w' ∧ Blk w' g [.int .i64 a, .int .i64 b] 3) ∨
  (a = b ∧ e = .returned (.slice (some ⟨g, 0, none⟩) 1 2) ∧ Below g w w' ∧ Blk w' g [.int .i64 a, .int .i64 0] 3)
set_option maxHeartbeats 4000000 in
theorem compact2_ne (a b : Int) (g : Nat) (w : World) (hk : Blk w g [.int .i64 a, .int .i64 b] 3) (hab : a ≠ b) :
    Calls Tryd.prog 54 #[.slice (some ⟨g, 0, none⟩) 2 2] w (Two a b g w) := by
  have HK := Lib.hid hk
  have HN := Lib.hid hab
  have hba : ¬ b = a := fun h => hab h.symm
  have hbb : (b == a) = false := beq_eq_false_iff_ne.2 hba
  have hg := hk.lt
  have c0 := hk.cell 0 _ rfl
  have c1 := hk.cell 1 _ rfl
  clear hk hab
  go_enter Tryd.func54, Tryd.ntmps54
  go_wp2_with fail
  go_loopw [3] (fun i wr => (i = .int .i64 1 ∨ i = .int .i64 2) ∧ ∃ n, wr = w.drewN n) (fun i _ => 2 - (intOf i).toNat)
  case atStart => exact ⟨.inl rfl, 0, rfl⟩
  case round =>
    obtain ⟨hi, n, rfl⟩ := hrel
    rcases hi with rfl | rfl
    · go_wp2_with fail
      go_quiet (fail)
      go_wp2_with fail
      exact ⟨⟨.inr rfl, _, rfl⟩, by simp [intOf]⟩
    · go_wp2_with fail
      go_ret
      exact .inl ⟨HN.out, rfl, (drewN_below (Below.refl _ _) _), HK.out.drewN _⟩
set_option maxHeartbeats 4000000 in
theorem compact2_eq (a : Int) (g : Nat) (w : World) (hk : Blk w g [.int .i64 a, .int .i64 a] 3) :
    Calls Tryd.prog 54 #[.slice (some ⟨g, 0, none⟩) 2 2] w (Two a a g w) := by
  have HK := Lib.hid hk
  have hg := hk.lt
  have c0 := hk.cell 0 _ rfl
  have c1 := hk.cell 1 _ rfl
  have f1 := hk.frozen 1
  clear hk
  go_enter Tryd.func54, Tryd.ntmps54
  go_wp2_with fail
  go_loopw [3] (fun i wr => i = .int .i64 1 ∧ w = wr) (fun i _ => 0)
  case atStart => exact ⟨rfl, rfl⟩
  case round =>
    obtain ⟨rfl, rfl⟩ := hrel
    go_wp2_with fail
    go_quiet (fail)
    go_wp2_with fail
    clear c0 c1 f1
    obtain ⟨wo, hwo⟩ : ∃ wo, wo = w.drewN nq := ⟨_, rfl⟩
    have hb : Below g w wo := by rw [hwo]; exact drewN_below (Below.refl _ _) _
    have hko : Blk wo g [.int .i64 a, .int .i64 a] 3 := by rw [hwo]; exact HK.out.drewN _
    rw [← hwo]
    have HB := Lib.hid (And.intro hb hko)
    clear hb hko hwo HK
    go_loopw [3, 5] (fun k i wr => k = .int .i64 1 ∧ i = .int .i64 1 ∧ wo = wr) (fun _ i _ => 0)
    case atStart => exact ⟨rfl, rfl, rfl⟩
    case round =>
      obtain ⟨rfl, rfl, rfl⟩ := hrel
      have hcl : ∀ ty, (Builtin.clear_ #[23] ty #[.slice (some ⟨g, 1, none⟩) 1 1]).run Tryd.prog wo = .ok (.tuple #[]) (wo.setCells g 1 (List.replicate 1 (.int .i64 0))) := fun ty =>
        Lib.run_clear_slice wo 23 3 ty (.int .i64 0) Tryd.underlying23 (fun _ => rfl) rfl rfl g 1 1 1 (by decide)
          (fun j hj => by rw [show 1 + j = 1 by omega, HB.out.2.cell 1 _ rfl]; rfl) (fun j hj => by rw [show 1 + j = 1 by omega]; exact HB.out.2.frozen 1)
      go_wp2_with fail
      go_ret
      refine .inr ⟨rfl, rfl, ?_, ?_⟩
      · exact below_setCells g (Nat.le_refl _) _ _ _ HB.out.1
      · exact HB.out.2.set 1 (.int .i64 0)
theorem compact2_any (a b : Int) (g : Nat) (w : World) (hk : Blk w g [.int .i64 a, .int .i64 b] 3) :
    Calls Tryd.prog 54 #[.slice (some ⟨g, 0, none⟩) 2 2] w (Two a b g w) := by
  by_cases h : a = b
  · subst h; exact compact2_eq a g w hk
  · exact compact2_ne a b g w hk h
end Go.Proofs.YtkenfgifhebnpaaDoor
