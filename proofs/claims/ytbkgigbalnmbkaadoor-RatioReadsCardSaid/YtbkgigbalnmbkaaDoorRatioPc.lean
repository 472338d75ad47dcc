/- The contracts of dioramaref04.Make and ratio.Make. -/
import Derived.Test.YtbkgigbalnmbkaaDoorRatioPb
namespace Go.Proofs.YtbkgigbalnmbkaaDoor
open Go.RowKit
set_option linter.unusedVariables false
set_option maxRecDepth 100000

theorem size_rat (a b : Value) : (Tryd.prog.info? 23).map (·.size) = some #[a, b].size := by kernel_rfl
theorem results_cell_row_tmp {P : Program} {fn : Func} {p u : Tmp} {ty : TypeId} (h : fn.results = #[.cell p ty, .tmp u]) (tmps : Array Value) (w : World) (g : Nat) (t : TypeId) (cs : Array Value) (fr : Nat × Nat) (d : TypeDesc)
    (hp : tmps.getD p undef = .pointer (some ⟨g, 0, none⟩)) (hg : w.heap[g]? = some (.cells cs t fr))
    (hu : P.underlying ty = some d) (hd : (match d with | .struct _ | .array _ _ => true | _ => false) = true) (hi : (P.info? ty).map (·.size) = some cs.size) :
    (results fn tmps).run P w = .ok (.tuple #[.agg cs, tmps.getD u undef]) w := by
  rw [results_cell_tmp h, hp]
  simp [asAddr, run_loadVar_row w g t ty cs fr d hg hu hd hi]

theorem mk_quo {p q : Int} {a b : Nat} (h0 : ¬ q = 0) (ha : a = p.natAbs / Nat.gcd p.natAbs q.natAbs) (hb : b = q.natAbs / Nat.gcd p.natAbs q.natAbs) :
    Rt.mk p q = if 2147483648 < a ∨ 2147483648 < b then (0, 0, 5) else (if (p < 0 ∧ 0 < q) ∨ (0 < p ∧ q < 0) then -(a : Int) else (a : Int), (b : Int), 0) := by
  unfold Rt.mk
  rw [if_neg h0, ← ha, ← hb]

/-- The quotient of two numbers without a sign. -/
theorem quo_nat (A g : Nat) (h : A < 18446744073709551616) : IntKind.u64.wrap ((A : Int) / (g : Int)) = ((A / g : Nat) : Int) := by
  have : A / g ≤ A := Nat.div_le_self _ _
  rw [show (A : Int) / (g : Int) = ((A / g : Nat) : Int) by rfl, IntKind.wrap_u64]
  generalize A / g = k at *
  omega
theorem t3_eq (x y e : Int) (t : Rt.Tri) (h : t = (x, y, e)) : Ending.returned (.tuple #[.agg #[.int .i64 x, .int .i64 y], .int .i64 e]) = .returned (T3 t) := by subst h; rfl

set_option maxHeartbeats 4000000 in
theorem refMake_any (p q : Int) (w : World) (hp : In64 p) (hq : In64 q) :
    Calls Tryd.prog 11 #[.int .i64 p, .int .i64 q] w (Says (T3 (Rt.mk p q)) w) := by
  obtain ⟨p1, p2⟩ := hp
  obtain ⟨q1, q2⟩ := hq
  by_cases h0 : q = 0
  · subst h0
    rw [Rt.mk_zero]
    go_enter Tryd.func11, Tryd.ntmps11
    go_wp2_with fail
    exact bodyPost_ret (results_cell_row_tmp rfl _ _ w.heap.size 23 _ (0, 0) _ rfl (heap_alloc_new w _) Tryd.underlying23 rfl (size_rat _ _)) rfl ⟨rfl, (Below.refl _ _).alloc (Nat.le_refl _) _⟩
  · obtain ⟨a, ha⟩ : ∃ a, a = p.natAbs / Nat.gcd p.natAbs q.natAbs := ⟨_, rfl⟩
    obtain ⟨b, hb⟩ : ∃ b, b = q.natAbs / Nat.gcd p.natAbs q.natAbs := ⟨_, rfl⟩
    have hg0 : ¬ (((Nat.gcd p.natAbs q.natAbs : Nat) : Int) = 0) := by
      have : 0 < Nat.gcd p.natAbs q.natAbs := Nat.gcd_pos_of_pos_right _ (by omega)
      omega
    rw [mk_quo h0 ha hb]
    have ea := quo_nat p.natAbs (Nat.gcd p.natAbs q.natAbs) (by omega)
    have eb := quo_nat q.natAbs (Nat.gcd p.natAbs q.natAbs) (by omega)
    rw [← ha] at ea
    rw [← hb] at eb
    clear ha hb
    by_cases hbig : 2147483648 < a ∨ 2147483648 < b
    · rw [if_pos hbig]
      go_enter Tryd.func11, Tryd.ntmps11
      go_wp2_with (first | (go_at_call 33; refine (size_any _ _ ⟨by omega, by omega⟩).mono ?_; rintro e w' ⟨rfl, rfl⟩) | (go_at_call 32; refine (common_any _ _ _ (by omega) (by omega)).mono ?_; rintro e w' ⟨rfl, rfl⟩))
      all_goals first | (exfalso; go_light; omega) | exact bodyPost_ret (results_cell_row_tmp rfl _ _ w.heap.size 23 _ (0, 0) _ rfl (heap_alloc_new w _) Tryd.underlying23 rfl (size_rat _ _)) rfl ⟨rfl, (Below.refl _ _).alloc (Nat.le_refl _) _⟩
    · rw [if_neg hbig]
      obtain ⟨t, ht⟩ : ∃ t : Rt.Tri, t = (if (p < 0 ∧ 0 < q) ∨ (0 < p ∧ q < 0) then -(a : Int) else (a : Int), (b : Int), 0) := ⟨_, rfl⟩
      rw [← ht]
      have HT := Lib.hid ht
      clear ht
      have wa : wrap64 (a : Int) = a := IntWalk.wrap64_in _ (by omega)
      have wb : wrap64 (b : Int) = b := IntWalk.wrap64_in _ (by omega)
      have wn : wrap64 (-(a : Int)) = -(a : Int) := IntWalk.wrap64_in _ (by omega)
      go_enter Tryd.func11, Tryd.ntmps11
      go_wp2_with (first | (go_at_call 33; refine (size_any _ _ ⟨by omega, by omega⟩).mono ?_; rintro e w' ⟨rfl, rfl⟩) | (go_at_call 32; refine (common_any _ _ _ (by omega) (by omega)).mono ?_; rintro e w' ⟨rfl, rfl⟩))
      all_goals first | (exfalso; go_light; omega) | refine bodyPost_ret (results_cell_row_tmp rfl _ _ w.heap.size 23 _ (0, 0) _ rfl (heap_alloc_new w _) Tryd.underlying23 rfl (size_rat _ _)) rfl ⟨t3_eq _ _ _ _ ?_, (Below.refl _ _).alloc (Nat.le_refl _) _⟩
      all_goals (rw [HT.out]; clear HT; go_light; first | rfl | rw [if_pos (by omega)] | rw [if_neg (by omega)])
end Go.Proofs.YtbkgigbalnmbkaaDoor
