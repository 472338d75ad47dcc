/- The law's own and plain; what the examples on days answer. -/
import Derived.Test.YtkenfgifhebnpaaDoorCalP
import Derived.Test.YtkenfgifhebnpaaDoorCalLv
namespace Go.Proofs.YtkenfgifhebnpaaDoor
open Go.RowKit
set_option linter.unusedVariables false
set_option maxRecDepth 100000

def zv (o s f t : Int) : Value := .agg #[.int .i64 o, .int .i64 s, .int .i64 f, .int .i64 t]
theorem own_any (o s f t : Int) (w : World) : Calls Tryd.prog 24 #[.agg #[.int .i64 o, .int .i64 s, .int .i64 f, .int .i64 t]] w fun e w' => e = .returned (.agg #[.int .i64 o, .int .i64 s, .int .i64 f, .int .i64 t]) ∧ Below w.heap.size w w' := by
  go_enter Tryd.func24, Tryd.ntmps24
  go_wp2_with fail
  exact bodyPost_ret (results_cell_row rfl _ _ (w.heap.size + 1) 39 #[.int .i64 o, .int .i64 s, .int .i64 f, .int .i64 t] (0, 0) _ rfl (by simpa using heap_alloc_new (w.alloc (.cells #[.int .i64 o, .int .i64 s, .int .i64 f, .int .i64 t] 41)) (.cells #[.int .i64 o, .int .i64 s, .int .i64 f, .int .i64 t] 39)) Tryd.underlying39 rfl (by kernel_rfl)) rfl
    ⟨rfl, ((Below.refl _ _).alloc (Nat.le_refl _) _).alloc (by simp) _⟩
theorem plain_any (o s f t : Int) (w : World) : Calls Tryd.prog 28 #[.agg #[.int .i64 o, .int .i64 s, .int .i64 f, .int .i64 t]] w fun e w' => e = .returned (.agg #[.int .i64 o, .int .i64 s, .int .i64 f, .int .i64 t]) ∧ Below w.heap.size w w' := by
  go_enter Tryd.func28, Tryd.ntmps28
  go_wp2_with fail
  exact bodyPost_ret (results_cell_row rfl _ _ (w.heap.size + 1) 41 #[.int .i64 o, .int .i64 s, .int .i64 f, .int .i64 t] (0, 0) _ rfl (by simpa using heap_alloc_new (w.alloc (.cells #[.int .i64 o, .int .i64 s, .int .i64 f, .int .i64 t] 39)) (.cells #[.int .i64 o, .int .i64 s, .int .i64 f, .int .i64 t] 41)) Tryd.underlying41 rfl (by kernel_rfl)) rfl
    ⟨rfl, ((Below.refl _ _).alloc (Nat.le_refl _) _).alloc (by simp) _⟩

theorem small64 (n : Int) (h1 : -1000000 ≤ n) (h2 : n ≤ 1000000) : M.I64 n := by unfold M.I64; omega
theorem ex1 (W : World) (hD : CDoor W) : Calls Tryd.prog 18 #[.int .i64 2000, .int .i64 2, .int .i64 29] W fun e w' => e = .returned (.tuple #[.int .i64 59, .int .i64 0]) ∧ Below W.heap.size W w' := by
  have c := calDay_any 2000 2 29 W (small64 _ (by decide) (by decide)) (small64 _ (by decide) (by decide)) (small64 _ (by decide) (by decide)) hD
  rw [day1.1, day1.2] at c
  exact c
theorem ex2 (W : World) (hD : CDoor W) : ∃ v : Int, Calls Tryd.prog 18 #[.int .i64 1900, .int .i64 2, .int .i64 29] W fun e w' => e = .returned (.tuple #[.int .i64 v, .int .i64 5]) ∧ Below W.heap.size W w' := by
  have c := calDay_any 1900 2 29 W (small64 _ (by decide) (by decide)) (small64 _ (by decide) (by decide)) (small64 _ (by decide) (by decide)) hD
  rw [day2] at c
  exact ⟨_, c⟩
theorem ex3 (W : World) (hD : CDoor W) : Calls Tryd.prog 11 #[.int .i64 (-1)] W fun e w' => e = .returned (.tuple #[.int .i64 1999, .int .i64 12, .int .i64 31]) ∧ Below W.heap.size W w' := by
  have c := calCivil_any (-1) W (small64 _ (by decide) (by decide)) hD
  rw [civ3.1, civ3.2.1, civ3.2.2] at c
  exact c
theorem ex4 (W : World) (hD : CDoor W) : Calls Tryd.prog 22 #[.string ⟨#[50, 48, 50, 52, 45, 48, 55, 45, 48, 52]⟩] W fun e w' => e = .returned (.tuple #[.int .i64 8951, .int .i64 0]) ∧ Below W.heap.size W w' := by
  have c := calParse_any ⟨#[50, 48, 50, 52, 45, 48, 55, 45, 48, 52]⟩ W hD
  rw [show sb ⟨#[50, 48, 50, 52, 45, 48, 55, 45, 48, 52]⟩ = [50, 48, 50, 52, 45, 48, 55, 45, 48, 52] from rfl, read5.1, read5.2] at c
  exact c
theorem ex5 (W : World) : Calls Tryd.prog 26 #[.int .i64 0, .agg #[.int .i64 (-60), .int .i64 0, .int .i64 1, .int .i64 1]] W fun e w' => e = .returned (.tuple #[.int .i64 (-1), .int .i64 1380, .int .i64 0]) ∧ Below W.heap.size W w' := by
  have c := calLocal_any 0 (-60) 0 1 1 W (small64 _ (by decide) (by decide)) (small64 _ (by decide) (by decide)) (small64 _ (by decide) (by decide)) (small64 _ (by decide) (by decide)) (small64 _ (by decide) (by decide))
  rw [local6.1, local6.2.1, local6.2.2] at c
  exact c
theorem ex6 (W : World) : Calls Tryd.prog 32 #[.int .i64 0, .int .i64 1, .slice none 0 0] W fun e w' => e = .returned (.tuple #[.int .i64 2, .int .i64 0]) ∧ Below W.heap.size W w' := by
  have c := calWork_any 0 1 none 0 [] W (small64 _ (by decide) (by decide)) (small64 _ (by decide) (by decide)) Rd.nil (by decide) (Nat.le_refl _) (Nat.zero_le _) (fun n h => by cases h)
  rw [work7] at c
  exact c
theorem ex7 (W W' : World) (h : W' = W.alloc (.cells #[.int .i64 2] 3)) : Calls Tryd.prog 32 #[.int .i64 0, .int .i64 1, .slice (some ⟨W.heap.size, 0, none⟩) 1 1] W' fun e w' => e = .returned (.tuple #[.int .i64 3, .int .i64 0]) ∧ Below W'.heap.size W' w' := by
  have c := calWork_any 0 1 (some ⟨W.heap.size, 0, none⟩) 1 [2] W' (small64 _ (by decide) (by decide)) (small64 _ (by decide) (by decide)) (by rw [h]; exact rd_new W [iv 2] _) (by decide) (Nat.le_refl _) (by unfold maxLen; omega) (fun n hn => by rw [List.mem_singleton.1 hn]; exact small64 _ (by decide) (by decide))
  rw [work8] at c
  exact c
theorem ex8 (W : World) : Calls Tryd.prog 29 #[.int .i64 89, .int .i64 30, .agg #[.int .i64 60, .int .i64 60, .int .i64 90, .int .i64 300]] W (RowE [] 0 W) := by
  have c := calMoments_any 89 30 60 60 90 300 W (small64 _ (by decide) (by decide)) (small64 _ (by decide) (by decide)) (small64 _ (by decide) (by decide)) (small64 _ (by decide) (by decide)) (small64 _ (by decide) (by decide)) (small64 _ (by decide) (by decide))
  rw [mom10.1, mom10.2] at c
  exact c
theorem ex9 (W : World) : ∃ L : List Int, L.length = 2 ∧ Calls Tryd.prog 29 #[.int .i64 299, .int .i64 0, .agg #[.int .i64 60, .int .i64 60, .int .i64 90, .int .i64 300]] W (RowE L 0 W) := by
  have c := calMoments_any 299 0 60 60 90 300 W (small64 _ (by decide) (by decide)) (small64 _ (by decide) (by decide)) (small64 _ (by decide) (by decide)) (small64 _ (by decide) (by decide)) (small64 _ (by decide) (by decide)) (small64 _ (by decide) (by decide))
  rw [mom11.2] at c
  exact ⟨_, mom11.1, c⟩
theorem ex10 (W : World) : Calls Tryd.prog 13 #[.int .i64 (-1)] W fun e w' => e = .returned (.int .i64 4) ∧ Below W.heap.size W w' := by
  have c := calWeekday_any (-1) W (small64 _ (by decide) (by decide))
  rw [show Cal.wk (-1) = 4 by decide] at c
  exact c
theorem ex11 (W : World) (hD : CDoor W) : Calls Tryd.prog 15 #[.int .i64 366] W fun e w' => e = .returned (.string ⟨#[50, 48, 48, 49, 45, 48, 49, 45, 48, 49]⟩) ∧ Below W.heap.size W w' := by
  have c := calText_any 366 W (small64 _ (by decide) (by decide)) hD
  rw [text4] at c
  exact c
end Go.Proofs.YtkenfgifhebnpaaDoor
