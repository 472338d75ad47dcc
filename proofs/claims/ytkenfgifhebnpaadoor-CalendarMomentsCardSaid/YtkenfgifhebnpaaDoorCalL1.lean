/- The law's examples on days hold. -/
import Derived.Test.YtkenfgifhebnpaaDoorCalL0
import Derived.Deep.QuietTactic
import Derived.BigQuiet
namespace Go.Proofs.YtkenfgifhebnpaaDoor
open Go.RowKit
set_option linter.unusedVariables false
set_option maxRecDepth 100000

set_option maxHeartbeats 8000000 in
theorem calLives_any (w : World) (hD : CDoor w) : Calls Tryd.prog 20 #[] w (Tells true w) := by
  have HD := Lib.hid hD
  clear hD
  go_enter Tryd.func20, Tryd.ntmps20
  go_wp2_with fail
  refine (ex1 _ HD.out).mono ?_
  rintro e w1 ⟨rfl, hb⟩
  have B1 := Lib.hid hb
  clear hb
  go_wp2_with fail
  obtain ⟨v2, h2⟩ := ex2 w1 (HD.out.below B1.out (Nat.le_refl _))
  refine h2.mono ?_
  rintro e w2 ⟨rfl, hb⟩
  have B2 := Lib.hid (B1.out.trans (hb.mono B1.out.size))
  clear hb h2 B1
  go_wp2_with fail
  refine (ex3 _ (HD.out.below B2.out (Nat.le_refl _))).mono ?_
  rintro e w3 ⟨rfl, hb⟩
  have B3 := Lib.hid (B2.out.trans (hb.mono B2.out.size))
  clear hb B2
  go_wp2_with fail
  refine (ex4 _ (HD.out.below B3.out (Nat.le_refl _))).mono ?_
  rintro e w4 ⟨rfl, hb⟩
  have B4 := Lib.hid (B3.out.trans (hb.mono B3.out.size))
  clear hb B3
  go_wp2_with fail
  refine (ex5 _).mono ?_
  rintro e w5 ⟨rfl, hb⟩
  have B5 := Lib.hid (B4.out.trans (hb.mono B4.out.size))
  clear hb B4
  go_wp2_with fail
  refine (ex6 _).mono ?_
  rintro e w6 ⟨rfl, hb⟩
  have B6 := Lib.hid (B5.out.trans (hb.mono B5.out.size))
  clear hb B5
  go_wp2_with fail
  refine (ex7 w6 _ rfl).mono ?_
  rintro e w7 ⟨rfl, hb⟩
  have B7 := Lib.hid ((B6.out.alloc B6.out.size (.cells #[.int .i64 2] 3)).trans (hb.mono (by have := B6.out.size; simp; omega)))
  clear hb B6
  go_wp2_with fail
  obtain ⟨WZ, hWZ⟩ : ∃ WZ, WZ = w7.alloc (.cells #[.int .i64 60, .int .i64 60, .int .i64 90, .int .i64 300] 39) := ⟨_, rfl⟩
  have hz : Blk WZ w7.heap.size [.int .i64 60, .int .i64 60, .int .i64 90, .int .i64 300] 39 := by rw [hWZ]; exact Blk.new w7 _ _
  have B8 := Lib.hid (show Below w.heap.size w WZ by rw [hWZ]; exact B7.out.alloc B7.out.size _)
  rw [← hWZ]
  clear hWZ B7
  refine (ex8 _).mono ?_
  rintro e w8 ⟨v8, rfl, hown, hb⟩
  obtain ⟨A8, c8, rfl, -, -, -⟩ := own_rd (B := 0) hown
  have hz2 := hz.below hb hz.lt
  have B9 := Lib.hid (B8.out.trans (hb.mono B8.out.size))
  have z0 := hz2.cell 0 _ rfl
  have z1 := hz2.cell 1 _ rfl
  have z2 := hz2.cell 2 _ rfl
  have z3 := hz2.cell 3 _ rfl
  clear hz hz2 hb hown B8
  go_wp2_with fail
  clear z0 z1 z2 z3
  obtain ⟨L9, hL9, h9⟩ := ex9 w8
  refine h9.mono ?_
  rintro e w9 ⟨v9, rfl, hown, hb⟩
  obtain ⟨A9, c9, rfl, -, -, -⟩ := own_rd (B := 0) hown
  rw [hL9]
  have B10 := Lib.hid (B9.out.trans (hb.mono B9.out.size))
  clear hb hown h9 B9 hL9
  go_wp2_with fail
  refine (ex10 _).mono ?_
  rintro e wa ⟨rfl, hb⟩
  have B11 := Lib.hid (B10.out.trans (hb.mono B10.out.size))
  clear hb B10
  go_wp2_with fail
  refine (ex11 _ (HD.out.below B11.out (Nat.le_refl _))).mono ?_
  rintro e wb ⟨rfl, hb⟩
  have B12 := Lib.hid (B11.out.trans (hb.mono B11.out.size))
  clear hb B11
  go_wp2_with fail
  go_ret
  exact ⟨rfl, B12.out⟩
end Go.Proofs.YtkenfgifhebnpaaDoor
