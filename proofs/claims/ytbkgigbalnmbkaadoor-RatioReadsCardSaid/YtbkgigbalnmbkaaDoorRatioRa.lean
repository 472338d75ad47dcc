/- The contracts of dioramaref04.Valid and dioramaref04.Den. -/
import Derived.Test.YtbkgigbalnmbkaaDoorRatioPj
import Derived.Test.YtbkgigbalnmbkaaDoorGuards
import Derived.Test.YtbkgigbalnmbkaaDoorPick
namespace Go.Proofs.YtbkgigbalnmbkaaDoor
open Go.RowKit
set_option linter.unusedVariables false
set_option maxRecDepth 100000

theorem ok_out {P Q : Int} (h0 : ¬ (P = 0 ∧ Q = 0)) (h : Q < 1 ∨ 2147483648 < Q ∨ P < -2147483648 ∨ 2147483648 < P) : ¬ Rt.Ok P Q := by
  rintro (h1 | h1)
  · exact h0 h1
  · omega
theorem ok_in {P Q : Int} (h : ¬ (Q < 1 ∨ 2147483648 < Q ∨ P < -2147483648 ∨ 2147483648 < P)) : Rt.Ok P Q ↔ Nat.gcd P.natAbs Q.natAbs = 1 := by
  constructor
  · rintro (h1 | h1)
    · omega
    · exact h1.2.2.2.2
  · intro h1; exact Or.inr ⟨by omega, by omega, by omega, by omega, h1⟩

set_option maxHeartbeats 4000000 in
theorem refValid_any (P Q : Int) (w : World) (hp : In64 P) (hq : In64 Q) :
    Calls Tryd.prog 13 #[Rv P Q] w (Says (.bool (decide (Rt.Ok P Q))) w) := by
  show Calls _ _ #[.agg #[.int .i64 P, .int .i64 Q]] _ _
  by_cases h0 : P = 0 ∧ Q = 0
  · obtain ⟨rfl, rfl⟩ := h0
    rw [decide_eq_true (show Rt.Ok 0 0 from Or.inl ⟨rfl, rfl⟩)]
    go_enter Tryd.func13, Tryd.ntmps13
    go_wp2_with fail
    go_ret
    exact ⟨rfl, (Below.refl _ _).alloc (Nat.le_refl _) _⟩
  · by_cases h1 : Q < 1 ∨ 2147483648 < Q ∨ P < -2147483648 ∨ 2147483648 < P
    · rw [decide_eq_false (ok_out h0 h1)]
      clear hp hq
      go_enter Tryd.func13, Tryd.ntmps13
      go_wp2_with fail
      all_goals first | (exfalso; go_light; omega) | (go_ret; exact ⟨rfl, (Below.refl _ _).alloc (Nat.le_refl _) _⟩)
    · by_cases hP : P = 0
      · subst hP
        obtain ⟨g, hg⟩ : ∃ g, g = Nat.gcd (0 : Int).natAbs Q.natAbs := ⟨_, rfl⟩
        rw [show decide (Rt.Ok 0 Q) = decide (g = 1) from decide_eq_decide.2 (by rw [hg]; exact ok_in h1)]
        have G1 := Lib.hid (fun W => size_any 0 W hp)
        have G2 := Lib.hid (fun W => size_any Q W hq)
        have G3 := Lib.hid (fun W => common_any (0 : Int).natAbs Q.natAbs W (by omega) (by omega))
        rw [← hg] at G3
        have K0 := Lib.hid (Blk.new w (Rc 0 Q) 23)
        obtain ⟨X, hX⟩ : ∃ X, X = (0 : Int).natAbs := ⟨_, rfl⟩
        obtain ⟨Y, hY⟩ : ∃ Y, Y = Q.natAbs := ⟨_, rfl⟩
        rw [← hX] at G1 G3
        rw [← hY] at G2 G3
        have B0 := Lib.hid ((Below.refl w.heap.size w).alloc (Nat.le_refl _) (.cells (Rc 0 Q).toArray 23))
        have q1 : ¬ Q < 1 := fun h => h1 (.inl h)
        have q2 : ¬ 2147483648 < Q := fun h => h1 (.inr (.inl h))
        have q3 : ¬ (0 : Int) < -2147483648 := fun h => h1 (.inr (.inr (.inl h)))
        have q4 : ¬ 2147483648 < (0 : Int) := fun h => h1 (.inr (.inr (.inr h)))
        have q5 : ¬ Q = 0 := by omega
        clear hp hq h0 hg hX hY h1
        go_enter Tryd.func13, Tryd.ntmps13
        go_wp2_with fail
        obtain ⟨W, hW⟩ : ∃ W, W = w.alloc (.cells (Rc 0 Q).toArray 23) := ⟨_, rfl⟩
        rw [show w.alloc (.cells #[.int .i64 0, .int .i64 Q] 23) = W from hW.symm]
        rw [← hW] at K0 B0
        clear hW q1 q2 q3 q4 q5
        refine wp_region_guarded [29, 30, 31, 32, 33, 34, 35, 36] [.is (.pointer (some ⟨w.heap.size, 0, none⟩)), .is (.int .i64 0), .is (.int .u64 (X : Int)), .is (.pointer (some ⟨w.heap.size, 1, none⟩)), .is (.int .i64 Q), .is (.int .u64 (Y : Int)), .is (.int .u64 (g : Int)), .is (.bool (decide (g = 1)))] (by kernel_rfl) (by kernel_rfl) ?_ ?_
        · intro i hi fb w' hb hd hx o ho
          match i, hi with
          | 0, _ =>
            obtain rfl := Option.some.inj ho
            have e : fb.tmps.getD 1 undef = .pointer (some ⟨w.heap.size, 0, none⟩) := hx 1 rfl
            have hr := run_field0 w' w.heap.size
            rw [← e] at hr
            exact runs_value rfl hr ⟨e, Below.refl _ _⟩
          | 1, _ =>
            obtain rfl := Option.some.inj ho
            have e : fb.tmps.getD 29 undef = .pointer (some ⟨w.heap.size, 0, none⟩) := hd 0 (by kernel_rfl) (by decide)
            have hr := run_load_int w' w.heap.size 0 0 ((K0.out.below hb K0.out.lt).cell 0 _ rfl)
            rw [← e] at hr
            exact runs_value rfl hr ⟨rfl, Below.refl _ _⟩
          | 2, _ =>
            obtain rfl := Option.some.inj ho
            dsimp only [Guarded]
            have e0 : fb.tmps.getD 30 undef = .int .i64 0 := hd 1 (by kernel_rfl) (by decide)
            refine runs_call rfl (fun _ _ => rfl) ?_
            show Calls _ _ #[fb.tmps.getD 30 undef] w' _
            rw [e0]
            refine (G1.out w').mono ?_
            rintro e w'' ⟨rfl, rfl⟩
            exact ⟨_, rfl, rfl, Below.refl _ _⟩
          | 3, _ =>
            obtain rfl := Option.some.inj ho
            have e : fb.tmps.getD 1 undef = .pointer (some ⟨w.heap.size, 0, none⟩) := hx 1 rfl
            have hr := run_field1 w' w.heap.size
            rw [← e] at hr
            exact runs_value rfl hr ⟨rfl, Below.refl _ _⟩
          | 4, _ =>
            obtain rfl := Option.some.inj ho
            have e : fb.tmps.getD 32 undef = .pointer (some ⟨w.heap.size, 1, none⟩) := hd 3 (by kernel_rfl) (by decide)
            have hr := run_load_int w' w.heap.size 1 Q ((K0.out.below hb K0.out.lt).cell 1 _ rfl)
            rw [← e] at hr
            exact runs_value rfl hr ⟨rfl, Below.refl _ _⟩
          | 5, _ =>
            obtain rfl := Option.some.inj ho
            dsimp only [Guarded]
            have e0 : fb.tmps.getD 33 undef = .int .i64 Q := hd 4 (by kernel_rfl) (by decide)
            refine runs_call rfl (fun _ _ => rfl) ?_
            show Calls _ _ #[fb.tmps.getD 33 undef] w' _
            rw [e0]
            refine (G2.out w').mono ?_
            rintro e w'' ⟨rfl, rfl⟩
            exact ⟨_, rfl, rfl, Below.refl _ _⟩
          | 6, _ =>
            obtain rfl := Option.some.inj ho
            dsimp only [Guarded]
            have e0 : fb.tmps.getD 31 undef = .int .u64 (X : Int) := hd 2 (by kernel_rfl) (by decide)
            have e1 : fb.tmps.getD 34 undef = .int .u64 (Y : Int) := hd 5 (by kernel_rfl) (by decide)
            refine runs_call rfl (fun _ _ => rfl) ?_
            show Calls _ _ #[fb.tmps.getD 31 undef, fb.tmps.getD 34 undef] w' _
            rw [e0, e1]
            refine (G3.out w').mono ?_
            rintro e w'' ⟨rfl, rfl⟩
            exact ⟨_, rfl, rfl, Below.refl _ _⟩
          | 7, _ =>
            obtain rfl := Option.some.inj ho
            have e0 : fb.tmps.getD 35 undef = .int .u64 (g : Int) := hd 6 (by kernel_rfl) (by decide)
            refine runs_value rfl ?_ ⟨rfl, Below.refl _ _⟩
            rw [show fb.eval (.tmp 35) = _ from e0]
            go_simp
            by_cases h5 : g = 1
            · rw [h5]; rfl
            · rw [decide_eq_false h5, beq_eq_false_iff_ne.2 (by omega)]
        · intro vals w' hb hf
          have e7 : vals 7 = .bool (decide (g = 1)) := hf 7 (by decide)
          simp only [puts, List.length_cons, List.length_nil, Nat.zero_add, Nat.reduceAdd, List.drop_succ_cons, List.drop_zero, e7]
          have B2 := Lib.hid (B0.out.trans (hb.mono B0.out.size))
          clear e7 hf hb B0 K0 G1 G2 G3
          go_frame
          go_wp2_with fail
          go_ret
          exact ⟨rfl, B2.out⟩
      · skip
        obtain ⟨g, hg⟩ : ∃ g, g = Nat.gcd (P : Int).natAbs Q.natAbs := ⟨_, rfl⟩
        rw [show decide (Rt.Ok P Q) = decide (g = 1) from decide_eq_decide.2 (by rw [hg]; exact ok_in h1)]
        have G1 := Lib.hid (fun W => size_any P W hp)
        have G2 := Lib.hid (fun W => size_any Q W hq)
        have G3 := Lib.hid (fun W => common_any (P : Int).natAbs Q.natAbs W (by omega) (by omega))
        rw [← hg] at G3
        have K0 := Lib.hid (Blk.new w (Rc P Q) 23)
        obtain ⟨X, hX⟩ : ∃ X, X = (P : Int).natAbs := ⟨_, rfl⟩
        obtain ⟨Y, hY⟩ : ∃ Y, Y = Q.natAbs := ⟨_, rfl⟩
        rw [← hX] at G1 G3
        rw [← hY] at G2 G3
        have B0 := Lib.hid ((Below.refl w.heap.size w).alloc (Nat.le_refl _) (.cells (Rc P Q).toArray 23))
        have q1 : ¬ Q < 1 := fun h => h1 (.inl h)
        have q2 : ¬ 2147483648 < Q := fun h => h1 (.inr (.inl h))
        have q3 : ¬ (P : Int) < -2147483648 := fun h => h1 (.inr (.inr (.inl h)))
        have q4 : ¬ 2147483648 < (P : Int) := fun h => h1 (.inr (.inr (.inr h)))
        have q5 : ¬ Q = 0 := by omega
        clear hp hq h0 hg hX hY h1
        go_enter Tryd.func13, Tryd.ntmps13
        go_wp2_with fail
        obtain ⟨W, hW⟩ : ∃ W, W = w.alloc (.cells (Rc P Q).toArray 23) := ⟨_, rfl⟩
        rw [show w.alloc (.cells #[.int .i64 P, .int .i64 Q] 23) = W from hW.symm]
        rw [← hW] at K0 B0
        clear hW q1 q2 q3 q4 q5
        refine wp_region_guarded [29, 30, 31, 32, 33, 34, 35, 36] [.is (.pointer (some ⟨w.heap.size, 0, none⟩)), .is (.int .i64 P), .is (.int .u64 (X : Int)), .is (.pointer (some ⟨w.heap.size, 1, none⟩)), .is (.int .i64 Q), .is (.int .u64 (Y : Int)), .is (.int .u64 (g : Int)), .is (.bool (decide (g = 1)))] (by kernel_rfl) (by kernel_rfl) ?_ ?_
        · intro i hi fb w' hb hd hx o ho
          match i, hi with
          | 0, _ =>
            obtain rfl := Option.some.inj ho
            have e : fb.tmps.getD 1 undef = .pointer (some ⟨w.heap.size, 0, none⟩) := hx 1 rfl
            have hr := run_field0 w' w.heap.size
            rw [← e] at hr
            exact runs_value rfl hr ⟨e, Below.refl _ _⟩
          | 1, _ =>
            obtain rfl := Option.some.inj ho
            have e : fb.tmps.getD 29 undef = .pointer (some ⟨w.heap.size, 0, none⟩) := hd 0 (by kernel_rfl) (by decide)
            have hr := run_load_int w' w.heap.size 0 P ((K0.out.below hb K0.out.lt).cell 0 _ rfl)
            rw [← e] at hr
            exact runs_value rfl hr ⟨rfl, Below.refl _ _⟩
          | 2, _ =>
            obtain rfl := Option.some.inj ho
            dsimp only [Guarded]
            have e0 : fb.tmps.getD 30 undef = .int .i64 P := hd 1 (by kernel_rfl) (by decide)
            refine runs_call rfl (fun _ _ => rfl) ?_
            show Calls _ _ #[fb.tmps.getD 30 undef] w' _
            rw [e0]
            refine (G1.out w').mono ?_
            rintro e w'' ⟨rfl, rfl⟩
            exact ⟨_, rfl, rfl, Below.refl _ _⟩
          | 3, _ =>
            obtain rfl := Option.some.inj ho
            have e : fb.tmps.getD 1 undef = .pointer (some ⟨w.heap.size, 0, none⟩) := hx 1 rfl
            have hr := run_field1 w' w.heap.size
            rw [← e] at hr
            exact runs_value rfl hr ⟨rfl, Below.refl _ _⟩
          | 4, _ =>
            obtain rfl := Option.some.inj ho
            have e : fb.tmps.getD 32 undef = .pointer (some ⟨w.heap.size, 1, none⟩) := hd 3 (by kernel_rfl) (by decide)
            have hr := run_load_int w' w.heap.size 1 Q ((K0.out.below hb K0.out.lt).cell 1 _ rfl)
            rw [← e] at hr
            exact runs_value rfl hr ⟨rfl, Below.refl _ _⟩
          | 5, _ =>
            obtain rfl := Option.some.inj ho
            dsimp only [Guarded]
            have e0 : fb.tmps.getD 33 undef = .int .i64 Q := hd 4 (by kernel_rfl) (by decide)
            refine runs_call rfl (fun _ _ => rfl) ?_
            show Calls _ _ #[fb.tmps.getD 33 undef] w' _
            rw [e0]
            refine (G2.out w').mono ?_
            rintro e w'' ⟨rfl, rfl⟩
            exact ⟨_, rfl, rfl, Below.refl _ _⟩
          | 6, _ =>
            obtain rfl := Option.some.inj ho
            dsimp only [Guarded]
            have e0 : fb.tmps.getD 31 undef = .int .u64 (X : Int) := hd 2 (by kernel_rfl) (by decide)
            have e1 : fb.tmps.getD 34 undef = .int .u64 (Y : Int) := hd 5 (by kernel_rfl) (by decide)
            refine runs_call rfl (fun _ _ => rfl) ?_
            show Calls _ _ #[fb.tmps.getD 31 undef, fb.tmps.getD 34 undef] w' _
            rw [e0, e1]
            refine (G3.out w').mono ?_
            rintro e w'' ⟨rfl, rfl⟩
            exact ⟨_, rfl, rfl, Below.refl _ _⟩
          | 7, _ =>
            obtain rfl := Option.some.inj ho
            have e0 : fb.tmps.getD 35 undef = .int .u64 (g : Int) := hd 6 (by kernel_rfl) (by decide)
            refine runs_value rfl ?_ ⟨rfl, Below.refl _ _⟩
            rw [show fb.eval (.tmp 35) = _ from e0]
            go_simp
            by_cases h5 : g = 1
            · rw [h5]; rfl
            · rw [decide_eq_false h5, beq_eq_false_iff_ne.2 (by omega)]
        · intro vals w' hb hf
          have e7 : vals 7 = .bool (decide (g = 1)) := hf 7 (by decide)
          simp only [puts, List.length_cons, List.length_nil, Nat.zero_add, Nat.reduceAdd, List.drop_succ_cons, List.drop_zero, e7]
          have B2 := Lib.hid (B0.out.trans (hb.mono B0.out.size))
          clear e7 hf hb B0 K0 G1 G2 G3
          go_frame
          go_wp2_with fail
          go_ret
          exact ⟨rfl, B2.out⟩

theorem den_any (P Q : Int) (w : World) : Calls Tryd.prog 40 #[Rv P Q] w (Says (.int .i64 (Rt.den Q)) w) := by
  show Calls _ _ #[.agg #[.int .i64 P, .int .i64 Q]] _ _
  unfold Rt.den
  by_cases h : Q < 1
  · rw [if_pos h]
    go_enter Tryd.func40, Tryd.ntmps40
    go_wp2_with fail
    go_ret
    exact ⟨congrArg Ending.returned (congrArg (Value.int IntKind.i64) (by omega)), (Below.refl _ _).alloc (Nat.le_refl _) _⟩
  · rw [if_neg h]
    go_enter Tryd.func40, Tryd.ntmps40
    go_wp2_with fail
    go_ret
    exact ⟨congrArg Ending.returned (congrArg (Value.int IntKind.i64) (by omega)), (Below.refl _ _).alloc (Nat.le_refl _) _⟩
end Go.Proofs.YtbkgigbalnmbkaaDoor
