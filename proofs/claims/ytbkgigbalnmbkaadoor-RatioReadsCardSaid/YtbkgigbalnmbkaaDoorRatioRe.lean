/- The contracts of dioramaref04.Compare and dioramaref04.Floor. -/
import Derived.Test.YtbkgigbalnmbkaaDoorRatioRd
namespace Go.Proofs.YtbkgigbalnmbkaaDoor
open Go.RowKit
set_option linter.unusedVariables false
set_option maxRecDepth 100000

theorem in_both {x : Int} (h : In64 x) : wrap64 x = x ∧ IntKind.i64.wrap x = x := ⟨IntWalk.wrap64_in _ h, i64_in _ h.1 h.2⟩
theorem Rats.two (w : World) (a a' b b' : Int) : Rats ((w.alloc (.cells (Rc a a').toArray 23)).alloc (.cells (Rc b b').toArray 23)) [(w.heap.size, a, a'), (w.heap.size + 1, b, b')] := fun e he => by
  obtain ⟨h1, h2, -⟩ := two_new w (Rc a a') (Rc b b') 23 23
  simp only [List.mem_cons, List.not_mem_nil, or_false] at he
  rcases he with rfl | rfl
  · exact h1
  · exact h2
theorem below_two {w w1 : World} (hb : Below w.heap.size w w1) (a a' b b' : Int) : Below w.heap.size w ((w1.alloc (.cells (Rc a a').toArray 23)).alloc (.cells (Rc b b').toArray 23)) :=
  hb.trans ((two_new w1 (Rc a a') (Rc b b') 23 23).2.2.mono hb.size)
theorem Rats.one (w : World) (a a' : Int) : Rats (w.alloc (.cells (Rc a a').toArray 23)) [(w.heap.size, a, a')] := fun e he => by
  simp only [List.mem_cons, List.not_mem_nil, or_false] at he
  subst he
  exact Blk.new w _ _
theorem cmp2_reckons {P Q P' Q' : Int} (h : Rt.Ok P Q) (h' : Rt.Ok P' Q') :
    wrap64 (P * Rt.den Q') = P * Rt.den Q' ∧ wrap64 (P' * Rt.den Q) = P' * Rt.den Q ∧ Lib.compareInt (P * Rt.den Q') (P' * Rt.den Q) = Rt.cmp3 P Q P' Q' := by
  have k := cmp_reckons h h'
  rwa [Rt.opd_den h, Rt.opd_den h'] at k
theorem floor_pos {P Q : Int} (h : Rt.Ok P Q) (hP : 0 ≤ P) : ¬ Rt.den Q = 0 ∧ In64 (P.tdiv (Rt.den Q)) ∧ P.tdiv (Rt.den Q) = Rt.flo P Q := by
  have b1 := h.bounds
  have p1 := Rt.den_pos Q
  have h3 : (P.tdiv (Rt.den Q)).natAbs ≤ P.natAbs := by rw [Int.natAbs_tdiv]; exact Nat.div_le_self _ _
  refine ⟨by omega, ⟨by omega, by omega⟩, ?_⟩
  rw [Rt.flo_ok h, Int.tdiv_eq_ediv_of_nonneg hP]
theorem floor_neg {P Q : Int} (h : Rt.Ok P Q) (hP : P < 0) : ¬ Rt.den Q = 0 ∧ In64 (-P) ∧ In64 (-P + Rt.den Q) ∧ In64 (-P + Rt.den Q - 1) ∧ In64 ((-P + Rt.den Q - 1).tdiv (Rt.den Q)) ∧ In64 (-((-P + Rt.den Q - 1).tdiv (Rt.den Q))) ∧ -((-P + Rt.den Q - 1).tdiv (Rt.den Q)) = Rt.flo P Q := by
  have b1 := h.bounds
  have p1 := Rt.den_pos Q
  have d1 := h.den_le
  rw [Rt.flo_ok h, ← Rt.neg_floor p1 hP]
  generalize Rt.den Q = d at *
  have h3 : ((-P + d - 1).tdiv d).natAbs ≤ (-P + d - 1).natAbs := by rw [Int.natAbs_tdiv]; exact Nat.div_le_self _ _
  generalize (-P + d - 1).tdiv d = k at *
  clear h
  refine ⟨by omega, ⟨by omega, by omega⟩, ⟨by omega, by omega⟩, ⟨by omega, by omega⟩, ⟨by omega, by omega⟩, ⟨by omega, by omega⟩, rfl⟩

set_option maxHeartbeats 8000000 in
theorem refCompare_any (P Q P' Q' : Int) (w : World) (hp : In64 P) (hq : In64 Q) (hp' : In64 P') (hq' : In64 Q') :
    Calls Tryd.prog 37 #[Rv P Q, Rv P' Q'] w (Says (.int .i64 (Rt.cmp3 P Q P' Q')) w) := by
  have g1 := fun W => refValid_any P Q W hp hq
  have g2 := fun W => refValid_any P' Q' W hp' hq'
  obtain ⟨t, ht⟩ : ∃ t, t = Rt.cmp3 P Q P' Q' := ⟨_, rfl⟩
  rw [← ht]
  by_cases h1 : Rt.Ok P Q
  · by_cases h2 : Rt.Ok P' Q'
    · rw [decide_eq_true h1] at g1
      rw [decide_eq_true h2] at g2
      obtain ⟨r1, r2, r3⟩ := cmp2_reckons h1 h2
      have g3 := fun W => den_any P Q W
      have g4 := fun W => den_any P' Q' W
      rw [← ht] at r3
      generalize Rt.den Q = da at *
      generalize Rt.den Q' = db at *
      have m1 := fun X Y W => run_mul P db X Y W r1
      have m2 := fun X Y W => run_mul P' da X Y W r2
      obtain ⟨X, hX⟩ : ∃ X, X = P * db := ⟨_, rfl⟩
      obtain ⟨Y, hY⟩ : ∃ Y, Y = P' * da := ⟨_, rfl⟩
      rw [← hX] at m1 r3
      rw [← hY] at m2 r3
      have G1 := Lib.hid g1
      have G2 := Lib.hid g2
      have G3 := Lib.hid g3
      have G4 := Lib.hid g4
      have M1 := Lib.hid m1
      have M2 := Lib.hid m2
      have HT := Lib.hid r3
      have R := Lib.hid (Rats.two w P Q P' Q')
      have B := Lib.hid (below_two (Below.refl w.heap.size w) P Q P' Q')
      clear g1 g2 g3 g4 m1 m2 r1 r2 r3 hX hY ht h1 h2 hp hq hp' hq'
      show Calls _ _ #[.agg #[.int .i64 P, .int .i64 Q], .agg #[.int .i64 P', .int .i64 Q']] _ _
      go_enter Tryd.func37, Tryd.ntmps37
      go_wp2_with fail
      refine (G1.out _).mono ?_
      rintro e v1 ⟨rfl, hb⟩
      have q := R.out.step hb
      have hB := B.out.trans (hb.mono B.out.size)
      clear R B hb
      obtain ⟨⟨cl0, ch0⟩, lt0⟩ := q.get (.head _)
      obtain ⟨⟨cl1, ch1⟩, lt1⟩ := q.get (.tail _ (.head _))
      have R := Lib.hid q
      have B := Lib.hid hB
      clear q hB
      go_wp2_with fail
      refine (G2.out _).mono ?_
      rintro e v2 ⟨rfl, hb⟩
      have q := R.out.step hb
      have hB := B.out.trans (hb.mono B.out.size)
      clear cl0 ch0 lt0 cl1 ch1 lt1
      clear R B hb
      obtain ⟨⟨cl0, ch0⟩, lt0⟩ := q.get (.head _)
      obtain ⟨⟨cl1, ch1⟩, lt1⟩ := q.get (.tail _ (.head _))
      have R := Lib.hid q
      have B := Lib.hid hB
      clear q hB
      go_wp2_with fail
      clear cl0 ch0 lt0 cl1 ch1 lt1
      refine wp_region_guarded [15, 16, 17, 18, 19] [.is (.pointer (some ⟨w.heap.size, 0, none⟩)), .is (.int .i64 P), .is (Rv P' Q'), .is (.int .i64 db), .is (.int .i64 X)] (by kernel_rfl) (by kernel_rfl) ?_ ?_
      · intro i hi fb w' hb hd hx o ho
        match i, hi with
        | 0, _ =>
          obtain rfl := Option.some.inj ho
          have e : fb.tmps.getD 2 undef = .pointer (some ⟨w.heap.size, 0, none⟩) := hx 2 rfl
          have hr := run_field0 w' w.heap.size
          rw [← e] at hr
          exact runs_value rfl hr ⟨e, Below.refl _ _⟩
        | 1, _ =>
          obtain rfl := Option.some.inj ho
          have e : fb.tmps.getD 15 undef = .pointer (some ⟨w.heap.size, 0, none⟩) := hd 0 (by kernel_rfl) (by decide)
          have hr := run_load_int w' w.heap.size 0 P ((R.out.step hb _ (.head _)).cell 0 _ rfl)
          rw [← e] at hr
          exact runs_value rfl hr ⟨rfl, Below.refl _ _⟩
        | 2, _ =>
          obtain rfl := Option.some.inj ho
          have e : fb.tmps.getD 3 undef = .pointer (some ⟨w.heap.size + 1, 0, none⟩) := hx 3 rfl
          have hr := load_rat w' _ _ _ ((R.out.step hb _ (.tail _ (.head _))))
          rw [← e] at hr
          exact runs_value rfl hr ⟨rfl, Below.refl _ _⟩
        | 3, _ =>
          obtain rfl := Option.some.inj ho
          dsimp only [Guarded]
          have e0 : fb.tmps.getD 17 undef = Rv P' Q' := hd 2 (by kernel_rfl) (by decide)
          refine runs_call rfl (fun _ _ => rfl) ?_
          show Calls _ _ #[fb.tmps.getD 17 undef] w' _
          rw [e0]
          exact (G4.out w').mono fun e w'' h => ⟨_, h.1, rfl, h.2⟩
        | 4, _ =>
          obtain rfl := Option.some.inj ho
          have e0 : fb.tmps.getD 16 undef = .int .i64 P := hd 1 (by kernel_rfl) (by decide)
          have e1 : fb.tmps.getD 18 undef = .int .i64 db := hd 3 (by kernel_rfl) (by decide)
          refine runs_value rfl ?_ ⟨rfl, Below.refl _ _⟩
          rw [show fb.eval (.tmp 16) = _ from e0, show fb.eval (.tmp 18) = _ from e1]
          exact M1.out _ _ w'
      · intro vals w' hb hf
        have ev : vals 4 = .int .i64 X := hf 4 (by decide)
        simp only [puts, List.length_cons, List.length_nil, Nat.zero_add, Nat.reduceAdd, List.drop_succ_cons, List.drop_zero, ev]
        have q := R.out.step hb
        have hB := B.out.trans (hb.mono B.out.size)
        clear ev hb hf R B
        have R := Lib.hid q
        have B := Lib.hid hB
        clear q hB
        go_frame
        go_wp2_with fail
        refine wp_region_guarded [20, 21, 22, 23, 24] [.is (.pointer (some ⟨w.heap.size + 1, 0, none⟩)), .is (.int .i64 P'), .is (Rv P Q), .is (.int .i64 da), .is (.int .i64 Y)] (by kernel_rfl) (by kernel_rfl) ?_ ?_
        · intro i hi fb w' hb hd hx o ho
          match i, hi with
          | 0, _ =>
            obtain rfl := Option.some.inj ho
            have e : fb.tmps.getD 3 undef = .pointer (some ⟨w.heap.size + 1, 0, none⟩) := hx 3 rfl
            have hr := run_field0 w' (w.heap.size + 1)
            rw [← e] at hr
            exact runs_value rfl hr ⟨e, Below.refl _ _⟩
          | 1, _ =>
            obtain rfl := Option.some.inj ho
            have e : fb.tmps.getD 20 undef = .pointer (some ⟨w.heap.size + 1, 0, none⟩) := hd 0 (by kernel_rfl) (by decide)
            have hr := run_load_int w' (w.heap.size + 1) 0 P' ((R.out.step hb _ (.tail _ (.head _))).cell 0 _ rfl)
            rw [← e] at hr
            exact runs_value rfl hr ⟨rfl, Below.refl _ _⟩
          | 2, _ =>
            obtain rfl := Option.some.inj ho
            have e : fb.tmps.getD 2 undef = .pointer (some ⟨w.heap.size, 0, none⟩) := hx 2 rfl
            have hr := load_rat w' _ _ _ ((R.out.step hb _ (.head _)))
            rw [← e] at hr
            exact runs_value rfl hr ⟨rfl, Below.refl _ _⟩
          | 3, _ =>
            obtain rfl := Option.some.inj ho
            dsimp only [Guarded]
            have e0 : fb.tmps.getD 22 undef = Rv P Q := hd 2 (by kernel_rfl) (by decide)
            refine runs_call rfl (fun _ _ => rfl) ?_
            show Calls _ _ #[fb.tmps.getD 22 undef] w' _
            rw [e0]
            exact (G3.out w').mono fun e w'' h => ⟨_, h.1, rfl, h.2⟩
          | 4, _ =>
            obtain rfl := Option.some.inj ho
            have e0 : fb.tmps.getD 21 undef = .int .i64 P' := hd 1 (by kernel_rfl) (by decide)
            have e1 : fb.tmps.getD 23 undef = .int .i64 da := hd 3 (by kernel_rfl) (by decide)
            refine runs_value rfl ?_ ⟨rfl, Below.refl _ _⟩
            rw [show fb.eval (.tmp 21) = _ from e0, show fb.eval (.tmp 23) = _ from e1]
            exact M2.out _ _ w'
        · intro vals w' hb hf
          have ev : vals 4 = .int .i64 Y := hf 4 (by decide)
          simp only [puts, List.length_cons, List.length_nil, Nat.zero_add, Nat.reduceAdd, List.drop_succ_cons, List.drop_zero, ev]
          have q := R.out.step hb
          have hB := B.out.trans (hb.mono B.out.size)
          clear ev hb hf R B
          have R := Lib.hid q
          have B := Lib.hid hB
          clear q hB
          go_frame
          clear G1 G2 G3 G4 M1 M2 R
          go_wp2_with fail
          all_goals (go_ret; refine ⟨congrArg Ending.returned (congrArg (Value.int IntKind.i64) ?_), B.out⟩; rw [← HT.out]; unfold Lib.compareInt; clear HT B; go_light; first | rw [if_pos (by omega)] | rw [if_neg (by omega), if_pos (by omega)] | rw [if_neg (by omega), if_neg (by omega)])
    · skip
      have hT : t = 0 := by rw [ht]; exact if_neg (fun k => h2 k.2)
      rw [decide_eq_true h1] at g1
      rw [decide_eq_false h2] at g2
      have G1 := Lib.hid g1
      have G2 := Lib.hid g2
      have HT := Lib.hid hT
      have R := Lib.hid (Rats.two w P Q P' Q')
      have B := Lib.hid (below_two (Below.refl w.heap.size w) P Q P' Q')
      clear g1 g2 hT ht h1 h2 hp hq hp' hq'
      show Calls _ _ #[.agg #[.int .i64 P, .int .i64 Q], .agg #[.int .i64 P', .int .i64 Q']] _ _
      go_enter Tryd.func37, Tryd.ntmps37
      go_wp2_with fail
      refine (G1.out _).mono ?_
      rintro e v1 ⟨rfl, hb⟩
      have q := R.out.step hb
      have hB := B.out.trans (hb.mono B.out.size)
      clear R B hb
      obtain ⟨⟨cl0, ch0⟩, lt0⟩ := q.get (.head _)
      obtain ⟨⟨cl1, ch1⟩, lt1⟩ := q.get (.tail _ (.head _))
      have R := Lib.hid q
      have B := Lib.hid hB
      clear q hB
      go_wp2_with fail
      refine (G2.out _).mono ?_
      rintro e v2 ⟨rfl, hb⟩
      have q := R.out.step hb
      have hB := B.out.trans (hb.mono B.out.size)
      clear cl0 ch0 lt0 cl1 ch1 lt1
      clear R B hb
      obtain ⟨⟨cl0, ch0⟩, lt0⟩ := q.get (.head _)
      obtain ⟨⟨cl1, ch1⟩, lt1⟩ := q.get (.tail _ (.head _))
      have R := Lib.hid q
      have B := Lib.hid hB
      clear q hB
      go_wp2_with fail
      go_ret
      exact ⟨by rw [HT.out]; rfl, B.out⟩
  · skip
    have hT : t = 0 := by rw [ht]; exact if_neg (fun k => h1 k.1)
    rw [decide_eq_false h1] at g1
    have G1 := Lib.hid g1
    have G2 := Lib.hid g2
    have HT := Lib.hid hT
    have R := Lib.hid (Rats.two w P Q P' Q')
    have B := Lib.hid (below_two (Below.refl w.heap.size w) P Q P' Q')
    clear g1 g2 hT ht h1  hp hq hp' hq'
    show Calls _ _ #[.agg #[.int .i64 P, .int .i64 Q], .agg #[.int .i64 P', .int .i64 Q']] _ _
    go_enter Tryd.func37, Tryd.ntmps37
    go_wp2_with fail
    refine (G1.out _).mono ?_
    rintro e v1 ⟨rfl, hb⟩
    have q := R.out.step hb
    have hB := B.out.trans (hb.mono B.out.size)
    clear R B hb
    obtain ⟨⟨cl0, ch0⟩, lt0⟩ := q.get (.head _)
    obtain ⟨⟨cl1, ch1⟩, lt1⟩ := q.get (.tail _ (.head _))
    have R := Lib.hid q
    have B := Lib.hid hB
    clear q hB
    go_wp2_with fail
    go_ret
    exact ⟨by rw [HT.out]; rfl, B.out⟩

set_option maxHeartbeats 8000000 in
theorem refFloor_any (P Q : Int) (w : World) (hp : In64 P) (hq : In64 Q) :
    Calls Tryd.prog 38 #[Rv P Q] w (Says (.int .i64 (Rt.flo P Q)) w) := by
  have g1 := fun W => refValid_any P Q W hp hq
  obtain ⟨t, ht⟩ : ∃ t, t = Rt.flo P Q := ⟨_, rfl⟩
  rw [← ht]
  have R := Lib.hid (Rats.one w P Q)
  have B := Lib.hid ((Below.refl w.heap.size w).alloc (Nat.le_refl _) (.cells (Rc P Q).toArray 23))
  by_cases h1 : Rt.Ok P Q
  · rw [decide_eq_true h1] at g1
    have g3 := fun W => den_any P Q W
    by_cases hP : 0 ≤ P
    · obtain ⟨r1, r2, r3⟩ := floor_pos h1 hP
      rw [← ht] at r3
      generalize Rt.den Q = d at *
      obtain ⟨s1, s2⟩ := in_both r2
      rw [r3] at s1 s2
      have G1 := Lib.hid g1
      have G3 := Lib.hid g3
      have HR := Lib.hid (And.intro r1 (And.intro r3 (And.intro s1 s2)))
      clear g1 g3 r1 r2 r3 s1 s2 ht h1 hp hq
      show Calls _ _ #[.agg #[.int .i64 P, .int .i64 Q]] _ _
      go_enter Tryd.func38, Tryd.ntmps38
      go_wp2_with fail
      refine (G1.out _).mono ?_
      rintro e v1 ⟨rfl, hb⟩
      have q := R.out.step hb
      have hB := B.out.trans (hb.mono B.out.size)
      clear R B hb
      obtain ⟨⟨cl0, ch0⟩, lt0⟩ := q.get (.head _)
      have R := Lib.hid q
      have B := Lib.hid hB
      clear q hB
      go_wp2_with fail
      clear cl0 ch0 lt0
      refine wp_region_guarded [9, 10, 11, 12, 13] [.is (.pointer (some ⟨w.heap.size, 0, none⟩)), .is (.int .i64 P), .is (Rv P Q), .is (.int .i64 d), .is (.int .i64 t)] (by kernel_rfl) (by kernel_rfl) ?_ ?_
      · intro i hi fb w' hb hd hx o ho
        match i, hi with
        | 0, _ =>
          obtain rfl := Option.some.inj ho
          have e : fb.tmps.getD 1 undef = .pointer (some ⟨w.heap.size, 0, none⟩) := hx 1 rfl
          have hr := run_field0 w' w.heap.size
          rw [← e] at hr
          exact runs_value rfl hr ⟨e, Below.refl _ _⟩
        | 1, _ =>
          obtain rfl := Option.some.inj ho
          have e : fb.tmps.getD 9 undef = .pointer (some ⟨w.heap.size, 0, none⟩) := hd 0 (by kernel_rfl) (by decide)
          have hr := run_load_int w' w.heap.size 0 P ((R.out.step hb _ (.head _)).cell 0 _ rfl)
          rw [← e] at hr
          exact runs_value rfl hr ⟨rfl, Below.refl _ _⟩
        | 2, _ =>
          obtain rfl := Option.some.inj ho
          have e : fb.tmps.getD 1 undef = .pointer (some ⟨w.heap.size, 0, none⟩) := hx 1 rfl
          have hr := load_rat w' _ _ _ ((R.out.step hb _ (.head _)))
          rw [← e] at hr
          exact runs_value rfl hr ⟨rfl, Below.refl _ _⟩
        | 3, _ =>
          obtain rfl := Option.some.inj ho
          dsimp only [Guarded]
          have e0 : fb.tmps.getD 11 undef = Rv P Q := hd 2 (by kernel_rfl) (by decide)
          refine runs_call rfl (fun _ _ => rfl) ?_
          show Calls _ _ #[fb.tmps.getD 11 undef] w' _
          rw [e0]
          exact (G3.out w').mono fun e w'' h => ⟨_, h.1, rfl, h.2⟩
        | 4, _ =>
          obtain rfl := Option.some.inj ho
          have e0 : fb.tmps.getD 10 undef = .int .i64 P := hd 1 (by kernel_rfl) (by decide)
          have e1 : fb.tmps.getD 12 undef = .int .i64 d := hd 3 (by kernel_rfl) (by decide)
          refine runs_value rfl ?_ ⟨rfl, Below.refl _ _⟩
          rw [show fb.eval (.tmp 10) = _ from e0, show fb.eval (.tmp 12) = _ from e1]
          obtain ⟨r1, r3, s1, s2⟩ := HR.out
          clear hd hx HR R B G1 G3
          go_simp
      · intro vals w' hb hf
        have ev : vals 4 = .int .i64 t := hf 4 (by decide)
        simp only [puts, List.length_cons, List.length_nil, Nat.zero_add, Nat.reduceAdd, List.drop_succ_cons, List.drop_zero, ev]
        have q := R.out.step hb
        have hB := B.out.trans (hb.mono B.out.size)
        clear ev hb hf R B
        have R := Lib.hid q
        have B := Lib.hid hB
        clear q hB
        go_frame
        clear G1 G3 HR R
        go_wp2_with fail
        go_ret
        exact ⟨rfl, B.out⟩
    · skip
      obtain ⟨r1, k1, k2, k3, k4, k5, r3⟩ := floor_neg h1 (by omega)
      rw [← ht] at r3
      generalize Rt.den Q = d at *
      obtain ⟨N1, n1⟩ : ∃ N, N = -P := ⟨_, rfl⟩
      rw [← n1] at k1 k2 k3 k4 k5 r3
      obtain ⟨N2, n2⟩ : ∃ N, N = N1 + d := ⟨_, rfl⟩
      rw [← n2] at k2 k3 k4 k5 r3
      obtain ⟨N3, n3⟩ : ∃ N, N = N2 - 1 := ⟨_, rfl⟩
      rw [← n3] at k3 k4 k5 r3
      obtain ⟨N4, n4⟩ : ∃ N, N = N3.tdiv d := ⟨_, rfl⟩
      rw [← n4] at k4 k5 r3
      rw [r3] at k5
      have s1 := in_both k1
      have s2 := in_both k2
      have s3 := in_both k3
      have s4 := in_both k4
      have s5 := in_both k5
      have G1 := Lib.hid g1
      have G3 := Lib.hid g3
      have H1 := Lib.hid (And.intro n1.symm s1)
      have H2 := Lib.hid (And.intro n2.symm s2)
      have H3 := Lib.hid (And.intro n3.symm s3)
      have H4 := Lib.hid (And.intro n4.symm (And.intro r1 s4))
      have H5 := Lib.hid (And.intro r3 s5)
      clear g1 g3 r1 k1 k2 k3 k4 k5 n1 n2 n3 n4 r3 s1 s2 s3 s4 s5 ht h1 hp hq
      show Calls _ _ #[.agg #[.int .i64 P, .int .i64 Q]] _ _
      go_enter Tryd.func38, Tryd.ntmps38
      go_wp2_with fail
      refine (G1.out _).mono ?_
      rintro e v1 ⟨rfl, hb⟩
      have q := R.out.step hb
      have hB := B.out.trans (hb.mono B.out.size)
      clear R B hb
      obtain ⟨⟨cl0, ch0⟩, lt0⟩ := q.get (.head _)
      have R := Lib.hid q
      have B := Lib.hid hB
      clear q hB
      go_wp2_with fail
      clear cl0 ch0 lt0
      refine wp_region_guarded [14, 15, 16, 17, 18, 19, 20, 21, 22, 23, 24] [.is (.pointer (some ⟨w.heap.size, 0, none⟩)), .is (.int .i64 P), .is (.int .i64 N1), .is (Rv P Q), .is (.int .i64 d), .is (.int .i64 N2), .is (.int .i64 N3), .is (Rv P Q), .is (.int .i64 d), .is (.int .i64 N4), .is (.int .i64 t)] (by kernel_rfl) (by kernel_rfl) ?_ ?_
      · intro i hi fb w' hb hd hx o ho
        match i, hi with
        | 0, _ =>
          obtain rfl := Option.some.inj ho
          have e : fb.tmps.getD 1 undef = .pointer (some ⟨w.heap.size, 0, none⟩) := hx 1 rfl
          have hr := run_field0 w' w.heap.size
          rw [← e] at hr
          exact runs_value rfl hr ⟨e, Below.refl _ _⟩
        | 1, _ =>
          obtain rfl := Option.some.inj ho
          have e : fb.tmps.getD 14 undef = .pointer (some ⟨w.heap.size, 0, none⟩) := hd 0 (by kernel_rfl) (by decide)
          have hr := run_load_int w' w.heap.size 0 P ((R.out.step hb _ (.head _)).cell 0 _ rfl)
          rw [← e] at hr
          exact runs_value rfl hr ⟨rfl, Below.refl _ _⟩
        | 2, _ =>
          obtain rfl := Option.some.inj ho
          have e0 : fb.tmps.getD 15 undef = .int .i64 P := hd 1 (by kernel_rfl) (by decide)
          refine runs_value rfl ?_ ⟨rfl, Below.refl _ _⟩
          rw [show fb.eval (.tmp 15) = _ from e0]
          obtain ⟨n, s, s'⟩ := H1.out
          clear hd hx R B G1 G3 H1 H2 H3 H4 H5
          go_simp
        | 3, _ =>
          obtain rfl := Option.some.inj ho
          have e : fb.tmps.getD 1 undef = .pointer (some ⟨w.heap.size, 0, none⟩) := hx 1 rfl
          have hr := load_rat w' _ _ _ ((R.out.step hb _ (.head _)))
          rw [← e] at hr
          exact runs_value rfl hr ⟨rfl, Below.refl _ _⟩
        | 4, _ =>
          obtain rfl := Option.some.inj ho
          dsimp only [Guarded]
          have e0 : fb.tmps.getD 17 undef = Rv P Q := hd 3 (by kernel_rfl) (by decide)
          refine runs_call rfl (fun _ _ => rfl) ?_
          show Calls _ _ #[fb.tmps.getD 17 undef] w' _
          rw [e0]
          exact (G3.out w').mono fun e w'' h => ⟨_, h.1, rfl, h.2⟩
        | 5, _ =>
          obtain rfl := Option.some.inj ho
          have e0 : fb.tmps.getD 16 undef = .int .i64 N1 := hd 2 (by kernel_rfl) (by decide)
          have e1 : fb.tmps.getD 18 undef = .int .i64 d := hd 4 (by kernel_rfl) (by decide)
          refine runs_value rfl ?_ ⟨rfl, Below.refl _ _⟩
          rw [show fb.eval (.tmp 16) = _ from e0, show fb.eval (.tmp 18) = _ from e1]
          obtain ⟨n, s, s'⟩ := H2.out
          clear hd hx R B G1 G3 H1 H2 H3 H4 H5
          go_simp
        | 6, _ =>
          obtain rfl := Option.some.inj ho
          have e0 : fb.tmps.getD 19 undef = .int .i64 N2 := hd 5 (by kernel_rfl) (by decide)
          refine runs_value rfl ?_ ⟨rfl, Below.refl _ _⟩
          rw [show fb.eval (.tmp 19) = _ from e0]
          obtain ⟨n, s, s'⟩ := H3.out
          clear hd hx R B G1 G3 H1 H2 H3 H4 H5
          go_simp
        | 7, _ =>
          obtain rfl := Option.some.inj ho
          have e : fb.tmps.getD 1 undef = .pointer (some ⟨w.heap.size, 0, none⟩) := hx 1 rfl
          have hr := load_rat w' _ _ _ ((R.out.step hb _ (.head _)))
          rw [← e] at hr
          exact runs_value rfl hr ⟨rfl, Below.refl _ _⟩
        | 8, _ =>
          obtain rfl := Option.some.inj ho
          dsimp only [Guarded]
          have e0 : fb.tmps.getD 21 undef = Rv P Q := hd 7 (by kernel_rfl) (by decide)
          refine runs_call rfl (fun _ _ => rfl) ?_
          show Calls _ _ #[fb.tmps.getD 21 undef] w' _
          rw [e0]
          exact (G3.out w').mono fun e w'' h => ⟨_, h.1, rfl, h.2⟩
        | 9, _ =>
          obtain rfl := Option.some.inj ho
          have e0 : fb.tmps.getD 20 undef = .int .i64 N3 := hd 6 (by kernel_rfl) (by decide)
          have e1 : fb.tmps.getD 22 undef = .int .i64 d := hd 8 (by kernel_rfl) (by decide)
          refine runs_value rfl ?_ ⟨rfl, Below.refl _ _⟩
          rw [show fb.eval (.tmp 20) = _ from e0, show fb.eval (.tmp 22) = _ from e1]
          obtain ⟨n, r, s, s'⟩ := H4.out
          clear hd hx R B G1 G3 H1 H2 H3 H4 H5
          go_simp
        | 10, _ =>
          obtain rfl := Option.some.inj ho
          have e0 : fb.tmps.getD 23 undef = .int .i64 N4 := hd 9 (by kernel_rfl) (by decide)
          refine runs_value rfl ?_ ⟨rfl, Below.refl _ _⟩
          rw [show fb.eval (.tmp 23) = _ from e0]
          obtain ⟨n, s, s'⟩ := H5.out
          clear hd hx R B G1 G3 H1 H2 H3 H4 H5
          go_simp
      · intro vals w' hb hf
        have ev : vals 10 = .int .i64 t := hf 10 (by decide)
        simp only [puts, List.length_cons, List.length_nil, Nat.zero_add, Nat.reduceAdd, List.drop_succ_cons, List.drop_zero, ev]
        have q := R.out.step hb
        have hB := B.out.trans (hb.mono B.out.size)
        clear ev hb hf R B
        have R := Lib.hid q
        have B := Lib.hid hB
        clear q hB
        go_frame
        clear G1 G3 H1 H2 H3 H4 H5 R
        go_wp2_with fail
        go_ret
        exact ⟨rfl, B.out⟩
  · skip
    have hT : t = 0 := by rw [ht]; exact if_neg h1
    rw [decide_eq_false h1] at g1
    have G1 := Lib.hid g1
    have HT := Lib.hid hT
    clear g1 hT ht h1 hp hq
    show Calls _ _ #[.agg #[.int .i64 P, .int .i64 Q]] _ _
    go_enter Tryd.func38, Tryd.ntmps38
    go_wp2_with fail
    refine (G1.out _).mono ?_
    rintro e v1 ⟨rfl, hb⟩
    have q := R.out.step hb
    have hB := B.out.trans (hb.mono B.out.size)
    clear R B hb
    obtain ⟨⟨cl0, ch0⟩, lt0⟩ := q.get (.head _)
    have R := Lib.hid q
    have B := Lib.hid hB
    clear q hB
    go_wp2_with fail
    go_ret
    exact ⟨by rw [HT.out]; rfl, B.out⟩
end Go.Proofs.YtbkgigbalnmbkaaDoor
