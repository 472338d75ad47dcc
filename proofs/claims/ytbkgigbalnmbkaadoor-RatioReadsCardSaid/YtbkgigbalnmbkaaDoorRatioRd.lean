/- The contract of dioramaref04.Mul. -/
import Derived.Test.YtbkgigbalnmbkaaDoorRatioRc
import Derived.Test.YtbkgigbalnmbkaaDoorFactsO
namespace Go.Proofs.YtbkgigbalnmbkaaDoor
open Go.RowKit
set_option linter.unusedVariables false
set_option maxRecDepth 100000

theorem run_mul (a b : Int) (X Y : Operand) (W : World) (h : wrap64 (a * b) = a * b) : (do eqGuard .mul 3 X Y (.int .i64 a) (.int .i64 b); binOp .mul 3 (.int .i64 a) (.int .i64 b) : Sem Value).run Tryd.prog W = .ok (.int .i64 (a * b)) W := by
  have h2 : IntKind.i64.wrap (a * b) = a * b := by
    obtain ⟨k1, k2⟩ := show In64 (a * b) by rw [← h]; exact w64_in _
    exact i64_in _ k1 k2
  go_simp
theorem mul2_reckons {P Q P' Q' : Int} (h : Rt.Ok P Q) (h' : Rt.Ok P' Q') :
    wrap64 (P * P') = P * P' ∧ wrap64 (Rt.den Q * Rt.den Q') = Rt.den Q * Rt.den Q' ∧ Rt.mk (P * P') (Rt.den Q * Rt.den Q') = Rt.mul3 P Q P' Q' := by
  have k := mul_reckons h h'
  rwa [Rt.opd_den h, Rt.opd_den h'] at k
/-- Three fractions in memory, the last one filled in the end. -/
def Three (w : World) (P Q P' Q' x y : Int) (d : Bool) (W : World) : Prop := Blk W w.heap.size (Rc P Q) 23 ∧ Blk W (w.heap.size + 1) (Rc P' Q') 23 ∧ Blk W (w.heap.size + 2) (if d = true then Rc x y else Rc 0 0) 23 ∧ Below w.heap.size w W
theorem Three.step {w W W' : World} {P Q P' Q' x y : Int} {d : Bool} (h : Three w P Q P' Q' x y d W) (hb : Below W.heap.size W W') : Three w P Q P' Q' x y d W' := ⟨h.1.below hb h.1.lt, h.2.1.below hb h.2.1.lt, h.2.2.1.below hb h.2.2.1.lt, h.2.2.2.trans (hb.mono h.2.2.2.size)⟩

set_option maxHeartbeats 8000000 in
theorem refMul_any (P Q P' Q' : Int) (w : World) (hp : In64 P) (hq : In64 Q) (hp' : In64 P') (hq' : In64 Q') :
    Calls Tryd.prog 36 #[Rv P Q, Rv P' Q'] w (Says (T3 (Rt.mul3 P Q P' Q')) w) := by
  have g1 := fun W => refValid_any P Q W hp hq
  have g2 := fun W => refValid_any P' Q' W hp' hq'
  obtain ⟨t, ht⟩ : ∃ t, t = Rt.mul3 P Q P' Q' := ⟨_, rfl⟩
  rw [← ht]
  by_cases h1 : Rt.Ok P Q
  · by_cases h2 : Rt.Ok P' Q'
    · rw [decide_eq_true h1] at g1
      rw [decide_eq_true h2] at g2
      obtain ⟨r1, r2, r3⟩ := mul2_reckons h1 h2
      have in1 : In64 (P * P') := by rw [← r1]; exact w64_in _
      have in2 : In64 (Rt.den Q * Rt.den Q') := by rw [← r2]; exact w64_in _
      have g3 := fun W => den_any P Q W
      have g4 := fun W => den_any P' Q' W
      have g5 := fun W => refMake_any (P * P') (Rt.den Q * Rt.den Q') W in1 in2
      rw [r3, ← ht] at g5
      generalize Rt.den Q = da at *
      generalize Rt.den Q' = db at *
      obtain ⟨x, y, e⟩ := t
      have G1 := Lib.hid g1
      have G2 := Lib.hid g2
      have G3 := Lib.hid g3
      have G4 := Lib.hid g4
      have G5 := Lib.hid g5
      have HR := Lib.hid (And.intro r1 r2)
      have R := Lib.hid (Rats.three w P Q P' Q' 0 0)
      have B := Lib.hid (below_three (Below.refl w.heap.size w) P Q P' Q' 0 0)
      clear g1 g2 g3 g4 g5 r1 r2 r3 in1 in2 ht h1 h2 hp hq hp' hq'
      show Calls _ _ #[.agg #[.int .i64 P, .int .i64 Q], .agg #[.int .i64 P', .int .i64 Q']] _ _
      go_enter Tryd.func36, Tryd.ntmps36
      go_wp2_with fail
      refine (G1.out _).mono ?_
      rintro e v1 ⟨rfl, hb⟩
      have q := R.out.step hb
      have hB := B.out.trans (hb.mono B.out.size)
      clear R B hb
      obtain ⟨⟨cl0, ch0⟩, lt0⟩ := q.get (.head _)
      obtain ⟨⟨cl1, ch1⟩, lt1⟩ := q.get (.tail _ (.head _))
      obtain ⟨⟨cl2, ch2⟩, lt2⟩ := q.get (.tail _ (.tail _ (.head _)))
      have R := Lib.hid q
      have B := Lib.hid hB
      clear q hB
      go_wp2_with fail
      refine (G2.out _).mono ?_
      rintro e v2 ⟨rfl, hb⟩
      have q := R.out.step hb
      have hB := B.out.trans (hb.mono B.out.size)
      clear cl0 ch0 lt0 cl1 ch1 lt1 cl2 ch2 lt2
      clear R B hb
      obtain ⟨⟨cl0, ch0⟩, lt0⟩ := q.get (.head _)
      obtain ⟨⟨cl1, ch1⟩, lt1⟩ := q.get (.tail _ (.head _))
      obtain ⟨⟨cl2, ch2⟩, lt2⟩ := q.get (.tail _ (.tail _ (.head _)))
      have R := Lib.hid q
      have B := Lib.hid hB
      clear q hB
      go_wp2_with fail
      clear cl0 ch0 lt0 cl1 ch1 lt1 cl2 ch2 lt2
      have S0 := Lib.hid (show Three w P Q P' Q' x y false _ from ⟨R.out _ (.head _), R.out _ (.tail _ (.head _)), R.out _ (.tail _ (.tail _ (.head _))), B.out⟩)
      clear R B
      refine wp_region_listX [15, 16, 17, 18, 19, 20, 21, 22, 23, 24, 25, 26, 27, 1000013] (fun d _ w' => Three w P Q P' Q' x y (d 13) w') (fun _ _ => True)
        [fun z _ => z = .pointer (some ⟨w.heap.size, 0, none⟩), fun z _ => z = .int .i64 P, fun z _ => z = .pointer (some ⟨w.heap.size + 1, 0, none⟩), fun z _ => z = .int .i64 P', fun z _ => z = .int .i64 (P * P'), fun z _ => z = Rv P Q, fun z _ => z = .int .i64 da, fun z _ => z = Rv P' Q', fun z _ => z = .int .i64 db, fun z _ => z = .int .i64 (da * db), fun z _ => z = T3 (x, y, e), fun z _ => z = Rv x y, fun z _ => z = .int .i64 e, fun _ _ => True]
        (by intro f hf v w w' h _; simp only [List.mem_cons, List.not_mem_nil, or_false] at hf; rcases hf with rfl | rfl | rfl | rfl | rfl | rfl | rfl | rfl | rfl | rfl | rfl | rfl | rfl | rfl <;> exact h)
        (fun _ => S0.out.step (below_drewN (Below.refl _ _) 1)) (by kernel_rfl) (by kernel_rfl) ?_ ?_
      · intro i hi d vs fb w' hJ hu hd _ hx o ho
        match i, hi with
        | 0, _ =>
          obtain rfl := Option.some.inj ho
          have e0 : fb.tmps.getD 2 undef = .pointer (some ⟨w.heap.size, 0, none⟩) := hx 2 rfl
          have hr := run_field0 w' (w.heap.size)
          rw [← e0] at hr
          exact runs_value rfl hr ⟨e0, trivial, hJ⟩
        | 1, _ =>
          obtain rfl := Option.some.inj ho
          have e0 : fb.tmps.getD 15 undef = .pointer (some ⟨w.heap.size, 0, none⟩) := (hd 0 (by kernel_rfl) (by decide)).2 (by decide)
          have hr := run_load_int w' (w.heap.size) 0 P (hJ.1.cell 0 _ rfl)
          rw [← e0] at hr
          exact runs_value rfl hr ⟨rfl, trivial, hJ⟩
        | 2, _ =>
          obtain rfl := Option.some.inj ho
          have e0 : fb.tmps.getD 3 undef = .pointer (some ⟨w.heap.size + 1, 0, none⟩) := hx 3 rfl
          have hr := run_field0 w' (w.heap.size + 1)
          rw [← e0] at hr
          exact runs_value rfl hr ⟨e0, trivial, hJ⟩
        | 3, _ =>
          obtain rfl := Option.some.inj ho
          have e0 : fb.tmps.getD 17 undef = .pointer (some ⟨w.heap.size + 1, 0, none⟩) := (hd 2 (by kernel_rfl) (by decide)).2 (by decide)
          have hr := run_load_int w' (w.heap.size + 1) 0 P' (hJ.2.1.cell 0 _ rfl)
          rw [← e0] at hr
          exact runs_value rfl hr ⟨rfl, trivial, hJ⟩
        | 4, _ =>
          obtain rfl := Option.some.inj ho
          have e0 : fb.tmps.getD 16 undef = .int .i64 P := (hd 1 (by kernel_rfl) (by decide)).2 (by decide)
          have e1 : fb.tmps.getD 18 undef = .int .i64 P' := (hd 3 (by kernel_rfl) (by decide)).2 (by decide)
          refine runs_value rfl ?_ ⟨rfl, trivial, hJ⟩
          rw [show fb.eval (.tmp 16) = _ from e0, show fb.eval (.tmp 18) = _ from e1]
          exact run_mul _ _ _ _ w' HR.out.1
        | 5, _ =>
          obtain rfl := Option.some.inj ho
          have e0 : fb.tmps.getD 2 undef = .pointer (some ⟨w.heap.size, 0, none⟩) := hx 2 rfl
          have hr := load_rat w' _ _ _ hJ.1
          rw [← e0] at hr
          exact runs_value rfl hr ⟨rfl, trivial, hJ⟩
        | 6, _ =>
          obtain rfl := Option.some.inj ho
          have e0 : fb.tmps.getD 20 undef = Rv P Q := (hd 5 (by kernel_rfl) (by decide)).2 (by decide)
          refine runs_call rfl (fun _ _ => rfl) ?_
          show Calls _ _ #[fb.tmps.getD 20 undef] w' _
          rw [e0]
          exact (G3.out w').mono fun e w'' h => ⟨_, h.1, rfl, trivial, hJ.step h.2⟩
        | 7, _ =>
          obtain rfl := Option.some.inj ho
          have e0 : fb.tmps.getD 3 undef = .pointer (some ⟨w.heap.size + 1, 0, none⟩) := hx 3 rfl
          have hr := load_rat w' _ _ _ hJ.2.1
          rw [← e0] at hr
          exact runs_value rfl hr ⟨rfl, trivial, hJ⟩
        | 8, _ =>
          obtain rfl := Option.some.inj ho
          have e0 : fb.tmps.getD 22 undef = Rv P' Q' := (hd 7 (by kernel_rfl) (by decide)).2 (by decide)
          refine runs_call rfl (fun _ _ => rfl) ?_
          show Calls _ _ #[fb.tmps.getD 22 undef] w' _
          rw [e0]
          exact (G4.out w').mono fun e w'' h => ⟨_, h.1, rfl, trivial, hJ.step h.2⟩
        | 9, _ =>
          obtain rfl := Option.some.inj ho
          have e0 : fb.tmps.getD 21 undef = .int .i64 da := (hd 6 (by kernel_rfl) (by decide)).2 (by decide)
          have e1 : fb.tmps.getD 23 undef = .int .i64 db := (hd 8 (by kernel_rfl) (by decide)).2 (by decide)
          refine runs_value rfl ?_ ⟨rfl, trivial, hJ⟩
          rw [show fb.eval (.tmp 21) = _ from e0, show fb.eval (.tmp 23) = _ from e1]
          exact run_mul _ _ _ _ w' HR.out.2
        | 10, _ =>
          obtain rfl := Option.some.inj ho
          have e0 : fb.tmps.getD 19 undef = .int .i64 (P * P') := (hd 4 (by kernel_rfl) (by decide)).2 (by decide)
          have e1 : fb.tmps.getD 24 undef = .int .i64 (da * db) := (hd 9 (by kernel_rfl) (by decide)).2 (by decide)
          refine runs_call rfl (fun _ _ => rfl) ?_
          show Calls _ _ #[fb.tmps.getD 19 undef, fb.tmps.getD 24 undef] w' _
          rw [e0, e1]
          exact (G5.out w').mono fun e w'' h => ⟨_, h.1, rfl, trivial, hJ.step h.2⟩
        | 11, _ =>
          obtain rfl := Option.some.inj ho
          have e0 : fb.tmps.getD 25 undef = T3 (x, y, e) := (hd 10 (by kernel_rfl) (by decide)).2 (by decide)
          refine runs_value rfl ?_ ⟨rfl, trivial, hJ⟩
          rw [show fb.eval (.tmp 25) = _ from e0]
          rfl
        | 12, _ =>
          obtain rfl := Option.some.inj ho
          have e0 : fb.tmps.getD 25 undef = T3 (x, y, e) := (hd 10 (by kernel_rfl) (by decide)).2 (by decide)
          refine runs_value rfl ?_ ⟨rfl, trivial, hJ⟩
          rw [show fb.eval (.tmp 25) = _ from e0]
          rfl
        | 13, _ =>
          obtain rfl := Option.some.inj ho
          have hu : d 13 = false := hu
          have e0 : fb.tmps.getD 26 undef = Rv x y := (hd 11 (by kernel_rfl) (by decide)).2 (by decide)
          have e6 : fb.tmps.getD 4 undef = .pointer (some ⟨w.heap.size + 2, 0, none⟩) := hx 4 rfl
          have hz8 := hJ.2.2.1
          rw [hu] at hz8
          have hz8 : Blk w' (w.heap.size + 2) (Rc 0 0) 23 := hz8
          have hr := run_storeAt_mid (P := Tryd.prog) w' (w.heap.size + 2) 0 23 (Rc x y).toArray (hz8.there 0 _ (Nat.le_refl 2)) (by kernel_rfl) (by simp [Rc, Value.oneCell'])
          rw [show (Value.agg (Rc x y).toArray) = fb.tmps.getD 26 undef from e0.symm, ← e6] at hr
          exact runs_unit rfl hr ⟨trivial, trivial, Blk.outside _ _ _ _ hJ.1 (by omega), Blk.outside _ _ _ _ hJ.2.1 (by omega), hz8.whole (Rc x y) rfl, below_setCells _ (by omega) _ _ _ hJ.2.2.2⟩
      · intro d vals w' hJ hall hf
        have e12 : vals 12 = .int .i64 e := hf 12 (by decide)
        rw [hall 13 (by decide)] at hJ
        simp only [puts, List.length_cons, List.length_nil, Nat.zero_add, Nat.reduceAdd, List.drop_succ_cons, List.drop_zero, e12]
        have J := Lib.hid (show Blk w' (w.heap.size + 2) (Rc x y) 23 ∧ Below w.heap.size w w' from ⟨hJ.2.2.1, hJ.2.2.2⟩)
        clear e12 hJ hall hf S0
        go_frame
        go_wp2_with fail
        exact rat_end rfl rfl rfl J.out.1 J.out.2 rfl
    · skip
      have hT : t = (0, 0, 1) := by rw [ht]; exact if_neg (fun k => h2 k.2)
      rw [decide_eq_true h1] at g1
      rw [decide_eq_false h2] at g2
      have G1 := Lib.hid g1
      have G2 := Lib.hid g2
      have HT := Lib.hid hT
      have R := Lib.hid (Rats.three w P Q P' Q' 0 0)
      have B := Lib.hid (below_three (Below.refl w.heap.size w) P Q P' Q' 0 0)
      clear g1 g2 hT ht h1 h2 hp hq hp' hq'
      show Calls _ _ #[.agg #[.int .i64 P, .int .i64 Q], .agg #[.int .i64 P', .int .i64 Q']] _ _
      go_enter Tryd.func36, Tryd.ntmps36
      go_wp2_with fail
      refine (G1.out _).mono ?_
      rintro e v1 ⟨rfl, hb⟩
      have q := R.out.step hb
      have hB := B.out.trans (hb.mono B.out.size)
      clear R B hb
      obtain ⟨⟨cl0, ch0⟩, lt0⟩ := q.get (.head _)
      obtain ⟨⟨cl1, ch1⟩, lt1⟩ := q.get (.tail _ (.head _))
      obtain ⟨⟨cl2, ch2⟩, lt2⟩ := q.get (.tail _ (.tail _ (.head _)))
      have R := Lib.hid q
      have B := Lib.hid hB
      clear q hB
      go_wp2_with fail
      refine (G2.out _).mono ?_
      rintro e v2 ⟨rfl, hb⟩
      have q := R.out.step hb
      have hB := B.out.trans (hb.mono B.out.size)
      clear cl0 ch0 lt0 cl1 ch1 lt1 cl2 ch2 lt2
      clear R B hb
      obtain ⟨⟨cl0, ch0⟩, lt0⟩ := q.get (.head _)
      obtain ⟨⟨cl1, ch1⟩, lt1⟩ := q.get (.tail _ (.head _))
      obtain ⟨⟨cl2, ch2⟩, lt2⟩ := q.get (.tail _ (.tail _ (.head _)))
      have R := Lib.hid q
      have B := Lib.hid hB
      clear q hB
      obtain ⟨f0, f1⟩ := (Rc_facts (R.out _ (.tail _ (.tail _ (.head _))))).2
      go_wp2_with fail
      exact rat_end rfl rfl rfl (Rc_set (R.out _ (.tail _ (.tail _ (.head _)))) 0 0) (below_set2 (c := w.heap.size + 2) B.out (by simp) (.int .i64 0) (.int .i64 0)) HT.out
  · skip
    have hT : t = (0, 0, 1) := by rw [ht]; exact if_neg (fun k => h1 k.1)
    rw [decide_eq_false h1] at g1
    have G1 := Lib.hid g1
    have G2 := Lib.hid g2
    have HT := Lib.hid hT
    have R := Lib.hid (Rats.three w P Q P' Q' 0 0)
    have B := Lib.hid (below_three (Below.refl w.heap.size w) P Q P' Q' 0 0)
    clear g1 g2 hT ht h1 hp hq hp' hq'
    show Calls _ _ #[.agg #[.int .i64 P, .int .i64 Q], .agg #[.int .i64 P', .int .i64 Q']] _ _
    go_enter Tryd.func36, Tryd.ntmps36
    go_wp2_with fail
    refine (G1.out _).mono ?_
    rintro e v1 ⟨rfl, hb⟩
    have q := R.out.step hb
    have hB := B.out.trans (hb.mono B.out.size)
    clear R B hb
    obtain ⟨⟨cl0, ch0⟩, lt0⟩ := q.get (.head _)
    obtain ⟨⟨cl1, ch1⟩, lt1⟩ := q.get (.tail _ (.head _))
    obtain ⟨⟨cl2, ch2⟩, lt2⟩ := q.get (.tail _ (.tail _ (.head _)))
    have R := Lib.hid q
    have B := Lib.hid hB
    clear q hB
    obtain ⟨f0, f1⟩ := (Rc_facts (R.out _ (.tail _ (.tail _ (.head _))))).2
    go_wp2_with fail
    exact rat_end rfl rfl rfl (Rc_set (R.out _ (.tail _ (.tail _ (.head _)))) 0 0) (below_set2 (c := w.heap.size + 2) B.out (by simp) (.int .i64 0) (.int .i64 0)) HT.out
end Go.Proofs.YtbkgigbalnmbkaaDoor
