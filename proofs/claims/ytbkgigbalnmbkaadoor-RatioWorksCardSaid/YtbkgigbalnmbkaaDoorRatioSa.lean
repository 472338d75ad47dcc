/- The contract of dioramalaw04.same. -/
import Derived.Test.YtbkgigbalnmbkaaDoorRatioRe
import Derived.Test.YtbkgigbalnmbkaaDoorRatioRb
import Derived.Test.YtbkgigbalnmbkaaDoorRatioPj
import Derived.Test.YtbkgigbalnmbkaaDoorRatioPi
import Derived.Test.YtbkgigbalnmbkaaDoorGuards
import Derived.Test.YtbkgigbalnmbkaaDoorPick
namespace Go.Proofs.YtbkgigbalnmbkaaDoor
open Go.RowKit
set_option linter.unusedVariables false
set_option maxRecDepth 100000

set_option maxHeartbeats 16000000 in
theorem same_any (P Q P' Q' : Int) (w : World) (hp : In64 P) (hq : In64 Q) (hp' : In64 P') (hq' : In64 Q') (hD : Door w) :
    Calls Tryd.prog 17 #[Rv P Q, Rv P' Q'] w (Says (.bool true) w) := by
  have g1 := fun W => add_any P Q P' Q' W hp hq hp' hq'
  have g2 := fun W => refAdd_any P Q P' Q' W hp hq hp' hq'
  have g3 := fun W => sub_any P Q P' Q' W hp hq hp' hq'
  have g4 := fun W => refSub_any P Q P' Q' W hp hq hp' hq'
  have g5 := fun W => mul_any P Q P' Q' W hp hq hp' hq'
  have g6 := fun W => refMul_any P Q P' Q' W hp hq hp' hq'
  have g7 := fun W => compare_any P Q P' Q' W hp hq hp' hq'
  have g8 := fun W => refCompare_any P Q P' Q' W hp hq hp' hq'
  have g9 := fun W => floor_any P Q W hp hq
  have g10 := fun W => refFloor_any P Q W hp hq
  have g11 := fun W (h : Door W) => text_any P Q W hp hq h
  have g12 := fun W => refText_any P Q W hp hq
  generalize Rt.add3 P Q P' Q' = t1 at *
  generalize Rt.sub3 P Q P' Q' = t2 at *
  generalize Rt.mul3 P Q P' Q' = t3 at *
  generalize Rt.cmp3 P Q P' Q' = n at *
  generalize Rt.flo P Q = m at *
  generalize bs (Rt.text P Q) = s at *
  obtain ⟨x1, y1, e1⟩ := t1
  obtain ⟨x2, y2, e2⟩ := t2
  obtain ⟨x3, y3, e3⟩ := t3
  have hself : (s.toList == s.toList) = true := by simp
  have HF := Lib.hid hself
  have G1 := Lib.hid g1
  have G2 := Lib.hid g2
  have G3 := Lib.hid g3
  have G4 := Lib.hid g4
  have G5 := Lib.hid g5
  have G6 := Lib.hid g6
  have G7 := Lib.hid g7
  have G8 := Lib.hid g8
  have G9 := Lib.hid g9
  have G10 := Lib.hid g10
  have G11 := Lib.hid g11
  have G12 := Lib.hid g12
  have HD := Lib.hid hD
  have R := Lib.hid (Rats.two w P Q P' Q')
  have B := Lib.hid (below_two (Below.refl w.heap.size w) P Q P' Q')
  clear g1 g2 g3 g4 g5 g6 g7 g8 g9 g10 g11 g12 hself hD hp hq hp' hq'
  show Calls _ _ #[.agg #[.int .i64 P, .int .i64 Q], .agg #[.int .i64 P', .int .i64 Q']] _ _
  go_enter Tryd.func17, Tryd.ntmps17
  go_wp2_with fail
  refine (G1.out _).mono ?_
  rintro e v1 ⟨rfl, hb⟩
  have q := R.out.step hb
  have hB := B.out.trans (hb.mono B.out.size)
  clear R B hb
  obtain ⟨⟨cl0, ch0⟩, lt0⟩ := q.get (.head _)
  obtain ⟨⟨cl1, ch1⟩, lt1⟩ := q.get (.tail _ (.head _))
  have R := Lib.hid (q.new x1 y1)
  have B := Lib.hid (hB.alloc hB.size (.cells (Rc x1 y1).toArray 23))
  clear q hB
  simp only [T3, Rv_def]
  go_wp2_with fail
  generalize v1.heap.size = k1 at *
  refine (G2.out _).mono ?_
  rintro e v2 ⟨rfl, hb⟩
  have q := R.out.step hb
  have hB := B.out.trans (hb.mono B.out.size)
  clear cl0 ch0 lt0 cl1 ch1 lt1
  clear R B hb
  obtain ⟨⟨cl0, ch0⟩, lt0⟩ := q.get (.head _)
  obtain ⟨⟨cl1, ch1⟩, lt1⟩ := q.get (.tail _ (.head _))
  obtain ⟨⟨cl2, ch2⟩, lt2⟩ := q.get (.tail _ (.tail _ (.head _)))
  have R := Lib.hid (q.new x1 y1)
  have B := Lib.hid (hB.alloc hB.size (.cells (Rc x1 y1).toArray 23))
  clear q hB
  simp only [T3, Rv_def]
  go_wp2_with fail
  generalize v2.heap.size = k2 at *
  refine (G3.out _).mono ?_
  rintro e v3 ⟨rfl, hb⟩
  have q := R.out.step hb
  have hB := B.out.trans (hb.mono B.out.size)
  clear cl0 ch0 lt0 cl1 ch1 lt1 cl2 ch2 lt2
  clear R B hb
  obtain ⟨⟨cl0, ch0⟩, lt0⟩ := q.get (.head _)
  obtain ⟨⟨cl1, ch1⟩, lt1⟩ := q.get (.tail _ (.head _))
  obtain ⟨⟨cl2, ch2⟩, lt2⟩ := q.get (.tail _ (.tail _ (.head _)))
  obtain ⟨⟨cl3, ch3⟩, lt3⟩ := q.get (.tail _ (.tail _ (.tail _ (.head _))))
  have R := Lib.hid (q.new x2 y2)
  have B := Lib.hid (hB.alloc hB.size (.cells (Rc x2 y2).toArray 23))
  clear q hB
  simp only [T3, Rv_def]
  go_wp2_with fail
  generalize v3.heap.size = k3 at *
  refine (G4.out _).mono ?_
  rintro e v4 ⟨rfl, hb⟩
  have q := R.out.step hb
  have hB := B.out.trans (hb.mono B.out.size)
  clear cl0 ch0 lt0 cl1 ch1 lt1 cl2 ch2 lt2 cl3 ch3 lt3
  clear R B hb
  obtain ⟨⟨cl0, ch0⟩, lt0⟩ := q.get (.head _)
  obtain ⟨⟨cl1, ch1⟩, lt1⟩ := q.get (.tail _ (.head _))
  obtain ⟨⟨cl2, ch2⟩, lt2⟩ := q.get (.tail _ (.tail _ (.head _)))
  obtain ⟨⟨cl3, ch3⟩, lt3⟩ := q.get (.tail _ (.tail _ (.tail _ (.head _))))
  obtain ⟨⟨cl4, ch4⟩, lt4⟩ := q.get (.tail _ (.tail _ (.tail _ (.tail _ (.head _)))))
  have R := Lib.hid (q.new x2 y2)
  have B := Lib.hid (hB.alloc hB.size (.cells (Rc x2 y2).toArray 23))
  clear q hB
  simp only [T3, Rv_def]
  go_wp2_with fail
  generalize v4.heap.size = k4 at *
  refine (G5.out _).mono ?_
  rintro e v5 ⟨rfl, hb⟩
  have q := R.out.step hb
  have hB := B.out.trans (hb.mono B.out.size)
  clear cl0 ch0 lt0 cl1 ch1 lt1 cl2 ch2 lt2 cl3 ch3 lt3 cl4 ch4 lt4
  clear R B hb
  obtain ⟨⟨cl0, ch0⟩, lt0⟩ := q.get (.head _)
  obtain ⟨⟨cl1, ch1⟩, lt1⟩ := q.get (.tail _ (.head _))
  obtain ⟨⟨cl2, ch2⟩, lt2⟩ := q.get (.tail _ (.tail _ (.head _)))
  obtain ⟨⟨cl3, ch3⟩, lt3⟩ := q.get (.tail _ (.tail _ (.tail _ (.head _))))
  obtain ⟨⟨cl4, ch4⟩, lt4⟩ := q.get (.tail _ (.tail _ (.tail _ (.tail _ (.head _)))))
  obtain ⟨⟨cl5, ch5⟩, lt5⟩ := q.get (.tail _ (.tail _ (.tail _ (.tail _ (.tail _ (.head _))))))
  have R := Lib.hid (q.new x3 y3)
  have B := Lib.hid (hB.alloc hB.size (.cells (Rc x3 y3).toArray 23))
  clear q hB
  simp only [T3, Rv_def]
  go_wp2_with fail
  generalize v5.heap.size = k5 at *
  refine (G6.out _).mono ?_
  rintro e v6 ⟨rfl, hb⟩
  have q := R.out.step hb
  have hB := B.out.trans (hb.mono B.out.size)
  clear cl0 ch0 lt0 cl1 ch1 lt1 cl2 ch2 lt2 cl3 ch3 lt3 cl4 ch4 lt4 cl5 ch5 lt5
  clear R B hb
  obtain ⟨⟨cl0, ch0⟩, lt0⟩ := q.get (.head _)
  obtain ⟨⟨cl1, ch1⟩, lt1⟩ := q.get (.tail _ (.head _))
  obtain ⟨⟨cl2, ch2⟩, lt2⟩ := q.get (.tail _ (.tail _ (.head _)))
  obtain ⟨⟨cl3, ch3⟩, lt3⟩ := q.get (.tail _ (.tail _ (.tail _ (.head _))))
  obtain ⟨⟨cl4, ch4⟩, lt4⟩ := q.get (.tail _ (.tail _ (.tail _ (.tail _ (.head _)))))
  obtain ⟨⟨cl5, ch5⟩, lt5⟩ := q.get (.tail _ (.tail _ (.tail _ (.tail _ (.tail _ (.head _))))))
  obtain ⟨⟨cl6, ch6⟩, lt6⟩ := q.get (.tail _ (.tail _ (.tail _ (.tail _ (.tail _ (.tail _ (.head _)))))))
  have R := Lib.hid (q.new x3 y3)
  have B := Lib.hid (hB.alloc hB.size (.cells (Rc x3 y3).toArray 23))
  clear q hB
  simp only [T3, Rv_def]
  go_wp2_with fail
  obtain ⟨V, hV⟩ : ∃ V, V = v6.alloc (.cells (Rc x3 y3).toArray 23) := ⟨_, rfl⟩
  rw [show v6.alloc (.cells #[.int .i64 x3, .int .i64 y3] 23) = V from hV.symm]
  rw [← hV] at R B
  clear hV
  clear cl0 ch0 lt0 cl1 ch1 lt1 cl2 ch2 lt2 cl3 ch3 lt3 cl4 ch4 lt4 cl5 ch5 lt5 cl6 ch6 lt6
  generalize v6.heap.size = k6 at *
  refine wp_region_guarded [53, 54, 55, 56, 57, 58, 59, 60, 61, 62, 63, 64, 65, 66, 67, 68, 69, 70, 71, 72, 73, 74, 75, 76, 77, 78, 79, 80, 81, 82, 83, 84, 85, 86, 87, 88, 89, 90, 91, 92, 93, 94, 95, 96, 97, 98, 99, 100, 101, 102, 103] [.is (Rv x1 y1), .is (Rv x1 y1), .is (.bool true), .is (.bool true), .is (.int .i64 e1), .is (.int .i64 e1), .is (.bool true), .is (.bool true), .is (.bool true), .is (Rv x2 y2), .is (Rv x2 y2), .is (.bool true), .is (.bool true), .is (.bool true), .is (.int .i64 e2), .is (.int .i64 e2), .is (.bool true), .is (.bool true), .is (.bool true), .is (Rv x3 y3), .is (Rv x3 y3), .is (.bool true), .is (.bool true), .is (.bool true), .is (.int .i64 e3), .is (.int .i64 e3), .is (.bool true), .is (.bool true), .is (.bool true), .is (Rv P Q), .is (Rv P' Q'), .is (.int .i64 n), .is (Rv P Q), .is (Rv P' Q'), .is (.int .i64 n), .is (.bool true), .is (.bool true), .is (.bool true), .is (Rv P Q), .is (.int .i64 m), .is (Rv P Q), .is (.int .i64 m), .is (.bool true), .is (.bool true), .is (.bool true), .is (Rv P Q), .is (.string s), .is (Rv P Q), .is (.string s), .is (.bool true), .is (.bool true)] (by kernel_rfl) (by kernel_rfl) ?_ ?_
  · intro i hi fb w' hb hd hx o ho
    match i, hi with
    | 0, _ =>
      obtain rfl := Option.some.inj ho
      have e : fb.tmps.getD 5 undef = .pointer (some ⟨k1, 0, none⟩) := hx 5 rfl
      have hr := load_rat w' _ _ _ (R.out.step hb _ (.tail _ (.tail _ (.tail _ (.tail _ (.tail _ (.head _)))))))
      rw [← e] at hr
      exact runs_value rfl hr ⟨rfl, Below.refl _ _⟩
    | 1, _ =>
      obtain rfl := Option.some.inj ho
      have e : fb.tmps.getD 7 undef = .pointer (some ⟨k2, 0, none⟩) := hx 7 rfl
      have hr := load_rat w' _ _ _ (R.out.step hb _ (.tail _ (.tail _ (.tail _ (.tail _ (.head _))))))
      rw [← e] at hr
      exact runs_value rfl hr ⟨rfl, Below.refl _ _⟩
    | 2, _ =>
      obtain rfl := Option.some.inj ho
      have e0 : fb.tmps.getD 53 undef = Rv x1 y1 := hd 0 (by kernel_rfl) (by decide)
      have e1 : fb.tmps.getD 54 undef = Rv x1 y1 := hd 1 (by kernel_rfl) (by decide)
      refine runs_value rfl ?_ ⟨rfl, Below.refl _ _⟩
      rw [show fb.eval (.tmp 53) = _ from e0, show fb.eval (.tmp 54) = _ from e1]
      simp only [Rv_def]
      go_simp
    | 3, _ =>
      obtain rfl := Option.some.inj ho
      exact ⟨hd 2 (by kernel_rfl) (by decide), Below.refl _ _⟩
    | 4, _ =>
      obtain rfl := Option.some.inj ho
      refine ⟨true, hd 3 (by kernel_rfl) (by decide), fun _ => ?_, fun h => absurd rfl h⟩
      exact ⟨hx 6 rfl, Below.refl _ _⟩
    | 5, _ =>
      obtain rfl := Option.some.inj ho
      refine ⟨true, hd 3 (by kernel_rfl) (by decide), fun _ => ?_, fun h => absurd rfl h⟩
      exact ⟨hx 8 rfl, Below.refl _ _⟩
    | 6, _ =>
      obtain rfl := Option.some.inj ho
      refine ⟨true, hd 3 (by kernel_rfl) (by decide), fun _ => ?_, fun h => absurd rfl h⟩
      have e0 : fb.tmps.getD 57 undef = .int .i64 e1 := hd 4 (by kernel_rfl) (by decide)
      have e1 : fb.tmps.getD 58 undef = .int .i64 e1 := hd 5 (by kernel_rfl) (by decide)
      refine runs_value rfl ?_ ⟨rfl, Below.refl _ _⟩
      rw [show fb.eval (.tmp 57) = _ from e0, show fb.eval (.tmp 58) = _ from e1]
      go_simp
    | 7, _ =>
      obtain rfl := Option.some.inj ho
      have e1 : fb.tmps.getD 56 undef = .bool true := hd 3 (by kernel_rfl) (by decide)
      have e2 : fb.tmps.getD 59 undef = .bool true := hd 6 (by kernel_rfl) (by decide)
      exact runs_pick rfl true e1 ⟨e2, Below.refl _ _⟩
    | 8, _ =>
      obtain rfl := Option.some.inj ho
      exact ⟨hd 7 (by kernel_rfl) (by decide), Below.refl _ _⟩
    | 9, _ =>
      obtain rfl := Option.some.inj ho
      refine ⟨true, hd 8 (by kernel_rfl) (by decide), fun _ => ?_, fun h => absurd rfl h⟩
      have e : fb.tmps.getD 9 undef = .pointer (some ⟨k3, 0, none⟩) := hx 9 rfl
      have hr := load_rat w' _ _ _ (R.out.step hb _ (.tail _ (.tail _ (.tail _ (.head _)))))
      rw [← e] at hr
      exact runs_value rfl hr ⟨rfl, Below.refl _ _⟩
    | 10, _ =>
      obtain rfl := Option.some.inj ho
      refine ⟨true, hd 8 (by kernel_rfl) (by decide), fun _ => ?_, fun h => absurd rfl h⟩
      have e : fb.tmps.getD 11 undef = .pointer (some ⟨k4, 0, none⟩) := hx 11 rfl
      have hr := load_rat w' _ _ _ (R.out.step hb _ (.tail _ (.tail _ (.head _))))
      rw [← e] at hr
      exact runs_value rfl hr ⟨rfl, Below.refl _ _⟩
    | 11, _ =>
      obtain rfl := Option.some.inj ho
      refine ⟨true, hd 8 (by kernel_rfl) (by decide), fun _ => ?_, fun h => absurd rfl h⟩
      have e0 : fb.tmps.getD 62 undef = Rv x2 y2 := hd 9 (by kernel_rfl) (by decide)
      have e1 : fb.tmps.getD 63 undef = Rv x2 y2 := hd 10 (by kernel_rfl) (by decide)
      refine runs_value rfl ?_ ⟨rfl, Below.refl _ _⟩
      rw [show fb.eval (.tmp 62) = _ from e0, show fb.eval (.tmp 63) = _ from e1]
      simp only [Rv_def]
      go_simp
    | 12, _ =>
      obtain rfl := Option.some.inj ho
      have e1 : fb.tmps.getD 61 undef = .bool true := hd 8 (by kernel_rfl) (by decide)
      have e2 : fb.tmps.getD 64 undef = .bool true := hd 11 (by kernel_rfl) (by decide)
      exact runs_pick rfl true e1 ⟨e2, Below.refl _ _⟩
    | 13, _ =>
      obtain rfl := Option.some.inj ho
      exact ⟨hd 12 (by kernel_rfl) (by decide), Below.refl _ _⟩
    | 14, _ =>
      obtain rfl := Option.some.inj ho
      refine ⟨true, hd 13 (by kernel_rfl) (by decide), fun _ => ?_, fun h => absurd rfl h⟩
      exact ⟨hx 10 rfl, Below.refl _ _⟩
    | 15, _ =>
      obtain rfl := Option.some.inj ho
      refine ⟨true, hd 13 (by kernel_rfl) (by decide), fun _ => ?_, fun h => absurd rfl h⟩
      exact ⟨hx 12 rfl, Below.refl _ _⟩
    | 16, _ =>
      obtain rfl := Option.some.inj ho
      refine ⟨true, hd 13 (by kernel_rfl) (by decide), fun _ => ?_, fun h => absurd rfl h⟩
      have e0 : fb.tmps.getD 67 undef = .int .i64 e2 := hd 14 (by kernel_rfl) (by decide)
      have e1 : fb.tmps.getD 68 undef = .int .i64 e2 := hd 15 (by kernel_rfl) (by decide)
      refine runs_value rfl ?_ ⟨rfl, Below.refl _ _⟩
      rw [show fb.eval (.tmp 67) = _ from e0, show fb.eval (.tmp 68) = _ from e1]
      go_simp
    | 17, _ =>
      obtain rfl := Option.some.inj ho
      have e1 : fb.tmps.getD 66 undef = .bool true := hd 13 (by kernel_rfl) (by decide)
      have e2 : fb.tmps.getD 69 undef = .bool true := hd 16 (by kernel_rfl) (by decide)
      exact runs_pick rfl true e1 ⟨e2, Below.refl _ _⟩
    | 18, _ =>
      obtain rfl := Option.some.inj ho
      exact ⟨hd 17 (by kernel_rfl) (by decide), Below.refl _ _⟩
    | 19, _ =>
      obtain rfl := Option.some.inj ho
      refine ⟨true, hd 18 (by kernel_rfl) (by decide), fun _ => ?_, fun h => absurd rfl h⟩
      have e : fb.tmps.getD 13 undef = .pointer (some ⟨k5, 0, none⟩) := hx 13 rfl
      have hr := load_rat w' _ _ _ (R.out.step hb _ (.tail _ (.head _)))
      rw [← e] at hr
      exact runs_value rfl hr ⟨rfl, Below.refl _ _⟩
    | 20, _ =>
      obtain rfl := Option.some.inj ho
      refine ⟨true, hd 18 (by kernel_rfl) (by decide), fun _ => ?_, fun h => absurd rfl h⟩
      have e : fb.tmps.getD 15 undef = .pointer (some ⟨k6, 0, none⟩) := hx 15 rfl
      have hr := load_rat w' _ _ _ (R.out.step hb _ (.head _))
      rw [← e] at hr
      exact runs_value rfl hr ⟨rfl, Below.refl _ _⟩
    | 21, _ =>
      obtain rfl := Option.some.inj ho
      refine ⟨true, hd 18 (by kernel_rfl) (by decide), fun _ => ?_, fun h => absurd rfl h⟩
      have e0 : fb.tmps.getD 72 undef = Rv x3 y3 := hd 19 (by kernel_rfl) (by decide)
      have e1 : fb.tmps.getD 73 undef = Rv x3 y3 := hd 20 (by kernel_rfl) (by decide)
      refine runs_value rfl ?_ ⟨rfl, Below.refl _ _⟩
      rw [show fb.eval (.tmp 72) = _ from e0, show fb.eval (.tmp 73) = _ from e1]
      simp only [Rv_def]
      go_simp
    | 22, _ =>
      obtain rfl := Option.some.inj ho
      have e1 : fb.tmps.getD 71 undef = .bool true := hd 18 (by kernel_rfl) (by decide)
      have e2 : fb.tmps.getD 74 undef = .bool true := hd 21 (by kernel_rfl) (by decide)
      exact runs_pick rfl true e1 ⟨e2, Below.refl _ _⟩
    | 23, _ =>
      obtain rfl := Option.some.inj ho
      exact ⟨hd 22 (by kernel_rfl) (by decide), Below.refl _ _⟩
    | 24, _ =>
      obtain rfl := Option.some.inj ho
      refine ⟨true, hd 23 (by kernel_rfl) (by decide), fun _ => ?_, fun h => absurd rfl h⟩
      exact ⟨hx 14 rfl, Below.refl _ _⟩
    | 25, _ =>
      obtain rfl := Option.some.inj ho
      refine ⟨true, hd 23 (by kernel_rfl) (by decide), fun _ => ?_, fun h => absurd rfl h⟩
      exact ⟨hx 16 rfl, Below.refl _ _⟩
    | 26, _ =>
      obtain rfl := Option.some.inj ho
      refine ⟨true, hd 23 (by kernel_rfl) (by decide), fun _ => ?_, fun h => absurd rfl h⟩
      have e0 : fb.tmps.getD 77 undef = .int .i64 e3 := hd 24 (by kernel_rfl) (by decide)
      have e1 : fb.tmps.getD 78 undef = .int .i64 e3 := hd 25 (by kernel_rfl) (by decide)
      refine runs_value rfl ?_ ⟨rfl, Below.refl _ _⟩
      rw [show fb.eval (.tmp 77) = _ from e0, show fb.eval (.tmp 78) = _ from e1]
      go_simp
    | 27, _ =>
      obtain rfl := Option.some.inj ho
      have e1 : fb.tmps.getD 76 undef = .bool true := hd 23 (by kernel_rfl) (by decide)
      have e2 : fb.tmps.getD 79 undef = .bool true := hd 26 (by kernel_rfl) (by decide)
      exact runs_pick rfl true e1 ⟨e2, Below.refl _ _⟩
    | 28, _ =>
      obtain rfl := Option.some.inj ho
      exact ⟨hd 27 (by kernel_rfl) (by decide), Below.refl _ _⟩
    | 29, _ =>
      obtain rfl := Option.some.inj ho
      refine ⟨true, hd 28 (by kernel_rfl) (by decide), fun _ => ?_, fun h => absurd rfl h⟩
      have e : fb.tmps.getD 2 undef = .pointer (some ⟨w.heap.size, 0, none⟩) := hx 2 rfl
      have hr := load_rat w' _ _ _ (R.out.step hb _ (.tail _ (.tail _ (.tail _ (.tail _ (.tail _ (.tail _ (.head _))))))))
      rw [← e] at hr
      exact runs_value rfl hr ⟨rfl, Below.refl _ _⟩
    | 30, _ =>
      obtain rfl := Option.some.inj ho
      refine ⟨true, hd 28 (by kernel_rfl) (by decide), fun _ => ?_, fun h => absurd rfl h⟩
      have e : fb.tmps.getD 3 undef = .pointer (some ⟨w.heap.size + 1, 0, none⟩) := hx 3 rfl
      have hr := load_rat w' _ _ _ (R.out.step hb _ (.tail _ (.tail _ (.tail _ (.tail _ (.tail _ (.tail _ (.tail _ (.head _)))))))))
      rw [← e] at hr
      exact runs_value rfl hr ⟨rfl, Below.refl _ _⟩
    | 31, _ =>
      obtain rfl := Option.some.inj ho
      refine ⟨true, hd 28 (by kernel_rfl) (by decide), fun _ => ?_, fun h => absurd rfl h⟩
      have e0 : fb.tmps.getD 82 undef = Rv P Q := hd 29 (by kernel_rfl) (by decide)
      have e1 : fb.tmps.getD 83 undef = Rv P' Q' := hd 30 (by kernel_rfl) (by decide)
      refine runs_call rfl (fun _ _ => rfl) ?_
      show Calls _ _ #[fb.tmps.getD 82 undef, fb.tmps.getD 83 undef] w' _
      rw [e0, e1]
      exact (G7.out w').mono fun e w'' h => ⟨_, h.1, rfl, h.2⟩
    | 32, _ =>
      obtain rfl := Option.some.inj ho
      refine ⟨true, hd 28 (by kernel_rfl) (by decide), fun _ => ?_, fun h => absurd rfl h⟩
      have e : fb.tmps.getD 2 undef = .pointer (some ⟨w.heap.size, 0, none⟩) := hx 2 rfl
      have hr := load_rat w' _ _ _ (R.out.step hb _ (.tail _ (.tail _ (.tail _ (.tail _ (.tail _ (.tail _ (.head _))))))))
      rw [← e] at hr
      exact runs_value rfl hr ⟨rfl, Below.refl _ _⟩
    | 33, _ =>
      obtain rfl := Option.some.inj ho
      refine ⟨true, hd 28 (by kernel_rfl) (by decide), fun _ => ?_, fun h => absurd rfl h⟩
      have e : fb.tmps.getD 3 undef = .pointer (some ⟨w.heap.size + 1, 0, none⟩) := hx 3 rfl
      have hr := load_rat w' _ _ _ (R.out.step hb _ (.tail _ (.tail _ (.tail _ (.tail _ (.tail _ (.tail _ (.tail _ (.head _)))))))))
      rw [← e] at hr
      exact runs_value rfl hr ⟨rfl, Below.refl _ _⟩
    | 34, _ =>
      obtain rfl := Option.some.inj ho
      refine ⟨true, hd 28 (by kernel_rfl) (by decide), fun _ => ?_, fun h => absurd rfl h⟩
      have e0 : fb.tmps.getD 85 undef = Rv P Q := hd 32 (by kernel_rfl) (by decide)
      have e1 : fb.tmps.getD 86 undef = Rv P' Q' := hd 33 (by kernel_rfl) (by decide)
      refine runs_call rfl (fun _ _ => rfl) ?_
      show Calls _ _ #[fb.tmps.getD 85 undef, fb.tmps.getD 86 undef] w' _
      rw [e0, e1]
      exact (G8.out w').mono fun e w'' h => ⟨_, h.1, rfl, h.2⟩
    | 35, _ =>
      obtain rfl := Option.some.inj ho
      refine ⟨true, hd 28 (by kernel_rfl) (by decide), fun _ => ?_, fun h => absurd rfl h⟩
      have e0 : fb.tmps.getD 84 undef = .int .i64 n := hd 31 (by kernel_rfl) (by decide)
      have e1 : fb.tmps.getD 87 undef = .int .i64 n := hd 34 (by kernel_rfl) (by decide)
      refine runs_value rfl ?_ ⟨rfl, Below.refl _ _⟩
      rw [show fb.eval (.tmp 84) = _ from e0, show fb.eval (.tmp 87) = _ from e1]
      go_simp
    | 36, _ =>
      obtain rfl := Option.some.inj ho
      have e1 : fb.tmps.getD 81 undef = .bool true := hd 28 (by kernel_rfl) (by decide)
      have e2 : fb.tmps.getD 88 undef = .bool true := hd 35 (by kernel_rfl) (by decide)
      exact runs_pick rfl true e1 ⟨e2, Below.refl _ _⟩
    | 37, _ =>
      obtain rfl := Option.some.inj ho
      exact ⟨hd 36 (by kernel_rfl) (by decide), Below.refl _ _⟩
    | 38, _ =>
      obtain rfl := Option.some.inj ho
      refine ⟨true, hd 37 (by kernel_rfl) (by decide), fun _ => ?_, fun h => absurd rfl h⟩
      have e : fb.tmps.getD 2 undef = .pointer (some ⟨w.heap.size, 0, none⟩) := hx 2 rfl
      have hr := load_rat w' _ _ _ (R.out.step hb _ (.tail _ (.tail _ (.tail _ (.tail _ (.tail _ (.tail _ (.head _))))))))
      rw [← e] at hr
      exact runs_value rfl hr ⟨rfl, Below.refl _ _⟩
    | 39, _ =>
      obtain rfl := Option.some.inj ho
      refine ⟨true, hd 37 (by kernel_rfl) (by decide), fun _ => ?_, fun h => absurd rfl h⟩
      have e0 : fb.tmps.getD 91 undef = Rv P Q := hd 38 (by kernel_rfl) (by decide)
      refine runs_call rfl (fun _ _ => rfl) ?_
      show Calls _ _ #[fb.tmps.getD 91 undef] w' _
      rw [e0]
      exact (G9.out w').mono fun e w'' h => ⟨_, h.1, rfl, h.2⟩
    | 40, _ =>
      obtain rfl := Option.some.inj ho
      refine ⟨true, hd 37 (by kernel_rfl) (by decide), fun _ => ?_, fun h => absurd rfl h⟩
      have e : fb.tmps.getD 2 undef = .pointer (some ⟨w.heap.size, 0, none⟩) := hx 2 rfl
      have hr := load_rat w' _ _ _ (R.out.step hb _ (.tail _ (.tail _ (.tail _ (.tail _ (.tail _ (.tail _ (.head _))))))))
      rw [← e] at hr
      exact runs_value rfl hr ⟨rfl, Below.refl _ _⟩
    | 41, _ =>
      obtain rfl := Option.some.inj ho
      refine ⟨true, hd 37 (by kernel_rfl) (by decide), fun _ => ?_, fun h => absurd rfl h⟩
      have e0 : fb.tmps.getD 93 undef = Rv P Q := hd 40 (by kernel_rfl) (by decide)
      refine runs_call rfl (fun _ _ => rfl) ?_
      show Calls _ _ #[fb.tmps.getD 93 undef] w' _
      rw [e0]
      exact (G10.out w').mono fun e w'' h => ⟨_, h.1, rfl, h.2⟩
    | 42, _ =>
      obtain rfl := Option.some.inj ho
      refine ⟨true, hd 37 (by kernel_rfl) (by decide), fun _ => ?_, fun h => absurd rfl h⟩
      have e0 : fb.tmps.getD 92 undef = .int .i64 m := hd 39 (by kernel_rfl) (by decide)
      have e1 : fb.tmps.getD 94 undef = .int .i64 m := hd 41 (by kernel_rfl) (by decide)
      refine runs_value rfl ?_ ⟨rfl, Below.refl _ _⟩
      rw [show fb.eval (.tmp 92) = _ from e0, show fb.eval (.tmp 94) = _ from e1]
      go_simp
    | 43, _ =>
      obtain rfl := Option.some.inj ho
      have e1 : fb.tmps.getD 90 undef = .bool true := hd 37 (by kernel_rfl) (by decide)
      have e2 : fb.tmps.getD 95 undef = .bool true := hd 42 (by kernel_rfl) (by decide)
      exact runs_pick rfl true e1 ⟨e2, Below.refl _ _⟩
    | 44, _ =>
      obtain rfl := Option.some.inj ho
      exact ⟨hd 43 (by kernel_rfl) (by decide), Below.refl _ _⟩
    | 45, _ =>
      obtain rfl := Option.some.inj ho
      refine ⟨true, hd 44 (by kernel_rfl) (by decide), fun _ => ?_, fun h => absurd rfl h⟩
      have e : fb.tmps.getD 2 undef = .pointer (some ⟨w.heap.size, 0, none⟩) := hx 2 rfl
      have hr := load_rat w' _ _ _ (R.out.step hb _ (.tail _ (.tail _ (.tail _ (.tail _ (.tail _ (.tail _ (.head _))))))))
      rw [← e] at hr
      exact runs_value rfl hr ⟨rfl, Below.refl _ _⟩
    | 46, _ =>
      obtain rfl := Option.some.inj ho
      refine ⟨true, hd 44 (by kernel_rfl) (by decide), fun _ => ?_, fun h => absurd rfl h⟩
      have e0 : fb.tmps.getD 98 undef = Rv P Q := hd 45 (by kernel_rfl) (by decide)
      refine runs_call rfl (fun _ _ => rfl) ?_
      show Calls _ _ #[fb.tmps.getD 98 undef] w' _
      rw [e0]
      exact (G11.out w' (HD.out.below (B.out.trans (hb.mono B.out.size)) (Nat.le_refl _))).mono fun e w'' h => ⟨_, h.1, rfl, h.2⟩
    | 47, _ =>
      obtain rfl := Option.some.inj ho
      refine ⟨true, hd 44 (by kernel_rfl) (by decide), fun _ => ?_, fun h => absurd rfl h⟩
      have e : fb.tmps.getD 2 undef = .pointer (some ⟨w.heap.size, 0, none⟩) := hx 2 rfl
      have hr := load_rat w' _ _ _ (R.out.step hb _ (.tail _ (.tail _ (.tail _ (.tail _ (.tail _ (.tail _ (.head _))))))))
      rw [← e] at hr
      exact runs_value rfl hr ⟨rfl, Below.refl _ _⟩
    | 48, _ =>
      obtain rfl := Option.some.inj ho
      refine ⟨true, hd 44 (by kernel_rfl) (by decide), fun _ => ?_, fun h => absurd rfl h⟩
      have e0 : fb.tmps.getD 100 undef = Rv P Q := hd 47 (by kernel_rfl) (by decide)
      refine runs_call rfl (fun _ _ => rfl) ?_
      show Calls _ _ #[fb.tmps.getD 100 undef] w' _
      rw [e0]
      exact (G12.out w').mono fun e w'' h => ⟨_, h.1, rfl, h.2⟩
    | 49, _ =>
      obtain rfl := Option.some.inj ho
      refine ⟨true, hd 44 (by kernel_rfl) (by decide), fun _ => ?_, fun h => absurd rfl h⟩
      have e0 : fb.tmps.getD 99 undef = .string s := hd 46 (by kernel_rfl) (by decide)
      have e1 : fb.tmps.getD 101 undef = .string s := hd 48 (by kernel_rfl) (by decide)
      refine runs_value rfl ?_ ⟨rfl, Below.refl _ _⟩
      rw [show fb.eval (.tmp 99) = _ from e0, show fb.eval (.tmp 101) = _ from e1]
      have hself := HF.out
      go_simp
    | 50, _ =>
      obtain rfl := Option.some.inj ho
      have e1 : fb.tmps.getD 97 undef = .bool true := hd 44 (by kernel_rfl) (by decide)
      have e2 : fb.tmps.getD 102 undef = .bool true := hd 49 (by kernel_rfl) (by decide)
      exact runs_pick rfl true e1 ⟨e2, Below.refl _ _⟩
    | n + 51, h => exact absurd h (by simp)
  · intro vals w' hb hf
    have ev : vals 50 = .bool true := hf 50 (by decide)
    simp only [puts, List.length_cons, List.length_nil, Nat.zero_add, Nat.reduceAdd, List.drop_succ_cons, List.drop_zero, ev]
    have B2 := Lib.hid (B.out.trans (hb.mono B.out.size))
    clear ev hf hb R B
    go_frame
    go_wp2_with fail
    go_ret
    exact ⟨rfl, B2.out⟩
end Go.Proofs.YtbkgigbalnmbkaaDoor
