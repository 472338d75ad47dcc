/- The walk of the statement RatioLaws. -/
import Derived.Test.YtbkgigbalnmbkaaDoorRatioPq
namespace Go.Proofs.YtbkgigbalnmbkaaDoor
open Go.RowKit
set_option linter.unusedVariables false
set_option maxRecDepth 100000

set_option maxHeartbeats 16000000 in
theorem laws_walk (A : Option Addr) (cap : Nat) (l : List Int) (w : World) (hl : l.length ≤ 9223372036854775807) (hc : l.length ≤ cap) (hr : Rd w w.heap.size A (l.map iv)) (hn : ∀ n ∈ l, In64 n) (hD : Door w) :
    Calls Tryd.prog 6 #[.slice A l.length cap] w (Tells true w) := by
  have H3 := Lib.hid (three_any A cap l w hl hc hr hn)
  have HD := Lib.hid hD
  have HL := Lib.hid (fun W (h : Door W) => lives_any W h)
  clear hl hc hr hn hD
  go_enter Tryd.func6, Tryd.ntmps6
  go_wp2_with fail
  refine (H3.out).mono ?_
  rintro e w1 ⟨a, a', b, b', c, c', rfl, hA, hB, hC, hb⟩
  have R := Lib.hid (Rats.three w1 a a' b b' c c')
  have B := Lib.hid (below_three hb a a' b b' c c')
  have HO := Lib.hid (And.intro hA (And.intro hB hC))
  clear hb
  simp only [Rv_def]
  clear H3
  obtain ⟨x1, y1, e1, h1⟩ : ∃ x y e, Rt.add3 a a' b b' = (x, y, e) := ⟨_, _, _, rfl⟩
  obtain ⟨x3, y3, e3, h3⟩ : ∃ x y e, Rt.add3 b b' c c' = (x, y, e) := ⟨_, _, _, rfl⟩
  obtain ⟨x5, y5, e5, h5⟩ : ∃ x y e, Rt.mul3 a a' b b' = (x, y, e) := ⟨_, _, _, rfl⟩
  obtain ⟨x6, y6, e6, h6⟩ : ∃ x y e, Rt.mul3 b b' c c' = (x, y, e) := ⟨_, _, _, rfl⟩
  obtain ⟨x7, y7, e7, h7⟩ : ∃ x y e, Rt.mul3 a a' c c' = (x, y, e) := ⟨_, _, _, rfl⟩
  have o1 := ok_add hA hB h1
  have o3 := ok_add hB hC h3
  have o5 := ok_mul hA hB h5
  have o6 := ok_mul hB hC h6
  have o7 := ok_mul hA hC h7
  obtain ⟨x8, y8, e8, h8⟩ : ∃ x y e, Rt.mul3 a a' x3 y3 = (x, y, e) := ⟨_, _, _, rfl⟩
  obtain ⟨x9, y9, e9, h9⟩ : ∃ x y e, Rt.add3 x5 y5 x7 y7 = (x, y, e) := ⟨_, _, _, rfl⟩
  obtain ⟨x4, y4, e4, h4⟩ : ∃ x y e, Rt.add3 x1 y1 c c' = (x, y, e) := ⟨_, _, _, rfl⟩
  obtain ⟨xm, ym, em, hm⟩ : ∃ x y e, Rt.mul3 x5 y5 c c' = (x, y, e) := ⟨_, _, _, rfl⟩
  obtain ⟨qa, hq⟩ : ∃ q, q = Rt.den a' := ⟨_, rfl⟩
  have g1 := fun W => add_ok hA hB W
  have g2 := fun W => add_ok hB hA W
  have g3 := fun W => add_ok hB hC W
  have g5 := fun W => mul_ok hA hB W
  have g4 := fun W => mul_ok hB hA W
  have g6 := fun W => mul_ok hB hC W
  have g7 := fun W => mul_ok hA hC W
  have g8 := fun W => mul_ok hA o3 W
  have g9 := fun W => add_ok o5 o7 W
  have g10 := fun W => add_ok o1 hC W
  have g12 := fun W => mul_ok o5 hC W
  rw [h1] at g1
  rw [Rt.add3_comm, h1] at g2
  rw [h3] at g3
  rw [h5] at g5
  rw [Rt.mul3_comm, h5] at g4
  rw [h6] at g6
  rw [h7] at g7
  rw [h8] at g8
  rw [h9] at g9
  rw [h4] at g10
  rw [hm] at g12
  have g11 : e1 = 0 → e3 = 0 → ∀ W, Calls Tryd.prog 24 #[Rv a a', Rv x3 y3] W (Says (T3 (x4, y4, e4)) W) := fun z1 z3 W => by
    subst z1 z3
    have k := add_ok hA o3 W
    rw [← Rt.add3_assoc hA hB hC h1 h3, h4] at k
    exact k
  have g13 : e5 = 0 → e6 = 0 → ∀ W, Calls Tryd.prog 25 #[Rv a a', Rv x6 y6] W (Says (T3 (xm, ym, em)) W) := fun z5 z6 W => by
    subst z5 z6
    have k := mul_ok hA o6 W
    rw [← Rt.mul3_assoc hA hB hC h5 h6, hm] at k
    exact k
  have g14 : e1 = 0 → ∀ W, Calls Tryd.prog 26 #[Rv x1 y1, Rv b b'] W (Says (T3 (a, qa, 0)) W) := fun z1 W => by
    subst z1
    have k := sub_ok o1 hB W
    rw [(Rt.back_again hA hB h1).1, ← hq] at k
    exact k
  have g15 : ∀ W, Calls Tryd.prog 27 #[Rv a qa, Rv a a'] W (Says (.int .i64 0) W) := fun W => by
    have k := cmp_ok hA.den' hA W
    rw [(Rt.read_back hA).2.1, ← hq] at k
    exact k
  have hd : e3 = 0 → e5 = 0 → e7 = 0 → e8 = 0 → e9 = 0 → x8 = x9 ∧ y8 = y9 := fun z3 z5 z7 z8 z9 => by
    subst z3 z5 z7 z8 z9
    have k := Rt.distributes hA hB hC h5 h7 h3
    rw [h8, h9] at k
    simp only [Prod.mk.injEq, and_true] at k
    exact k
  have G1 := Lib.hid g1
  have G2 := Lib.hid g2
  have G3 := Lib.hid g3
  have G4 := Lib.hid g4
  have G5 := Lib.hid g5
  have G6 := Lib.hid g6
  have G7 := Lib.hid g7
  have G8 := Lib.hid g8
  have G9 := Lib.hid g9
  have G10 := Lib.hid g10
  have G11 := Lib.hid g11
  have G12 := Lib.hid g12
  have G13 := Lib.hid g13
  have G14 := Lib.hid g14
  have G15 := Lib.hid g15
  have HDI := Lib.hid hd
  clear g1 g2 g3 g4 g5 g6 g7 g8 g9 g10 g11 g12 g13 g14 g15 hd h1 h3 h4 h5 h6 h7 h8 h9 hm hq o1 o3 o5 o6 o7 hA hB hC HO
  go_wp2_with fail
  refine (G1.out _).mono ?_
  rintro e v1 ⟨rfl, hb⟩
  have q := R.out.step hb
  have hB := B.out.trans (hb.mono B.out.size)
  clear R B hb
  obtain ⟨⟨cl0, ch0⟩, lt0⟩ := q.get (.head _)
  obtain ⟨⟨cl1, ch1⟩, lt1⟩ := q.get (.tail _ (.head _))
  obtain ⟨⟨cl2, ch2⟩, lt2⟩ := q.get (.tail _ (.tail _ (.head _)))
  have R := Lib.hid (q.new x1 y1)
  have B := Lib.hid (hB.alloc hB.size (.cells (Rc x1 y1).toArray 23))
  clear q hB
  simp only [T3, Rv_def]
  go_wp2_with fail
  generalize v1.heap.size = k1 at *
  refine (G2.out _).mono ?_
  rintro e v2 ⟨rfl, hb⟩
  have q := R.out.step hb
  have hB := B.out.trans (hb.mono B.out.size)
  clear cl0 ch0 lt0 cl1 ch1 lt1 cl2 ch2 lt2
  clear R B hb
  obtain ⟨⟨cl0, ch0⟩, lt0⟩ := q.get (.head _)
  obtain ⟨⟨cl1, ch1⟩, lt1⟩ := q.get (.tail _ (.head _))
  obtain ⟨⟨cl2, ch2⟩, lt2⟩ := q.get (.tail _ (.tail _ (.head _)))
  obtain ⟨⟨cl3, ch3⟩, lt3⟩ := q.get (.tail _ (.tail _ (.tail _ (.head _))))
  have R := Lib.hid (q.new x1 y1)
  have B := Lib.hid (hB.alloc hB.size (.cells (Rc x1 y1).toArray 23))
  clear q hB
  simp only [T3, Rv_def]
  go_wp2_with fail
  generalize v2.heap.size = k2 at *
  refine (G3.out _).mono ?_
  rintro e v3 ⟨rfl, hb⟩
  have q := R.out.step hb
  have hB := B.out.trans (hb.mono B.out.size)
  clear cl0 ch0 lt0 cl1 ch1 lt1 cl2 ch2 lt2 cl3 ch3 lt3
  clear R B hb
  obtain ⟨⟨cl0, ch0⟩, lt0⟩ := q.get (.head _)
  obtain ⟨⟨cl1, ch1⟩, lt1⟩ := q.get (.tail _ (.head _))
  obtain ⟨⟨cl2, ch2⟩, lt2⟩ := q.get (.tail _ (.tail _ (.head _)))
  obtain ⟨⟨cl3, ch3⟩, lt3⟩ := q.get (.tail _ (.tail _ (.tail _ (.head _))))
  obtain ⟨⟨cl4, ch4⟩, lt4⟩ := q.get (.tail _ (.tail _ (.tail _ (.tail _ (.head _)))))
  have R := Lib.hid (q.new x3 y3)
  have B := Lib.hid (hB.alloc hB.size (.cells (Rc x3 y3).toArray 23))
  clear q hB
  simp only [T3, Rv_def]
  go_wp2_with fail
  generalize v3.heap.size = k3 at *
  refine (G5.out _).mono ?_
  rintro e v4 ⟨rfl, hb⟩
  have q := R.out.step hb
  have hB := B.out.trans (hb.mono B.out.size)
  clear cl0 ch0 lt0 cl1 ch1 lt1 cl2 ch2 lt2 cl3 ch3 lt3 cl4 ch4 lt4
  clear R B hb
  obtain ⟨⟨cl0, ch0⟩, lt0⟩ := q.get (.head _)
  obtain ⟨⟨cl1, ch1⟩, lt1⟩ := q.get (.tail _ (.head _))
  obtain ⟨⟨cl2, ch2⟩, lt2⟩ := q.get (.tail _ (.tail _ (.head _)))
  obtain ⟨⟨cl3, ch3⟩, lt3⟩ := q.get (.tail _ (.tail _ (.tail _ (.head _))))
  obtain ⟨⟨cl4, ch4⟩, lt4⟩ := q.get (.tail _ (.tail _ (.tail _ (.tail _ (.head _)))))
  obtain ⟨⟨cl5, ch5⟩, lt5⟩ := q.get (.tail _ (.tail _ (.tail _ (.tail _ (.tail _ (.head _))))))
  have R := Lib.hid (q.new x5 y5)
  have B := Lib.hid (hB.alloc hB.size (.cells (Rc x5 y5).toArray 23))
  clear q hB
  simp only [T3, Rv_def]
  go_wp2_with fail
  generalize v4.heap.size = k4 at *
  refine (G4.out _).mono ?_
  rintro e v5 ⟨rfl, hb⟩
  have q := R.out.step hb
  have hB := B.out.trans (hb.mono B.out.size)
  clear cl0 ch0 lt0 cl1 ch1 lt1 cl2 ch2 lt2 cl3 ch3 lt3 cl4 ch4 lt4 cl5 ch5 lt5
  clear R B hb
  obtain ⟨⟨cl0, ch0⟩, lt0⟩ := q.get (.head _)
  obtain ⟨⟨cl1, ch1⟩, lt1⟩ := q.get (.tail _ (.head _))
  obtain ⟨⟨cl2, ch2⟩, lt2⟩ := q.get (.tail _ (.tail _ (.head _)))
  obtain ⟨⟨cl3, ch3⟩, lt3⟩ := q.get (.tail _ (.tail _ (.tail _ (.head _))))
  obtain ⟨⟨cl4, ch4⟩, lt4⟩ := q.get (.tail _ (.tail _ (.tail _ (.tail _ (.head _)))))
  obtain ⟨⟨cl5, ch5⟩, lt5⟩ := q.get (.tail _ (.tail _ (.tail _ (.tail _ (.tail _ (.head _))))))
  obtain ⟨⟨cl6, ch6⟩, lt6⟩ := q.get (.tail _ (.tail _ (.tail _ (.tail _ (.tail _ (.tail _ (.head _)))))))
  have R := Lib.hid (q.new x5 y5)
  have B := Lib.hid (hB.alloc hB.size (.cells (Rc x5 y5).toArray 23))
  clear q hB
  simp only [T3, Rv_def]
  go_wp2_with fail
  generalize v5.heap.size = k5 at *
  refine (G6.out _).mono ?_
  rintro e v6 ⟨rfl, hb⟩
  have q := R.out.step hb
  have hB := B.out.trans (hb.mono B.out.size)
  clear cl0 ch0 lt0 cl1 ch1 lt1 cl2 ch2 lt2 cl3 ch3 lt3 cl4 ch4 lt4 cl5 ch5 lt5 cl6 ch6 lt6
  clear R B hb
  obtain ⟨⟨cl0, ch0⟩, lt0⟩ := q.get (.head _)
  obtain ⟨⟨cl1, ch1⟩, lt1⟩ := q.get (.tail _ (.head _))
  obtain ⟨⟨cl2, ch2⟩, lt2⟩ := q.get (.tail _ (.tail _ (.head _)))
  obtain ⟨⟨cl3, ch3⟩, lt3⟩ := q.get (.tail _ (.tail _ (.tail _ (.head _))))
  obtain ⟨⟨cl4, ch4⟩, lt4⟩ := q.get (.tail _ (.tail _ (.tail _ (.tail _ (.head _)))))
  obtain ⟨⟨cl5, ch5⟩, lt5⟩ := q.get (.tail _ (.tail _ (.tail _ (.tail _ (.tail _ (.head _))))))
  obtain ⟨⟨cl6, ch6⟩, lt6⟩ := q.get (.tail _ (.tail _ (.tail _ (.tail _ (.tail _ (.tail _ (.head _)))))))
  obtain ⟨⟨cl7, ch7⟩, lt7⟩ := q.get (.tail _ (.tail _ (.tail _ (.tail _ (.tail _ (.tail _ (.tail _ (.head _))))))))
  have R := Lib.hid (q.new x6 y6)
  have B := Lib.hid (hB.alloc hB.size (.cells (Rc x6 y6).toArray 23))
  clear q hB
  simp only [T3, Rv_def]
  obtain ⟨t1, ht⟩ : ∃ t, t = decide (e1 = 0 ∧ e3 = 0) := ⟨_, rfl⟩
  have HT := Lib.hid ht
  clear ht
  go_upto_region 10 with fail
  obtain ⟨V, hV⟩ : ∃ V, V = v6.alloc (.cells (Rc x6 y6).toArray 23) := ⟨_, rfl⟩
  rw [show v6.alloc (.cells #[.int .i64 x6, .int .i64 y6] 23) = V from hV.symm]
  rw [← hV] at R B
  clear hV
  clear cl0 ch0 lt0 cl1 ch1 lt1 cl2 ch2 lt2 cl3 ch3 lt3 cl4 ch4 lt4 cl5 ch5 lt5 cl6 ch6 lt6 cl7 ch7 lt7
  generalize v6.heap.size = k6 at *
  obtain ⟨⟨cl0, ch0⟩, lt0⟩ := R.out.get (.head _)
  obtain ⟨⟨cl1, ch1⟩, lt1⟩ := R.out.get (.tail _ (.head _))
  obtain ⟨⟨cl2, ch2⟩, lt2⟩ := R.out.get (.tail _ (.tail _ (.head _)))
  obtain ⟨⟨cl3, ch3⟩, lt3⟩ := R.out.get (.tail _ (.tail _ (.tail _ (.head _))))
  obtain ⟨⟨cl4, ch4⟩, lt4⟩ := R.out.get (.tail _ (.tail _ (.tail _ (.tail _ (.head _)))))
  obtain ⟨⟨cl5, ch5⟩, lt5⟩ := R.out.get (.tail _ (.tail _ (.tail _ (.tail _ (.tail _ (.head _))))))
  obtain ⟨⟨cl6, ch6⟩, lt6⟩ := R.out.get (.tail _ (.tail _ (.tail _ (.tail _ (.tail _ (.tail _ (.head _)))))))
  obtain ⟨⟨cl7, ch7⟩, lt7⟩ := R.out.get (.tail _ (.tail _ (.tail _ (.tail _ (.tail _ (.tail _ (.tail _ (.head _))))))))
  obtain ⟨⟨cl8, ch8⟩, lt8⟩ := R.out.get (.tail _ (.tail _ (.tail _ (.tail _ (.tail _ (.tail _ (.tail _ (.tail _ (.head _)))))))))
  go_cut [7, 11, 99] (fun s7 s11 s wx => s7 = .int .i64 e1 ∧ s11 = .int .i64 e3 ∧ s = .bool t1 ∧ Rats wx [(k6, x6, y6), (k5, x5, y5), (k4, x5, y5), (k3, x3, y3), (k2, x1, y1), (k1, x1, y1), (w1.heap.size, a, a'), (w1.heap.size + 1, b, b'), (w1.heap.size + 2, c, c')] ∧ Below w.heap.size w wx)
  case first =>
    by_cases za : e1 = 0
    · by_cases zb : e3 = 0
      · have et : t1 = true := by rw [HT.out]; simp [za, zb]
        have ET := Lib.hid et
        clear et
        go_wp2_with fail
        go_meet
        case rel => exact ⟨(by rw [za]), (by rw [zb]), (by first | (rw [ET.out]; done) | (rw [ET.out]; simp <;> omega)), R.out, B.out⟩
      · have et : t1 = false := by rw [HT.out]; simp [za, zb]
        have ET := Lib.hid et
        clear et
        go_wp2_with fail
        go_meet
        case rel => exact ⟨(by rw [za]), rfl, (by first | (rw [ET.out]; done) | (rw [ET.out]; simp <;> omega)), R.out, B.out⟩
    · have et : t1 = false := by rw [HT.out]; simp [za]
      have ET := Lib.hid et
      clear et
      go_wp2_with fail
      go_meet
      case rel => exact ⟨rfl, rfl, (by first | (rw [ET.out]; done) | (rw [ET.out]; simp <;> omega)), R.out, B.out⟩
  case rest =>
    obtain ⟨rfl, rfl, rfl, q, hB⟩ := hcut
    clear cl0 ch0 lt0 cl1 ch1 lt1 cl2 ch2 lt2 cl3 ch3 lt3 cl4 ch4 lt4 cl5 ch5 lt5 cl6 ch6 lt6 cl7 ch7 lt7 cl8 ch8 lt8
    clear R B
    obtain ⟨⟨cl0, ch0⟩, lt0⟩ := q.get (.head _)
    obtain ⟨⟨cl1, ch1⟩, lt1⟩ := q.get (.tail _ (.head _))
    obtain ⟨⟨cl2, ch2⟩, lt2⟩ := q.get (.tail _ (.tail _ (.head _)))
    obtain ⟨⟨cl3, ch3⟩, lt3⟩ := q.get (.tail _ (.tail _ (.tail _ (.head _))))
    obtain ⟨⟨cl4, ch4⟩, lt4⟩ := q.get (.tail _ (.tail _ (.tail _ (.tail _ (.head _)))))
    obtain ⟨⟨cl5, ch5⟩, lt5⟩ := q.get (.tail _ (.tail _ (.tail _ (.tail _ (.tail _ (.head _))))))
    obtain ⟨⟨cl6, ch6⟩, lt6⟩ := q.get (.tail _ (.tail _ (.tail _ (.tail _ (.tail _ (.tail _ (.head _)))))))
    obtain ⟨⟨cl7, ch7⟩, lt7⟩ := q.get (.tail _ (.tail _ (.tail _ (.tail _ (.tail _ (.tail _ (.tail _ (.head _))))))))
    obtain ⟨⟨cl8, ch8⟩, lt8⟩ := q.get (.tail _ (.tail _ (.tail _ (.tail _ (.tail _ (.tail _ (.tail _ (.tail _ (.head _)))))))))
    have R := Lib.hid q
    have B := Lib.hid hB
    clear q hB
    go_upto_if 99 with fail
    go_cut [] (fun  wx => Rats wx [(k6, x6, y6), (k5, x5, y5), (k4, x5, y5), (k3, x3, y3), (k2, x1, y1), (k1, x1, y1), (w1.heap.size, a, a'), (w1.heap.size + 1, b, b'), (w1.heap.size + 2, c, c')] ∧ Below w.heap.size w wx)
    case first =>
      cases t1
      · skip
        go_wp2_with fail
        go_meet
        case rel => exact ⟨R.out, B.out⟩
      · have hz : e1 = 0 ∧ e3 = 0 := of_decide_eq_true HT.out.symm
        have g11 := Lib.hid (G11.out hz.1 hz.2)
        have g14 := Lib.hid (G14.out hz.1)
        clear hz
        go_wp2_with fail
        refine (G10.out _).mono ?_
        rintro e v7 ⟨rfl, hb⟩
        have q := R.out.step hb
        have hB := B.out.trans (hb.mono B.out.size)
        clear cl0 ch0 lt0 cl1 ch1 lt1 cl2 ch2 lt2 cl3 ch3 lt3 cl4 ch4 lt4 cl5 ch5 lt5 cl6 ch6 lt6 cl7 ch7 lt7 cl8 ch8 lt8
        clear R B hb
        obtain ⟨⟨cl0, ch0⟩, lt0⟩ := q.get (.head _)
        obtain ⟨⟨cl1, ch1⟩, lt1⟩ := q.get (.tail _ (.head _))
        obtain ⟨⟨cl2, ch2⟩, lt2⟩ := q.get (.tail _ (.tail _ (.head _)))
        obtain ⟨⟨cl3, ch3⟩, lt3⟩ := q.get (.tail _ (.tail _ (.tail _ (.head _))))
        obtain ⟨⟨cl4, ch4⟩, lt4⟩ := q.get (.tail _ (.tail _ (.tail _ (.tail _ (.head _)))))
        obtain ⟨⟨cl5, ch5⟩, lt5⟩ := q.get (.tail _ (.tail _ (.tail _ (.tail _ (.tail _ (.head _))))))
        obtain ⟨⟨cl6, ch6⟩, lt6⟩ := q.get (.tail _ (.tail _ (.tail _ (.tail _ (.tail _ (.tail _ (.head _)))))))
        obtain ⟨⟨cl7, ch7⟩, lt7⟩ := q.get (.tail _ (.tail _ (.tail _ (.tail _ (.tail _ (.tail _ (.tail _ (.head _))))))))
        obtain ⟨⟨cl8, ch8⟩, lt8⟩ := q.get (.tail _ (.tail _ (.tail _ (.tail _ (.tail _ (.tail _ (.tail _ (.tail _ (.head _)))))))))
        have R := Lib.hid (q.new x4 y4)
        have B := Lib.hid (hB.alloc hB.size (.cells (Rc x4 y4).toArray 23))
        clear q hB
        simp only [T3, Rv_def]
        go_wp2_with fail
        generalize v7.heap.size = k7 at *
        refine (g11.out _).mono ?_
        rintro e v8 ⟨rfl, hb⟩
        have q := R.out.step hb
        have hB := B.out.trans (hb.mono B.out.size)
        clear cl0 ch0 lt0 cl1 ch1 lt1 cl2 ch2 lt2 cl3 ch3 lt3 cl4 ch4 lt4 cl5 ch5 lt5 cl6 ch6 lt6 cl7 ch7 lt7 cl8 ch8 lt8
        clear R B hb
        obtain ⟨⟨cl0, ch0⟩, lt0⟩ := q.get (.head _)
        obtain ⟨⟨cl1, ch1⟩, lt1⟩ := q.get (.tail _ (.head _))
        obtain ⟨⟨cl2, ch2⟩, lt2⟩ := q.get (.tail _ (.tail _ (.head _)))
        obtain ⟨⟨cl3, ch3⟩, lt3⟩ := q.get (.tail _ (.tail _ (.tail _ (.head _))))
        obtain ⟨⟨cl4, ch4⟩, lt4⟩ := q.get (.tail _ (.tail _ (.tail _ (.tail _ (.head _)))))
        obtain ⟨⟨cl5, ch5⟩, lt5⟩ := q.get (.tail _ (.tail _ (.tail _ (.tail _ (.tail _ (.head _))))))
        obtain ⟨⟨cl6, ch6⟩, lt6⟩ := q.get (.tail _ (.tail _ (.tail _ (.tail _ (.tail _ (.tail _ (.head _)))))))
        obtain ⟨⟨cl7, ch7⟩, lt7⟩ := q.get (.tail _ (.tail _ (.tail _ (.tail _ (.tail _ (.tail _ (.tail _ (.head _))))))))
        obtain ⟨⟨cl8, ch8⟩, lt8⟩ := q.get (.tail _ (.tail _ (.tail _ (.tail _ (.tail _ (.tail _ (.tail _ (.tail _ (.head _)))))))))
        obtain ⟨⟨cl9, ch9⟩, lt9⟩ := q.get (.tail _ (.tail _ (.tail _ (.tail _ (.tail _ (.tail _ (.tail _ (.tail _ (.tail _ (.head _))))))))))
        have R := Lib.hid (q.new x4 y4)
        have B := Lib.hid (hB.alloc hB.size (.cells (Rc x4 y4).toArray 23))
        clear q hB
        simp only [T3, Rv_def]
        go_wp2_with fail
        generalize v8.heap.size = k8 at *
        refine (g14.out _).mono ?_
        rintro e v9 ⟨rfl, hb⟩
        have q := R.out.step hb
        have hB := B.out.trans (hb.mono B.out.size)
        clear cl0 ch0 lt0 cl1 ch1 lt1 cl2 ch2 lt2 cl3 ch3 lt3 cl4 ch4 lt4 cl5 ch5 lt5 cl6 ch6 lt6 cl7 ch7 lt7 cl8 ch8 lt8 cl9 ch9 lt9
        clear R B hb
        obtain ⟨⟨cl0, ch0⟩, lt0⟩ := q.get (.head _)
        obtain ⟨⟨cl1, ch1⟩, lt1⟩ := q.get (.tail _ (.head _))
        obtain ⟨⟨cl2, ch2⟩, lt2⟩ := q.get (.tail _ (.tail _ (.head _)))
        obtain ⟨⟨cl3, ch3⟩, lt3⟩ := q.get (.tail _ (.tail _ (.tail _ (.head _))))
        obtain ⟨⟨cl4, ch4⟩, lt4⟩ := q.get (.tail _ (.tail _ (.tail _ (.tail _ (.head _)))))
        obtain ⟨⟨cl5, ch5⟩, lt5⟩ := q.get (.tail _ (.tail _ (.tail _ (.tail _ (.tail _ (.head _))))))
        obtain ⟨⟨cl6, ch6⟩, lt6⟩ := q.get (.tail _ (.tail _ (.tail _ (.tail _ (.tail _ (.tail _ (.head _)))))))
        obtain ⟨⟨cl7, ch7⟩, lt7⟩ := q.get (.tail _ (.tail _ (.tail _ (.tail _ (.tail _ (.tail _ (.tail _ (.head _))))))))
        obtain ⟨⟨cl8, ch8⟩, lt8⟩ := q.get (.tail _ (.tail _ (.tail _ (.tail _ (.tail _ (.tail _ (.tail _ (.tail _ (.head _)))))))))
        obtain ⟨⟨cl9, ch9⟩, lt9⟩ := q.get (.tail _ (.tail _ (.tail _ (.tail _ (.tail _ (.tail _ (.tail _ (.tail _ (.tail _ (.head _))))))))))
        obtain ⟨⟨cl10, ch10⟩, lt10⟩ := q.get (.tail _ (.tail _ (.tail _ (.tail _ (.tail _ (.tail _ (.tail _ (.tail _ (.tail _ (.tail _ (.head _)))))))))))
        have R := Lib.hid (q.new a qa)
        have B := Lib.hid (hB.alloc hB.size (.cells (Rc a qa).toArray 23))
        clear q hB
        simp only [T3, Rv_def]
        go_wp2_with fail
        generalize v9.heap.size = k9 at *
        refine (G15.out _).mono ?_
        rintro e v10 ⟨rfl, hb⟩
        have q := R.out.step hb
        have hB := B.out.trans (hb.mono B.out.size)
        clear cl0 ch0 lt0 cl1 ch1 lt1 cl2 ch2 lt2 cl3 ch3 lt3 cl4 ch4 lt4 cl5 ch5 lt5 cl6 ch6 lt6 cl7 ch7 lt7 cl8 ch8 lt8 cl9 ch9 lt9 cl10 ch10 lt10
        clear R B hb
        obtain ⟨⟨cl0, ch0⟩, lt0⟩ := q.get (.head _)
        obtain ⟨⟨cl1, ch1⟩, lt1⟩ := q.get (.tail _ (.head _))
        obtain ⟨⟨cl2, ch2⟩, lt2⟩ := q.get (.tail _ (.tail _ (.head _)))
        obtain ⟨⟨cl3, ch3⟩, lt3⟩ := q.get (.tail _ (.tail _ (.tail _ (.head _))))
        obtain ⟨⟨cl4, ch4⟩, lt4⟩ := q.get (.tail _ (.tail _ (.tail _ (.tail _ (.head _)))))
        obtain ⟨⟨cl5, ch5⟩, lt5⟩ := q.get (.tail _ (.tail _ (.tail _ (.tail _ (.tail _ (.head _))))))
        obtain ⟨⟨cl6, ch6⟩, lt6⟩ := q.get (.tail _ (.tail _ (.tail _ (.tail _ (.tail _ (.tail _ (.head _)))))))
        obtain ⟨⟨cl7, ch7⟩, lt7⟩ := q.get (.tail _ (.tail _ (.tail _ (.tail _ (.tail _ (.tail _ (.tail _ (.head _))))))))
        obtain ⟨⟨cl8, ch8⟩, lt8⟩ := q.get (.tail _ (.tail _ (.tail _ (.tail _ (.tail _ (.tail _ (.tail _ (.tail _ (.head _)))))))))
        obtain ⟨⟨cl9, ch9⟩, lt9⟩ := q.get (.tail _ (.tail _ (.tail _ (.tail _ (.tail _ (.tail _ (.tail _ (.tail _ (.tail _ (.head _))))))))))
        obtain ⟨⟨cl10, ch10⟩, lt10⟩ := q.get (.tail _ (.tail _ (.tail _ (.tail _ (.tail _ (.tail _ (.tail _ (.tail _ (.tail _ (.tail _ (.head _)))))))))))
        obtain ⟨⟨cl11, ch11⟩, lt11⟩ := q.get (.tail _ (.tail _ (.tail _ (.tail _ (.tail _ (.tail _ (.tail _ (.tail _ (.tail _ (.tail _ (.tail _ (.head _))))))))))))
        have R := Lib.hid q
        have B := Lib.hid hB
        clear q hB
        go_wp2_with fail
        go_meet
        case rel => exact ⟨(((R.out).tail).tail).tail, B.out⟩
    case rest =>
      obtain ⟨q, hB⟩ := hcut
      clear cl0 ch0 lt0 cl1 ch1 lt1 cl2 ch2 lt2 cl3 ch3 lt3 cl4 ch4 lt4 cl5 ch5 lt5 cl6 ch6 lt6 cl7 ch7 lt7 cl8 ch8 lt8
      clear R B
      obtain ⟨⟨cl0, ch0⟩, lt0⟩ := q.get (.head _)
      obtain ⟨⟨cl1, ch1⟩, lt1⟩ := q.get (.tail _ (.head _))
      obtain ⟨⟨cl2, ch2⟩, lt2⟩ := q.get (.tail _ (.tail _ (.head _)))
      obtain ⟨⟨cl3, ch3⟩, lt3⟩ := q.get (.tail _ (.tail _ (.tail _ (.head _))))
      obtain ⟨⟨cl4, ch4⟩, lt4⟩ := q.get (.tail _ (.tail _ (.tail _ (.tail _ (.head _)))))
      obtain ⟨⟨cl5, ch5⟩, lt5⟩ := q.get (.tail _ (.tail _ (.tail _ (.tail _ (.tail _ (.head _))))))
      obtain ⟨⟨cl6, ch6⟩, lt6⟩ := q.get (.tail _ (.tail _ (.tail _ (.tail _ (.tail _ (.tail _ (.head _)))))))
      obtain ⟨⟨cl7, ch7⟩, lt7⟩ := q.get (.tail _ (.tail _ (.tail _ (.tail _ (.tail _ (.tail _ (.tail _ (.head _))))))))
      obtain ⟨⟨cl8, ch8⟩, lt8⟩ := q.get (.tail _ (.tail _ (.tail _ (.tail _ (.tail _ (.tail _ (.tail _ (.tail _ (.head _)))))))))
      have R := Lib.hid q
      have B := Lib.hid hB
      clear q hB
      clear HT
      clear G1 G2 G3 G4 G5 G6 G10 G11 G14 G15
      obtain ⟨t2, ht⟩ : ∃ t, t = decide (e5 = 0 ∧ e6 = 0) := ⟨_, rfl⟩
      have HT := Lib.hid ht
      clear ht
      go_upto_region 18 with fail
      go_cut [13, 17, 139] (fun s13 s17 s wx => s13 = .int .i64 e5 ∧ s17 = .int .i64 e6 ∧ s = .bool t2 ∧ Rats wx [(k6, x6, y6), (k5, x5, y5), (k4, x5, y5), (k3, x3, y3), (k2, x1, y1), (k1, x1, y1), (w1.heap.size, a, a'), (w1.heap.size + 1, b, b'), (w1.heap.size + 2, c, c')] ∧ Below w.heap.size w wx)
      case first =>
        by_cases za : e5 = 0
        · by_cases zb : e6 = 0
          · have et : t2 = true := by rw [HT.out]; simp [za, zb]
            have ET := Lib.hid et
            clear et
            go_wp2_with fail
            go_meet
            case rel => exact ⟨(by rw [za]), (by rw [zb]), (by first | (rw [ET.out]; done) | (rw [ET.out]; simp <;> omega)), R.out, B.out⟩
          · have et : t2 = false := by rw [HT.out]; simp [za, zb]
            have ET := Lib.hid et
            clear et
            go_wp2_with fail
            go_meet
            case rel => exact ⟨(by rw [za]), rfl, (by first | (rw [ET.out]; done) | (rw [ET.out]; simp <;> omega)), R.out, B.out⟩
        · have et : t2 = false := by rw [HT.out]; simp [za]
          have ET := Lib.hid et
          clear et
          go_wp2_with fail
          go_meet
          case rel => exact ⟨rfl, rfl, (by first | (rw [ET.out]; done) | (rw [ET.out]; simp <;> omega)), R.out, B.out⟩
      case rest =>
        obtain ⟨rfl, rfl, rfl, q, hB⟩ := hcut
        clear cl0 ch0 lt0 cl1 ch1 lt1 cl2 ch2 lt2 cl3 ch3 lt3 cl4 ch4 lt4 cl5 ch5 lt5 cl6 ch6 lt6 cl7 ch7 lt7 cl8 ch8 lt8
        clear R B
        obtain ⟨⟨cl0, ch0⟩, lt0⟩ := q.get (.head _)
        obtain ⟨⟨cl1, ch1⟩, lt1⟩ := q.get (.tail _ (.head _))
        obtain ⟨⟨cl2, ch2⟩, lt2⟩ := q.get (.tail _ (.tail _ (.head _)))
        obtain ⟨⟨cl3, ch3⟩, lt3⟩ := q.get (.tail _ (.tail _ (.tail _ (.head _))))
        obtain ⟨⟨cl4, ch4⟩, lt4⟩ := q.get (.tail _ (.tail _ (.tail _ (.tail _ (.head _)))))
        obtain ⟨⟨cl5, ch5⟩, lt5⟩ := q.get (.tail _ (.tail _ (.tail _ (.tail _ (.tail _ (.head _))))))
        obtain ⟨⟨cl6, ch6⟩, lt6⟩ := q.get (.tail _ (.tail _ (.tail _ (.tail _ (.tail _ (.tail _ (.head _)))))))
        obtain ⟨⟨cl7, ch7⟩, lt7⟩ := q.get (.tail _ (.tail _ (.tail _ (.tail _ (.tail _ (.tail _ (.tail _ (.head _))))))))
        obtain ⟨⟨cl8, ch8⟩, lt8⟩ := q.get (.tail _ (.tail _ (.tail _ (.tail _ (.tail _ (.tail _ (.tail _ (.tail _ (.head _)))))))))
        have R := Lib.hid q
        have B := Lib.hid hB
        clear q hB
        go_upto_if 139 with fail
        go_cut [] (fun  wx => Rats wx [(k6, x6, y6), (k5, x5, y5), (k4, x5, y5), (k3, x3, y3), (k2, x1, y1), (k1, x1, y1), (w1.heap.size, a, a'), (w1.heap.size + 1, b, b'), (w1.heap.size + 2, c, c')] ∧ Below w.heap.size w wx)
        case first =>
          cases t2
          · skip
            go_wp2_with fail
            go_meet
            case rel => exact ⟨R.out, B.out⟩
          · have hz : e5 = 0 ∧ e6 = 0 := of_decide_eq_true HT.out.symm
            have g13 := Lib.hid (G13.out hz.1 hz.2)
            clear hz
            go_wp2_with fail
            refine (G12.out _).mono ?_
            rintro e v17 ⟨rfl, hb⟩
            have q := R.out.step hb
            have hB := B.out.trans (hb.mono B.out.size)
            clear cl0 ch0 lt0 cl1 ch1 lt1 cl2 ch2 lt2 cl3 ch3 lt3 cl4 ch4 lt4 cl5 ch5 lt5 cl6 ch6 lt6 cl7 ch7 lt7 cl8 ch8 lt8
            clear R B hb
            obtain ⟨⟨cl0, ch0⟩, lt0⟩ := q.get (.head _)
            obtain ⟨⟨cl1, ch1⟩, lt1⟩ := q.get (.tail _ (.head _))
            obtain ⟨⟨cl2, ch2⟩, lt2⟩ := q.get (.tail _ (.tail _ (.head _)))
            obtain ⟨⟨cl3, ch3⟩, lt3⟩ := q.get (.tail _ (.tail _ (.tail _ (.head _))))
            obtain ⟨⟨cl4, ch4⟩, lt4⟩ := q.get (.tail _ (.tail _ (.tail _ (.tail _ (.head _)))))
            obtain ⟨⟨cl5, ch5⟩, lt5⟩ := q.get (.tail _ (.tail _ (.tail _ (.tail _ (.tail _ (.head _))))))
            obtain ⟨⟨cl6, ch6⟩, lt6⟩ := q.get (.tail _ (.tail _ (.tail _ (.tail _ (.tail _ (.tail _ (.head _)))))))
            obtain ⟨⟨cl7, ch7⟩, lt7⟩ := q.get (.tail _ (.tail _ (.tail _ (.tail _ (.tail _ (.tail _ (.tail _ (.head _))))))))
            obtain ⟨⟨cl8, ch8⟩, lt8⟩ := q.get (.tail _ (.tail _ (.tail _ (.tail _ (.tail _ (.tail _ (.tail _ (.tail _ (.head _)))))))))
            have R := Lib.hid (q.new xm ym)
            have B := Lib.hid (hB.alloc hB.size (.cells (Rc xm ym).toArray 23))
            clear q hB
            simp only [T3, Rv_def]
            go_wp2_with fail
            generalize v17.heap.size = k17 at *
            refine (g13.out _).mono ?_
            rintro e v18 ⟨rfl, hb⟩
            have q := R.out.step hb
            have hB := B.out.trans (hb.mono B.out.size)
            clear cl0 ch0 lt0 cl1 ch1 lt1 cl2 ch2 lt2 cl3 ch3 lt3 cl4 ch4 lt4 cl5 ch5 lt5 cl6 ch6 lt6 cl7 ch7 lt7 cl8 ch8 lt8
            clear R B hb
            obtain ⟨⟨cl0, ch0⟩, lt0⟩ := q.get (.head _)
            obtain ⟨⟨cl1, ch1⟩, lt1⟩ := q.get (.tail _ (.head _))
            obtain ⟨⟨cl2, ch2⟩, lt2⟩ := q.get (.tail _ (.tail _ (.head _)))
            obtain ⟨⟨cl3, ch3⟩, lt3⟩ := q.get (.tail _ (.tail _ (.tail _ (.head _))))
            obtain ⟨⟨cl4, ch4⟩, lt4⟩ := q.get (.tail _ (.tail _ (.tail _ (.tail _ (.head _)))))
            obtain ⟨⟨cl5, ch5⟩, lt5⟩ := q.get (.tail _ (.tail _ (.tail _ (.tail _ (.tail _ (.head _))))))
            obtain ⟨⟨cl6, ch6⟩, lt6⟩ := q.get (.tail _ (.tail _ (.tail _ (.tail _ (.tail _ (.tail _ (.head _)))))))
            obtain ⟨⟨cl7, ch7⟩, lt7⟩ := q.get (.tail _ (.tail _ (.tail _ (.tail _ (.tail _ (.tail _ (.tail _ (.head _))))))))
            obtain ⟨⟨cl8, ch8⟩, lt8⟩ := q.get (.tail _ (.tail _ (.tail _ (.tail _ (.tail _ (.tail _ (.tail _ (.tail _ (.head _)))))))))
            obtain ⟨⟨cl9, ch9⟩, lt9⟩ := q.get (.tail _ (.tail _ (.tail _ (.tail _ (.tail _ (.tail _ (.tail _ (.tail _ (.tail _ (.head _))))))))))
            have R := Lib.hid (q.new xm ym)
            have B := Lib.hid (hB.alloc hB.size (.cells (Rc xm ym).toArray 23))
            clear q hB
            simp only [T3, Rv_def]
            go_wp2_with fail
            go_meet
            case rel => exact ⟨((R.out).tail).tail, B.out⟩
        case rest =>
          obtain ⟨q, hB⟩ := hcut
          clear cl0 ch0 lt0 cl1 ch1 lt1 cl2 ch2 lt2 cl3 ch3 lt3 cl4 ch4 lt4 cl5 ch5 lt5 cl6 ch6 lt6 cl7 ch7 lt7 cl8 ch8 lt8
          clear R B
          obtain ⟨⟨cl0, ch0⟩, lt0⟩ := q.get (.head _)
          obtain ⟨⟨cl1, ch1⟩, lt1⟩ := q.get (.tail _ (.head _))
          obtain ⟨⟨cl2, ch2⟩, lt2⟩ := q.get (.tail _ (.tail _ (.head _)))
          obtain ⟨⟨cl3, ch3⟩, lt3⟩ := q.get (.tail _ (.tail _ (.tail _ (.head _))))
          obtain ⟨⟨cl4, ch4⟩, lt4⟩ := q.get (.tail _ (.tail _ (.tail _ (.tail _ (.head _)))))
          obtain ⟨⟨cl5, ch5⟩, lt5⟩ := q.get (.tail _ (.tail _ (.tail _ (.tail _ (.tail _ (.head _))))))
          obtain ⟨⟨cl6, ch6⟩, lt6⟩ := q.get (.tail _ (.tail _ (.tail _ (.tail _ (.tail _ (.tail _ (.head _)))))))
          obtain ⟨⟨cl7, ch7⟩, lt7⟩ := q.get (.tail _ (.tail _ (.tail _ (.tail _ (.tail _ (.tail _ (.tail _ (.head _))))))))
          obtain ⟨⟨cl8, ch8⟩, lt8⟩ := q.get (.tail _ (.tail _ (.tail _ (.tail _ (.tail _ (.tail _ (.tail _ (.tail _ (.head _)))))))))
          have R := Lib.hid q
          have B := Lib.hid hB
          clear q hB
          clear HT
          clear G12 G13
          go_wp2_with fail
          refine (G7.out _).mono ?_
          rintro e v27 ⟨rfl, hb⟩
          have q := R.out.step hb
          have hB := B.out.trans (hb.mono B.out.size)
          clear cl0 ch0 lt0 cl1 ch1 lt1 cl2 ch2 lt2 cl3 ch3 lt3 cl4 ch4 lt4 cl5 ch5 lt5 cl6 ch6 lt6 cl7 ch7 lt7 cl8 ch8 lt8
          clear R B hb
          obtain ⟨⟨cl0, ch0⟩, lt0⟩ := q.get (.head _)
          obtain ⟨⟨cl1, ch1⟩, lt1⟩ := q.get (.tail _ (.head _))
          obtain ⟨⟨cl2, ch2⟩, lt2⟩ := q.get (.tail _ (.tail _ (.head _)))
          obtain ⟨⟨cl3, ch3⟩, lt3⟩ := q.get (.tail _ (.tail _ (.tail _ (.head _))))
          obtain ⟨⟨cl4, ch4⟩, lt4⟩ := q.get (.tail _ (.tail _ (.tail _ (.tail _ (.head _)))))
          obtain ⟨⟨cl5, ch5⟩, lt5⟩ := q.get (.tail _ (.tail _ (.tail _ (.tail _ (.tail _ (.head _))))))
          obtain ⟨⟨cl6, ch6⟩, lt6⟩ := q.get (.tail _ (.tail _ (.tail _ (.tail _ (.tail _ (.tail _ (.head _)))))))
          obtain ⟨⟨cl7, ch7⟩, lt7⟩ := q.get (.tail _ (.tail _ (.tail _ (.tail _ (.tail _ (.tail _ (.tail _ (.head _))))))))
          obtain ⟨⟨cl8, ch8⟩, lt8⟩ := q.get (.tail _ (.tail _ (.tail _ (.tail _ (.tail _ (.tail _ (.tail _ (.tail _ (.head _)))))))))
          have R := Lib.hid (q.new x7 y7)
          have B := Lib.hid (hB.alloc hB.size (.cells (Rc x7 y7).toArray 23))
          clear q hB
          simp only [T3, Rv_def]
          go_wp2_with fail
          generalize v27.heap.size = k27 at *
          refine (G8.out _).mono ?_
          rintro e v28 ⟨rfl, hb⟩
          have q := R.out.step hb
          have hB := B.out.trans (hb.mono B.out.size)
          clear cl0 ch0 lt0 cl1 ch1 lt1 cl2 ch2 lt2 cl3 ch3 lt3 cl4 ch4 lt4 cl5 ch5 lt5 cl6 ch6 lt6 cl7 ch7 lt7 cl8 ch8 lt8
          clear R B hb
          obtain ⟨⟨cl0, ch0⟩, lt0⟩ := q.get (.head _)
          obtain ⟨⟨cl1, ch1⟩, lt1⟩ := q.get (.tail _ (.head _))
          obtain ⟨⟨cl2, ch2⟩, lt2⟩ := q.get (.tail _ (.tail _ (.head _)))
          obtain ⟨⟨cl3, ch3⟩, lt3⟩ := q.get (.tail _ (.tail _ (.tail _ (.head _))))
          obtain ⟨⟨cl4, ch4⟩, lt4⟩ := q.get (.tail _ (.tail _ (.tail _ (.tail _ (.head _)))))
          obtain ⟨⟨cl5, ch5⟩, lt5⟩ := q.get (.tail _ (.tail _ (.tail _ (.tail _ (.tail _ (.head _))))))
          obtain ⟨⟨cl6, ch6⟩, lt6⟩ := q.get (.tail _ (.tail _ (.tail _ (.tail _ (.tail _ (.tail _ (.head _)))))))
          obtain ⟨⟨cl7, ch7⟩, lt7⟩ := q.get (.tail _ (.tail _ (.tail _ (.tail _ (.tail _ (.tail _ (.tail _ (.head _))))))))
          obtain ⟨⟨cl8, ch8⟩, lt8⟩ := q.get (.tail _ (.tail _ (.tail _ (.tail _ (.tail _ (.tail _ (.tail _ (.tail _ (.head _)))))))))
          obtain ⟨⟨cl9, ch9⟩, lt9⟩ := q.get (.tail _ (.tail _ (.tail _ (.tail _ (.tail _ (.tail _ (.tail _ (.tail _ (.tail _ (.head _))))))))))
          have R := Lib.hid (q.new x8 y8)
          have B := Lib.hid (hB.alloc hB.size (.cells (Rc x8 y8).toArray 23))
          clear q hB
          simp only [T3, Rv_def]
          go_wp2_with fail
          generalize v28.heap.size = k28 at *
          refine (G9.out _).mono ?_
          rintro e v29 ⟨rfl, hb⟩
          have q := R.out.step hb
          have hB := B.out.trans (hb.mono B.out.size)
          clear cl0 ch0 lt0 cl1 ch1 lt1 cl2 ch2 lt2 cl3 ch3 lt3 cl4 ch4 lt4 cl5 ch5 lt5 cl6 ch6 lt6 cl7 ch7 lt7 cl8 ch8 lt8 cl9 ch9 lt9
          clear R B hb
          obtain ⟨⟨cl0, ch0⟩, lt0⟩ := q.get (.head _)
          obtain ⟨⟨cl1, ch1⟩, lt1⟩ := q.get (.tail _ (.head _))
          obtain ⟨⟨cl2, ch2⟩, lt2⟩ := q.get (.tail _ (.tail _ (.head _)))
          obtain ⟨⟨cl3, ch3⟩, lt3⟩ := q.get (.tail _ (.tail _ (.tail _ (.head _))))
          obtain ⟨⟨cl4, ch4⟩, lt4⟩ := q.get (.tail _ (.tail _ (.tail _ (.tail _ (.head _)))))
          obtain ⟨⟨cl5, ch5⟩, lt5⟩ := q.get (.tail _ (.tail _ (.tail _ (.tail _ (.tail _ (.head _))))))
          obtain ⟨⟨cl6, ch6⟩, lt6⟩ := q.get (.tail _ (.tail _ (.tail _ (.tail _ (.tail _ (.tail _ (.head _)))))))
          obtain ⟨⟨cl7, ch7⟩, lt7⟩ := q.get (.tail _ (.tail _ (.tail _ (.tail _ (.tail _ (.tail _ (.tail _ (.head _))))))))
          obtain ⟨⟨cl8, ch8⟩, lt8⟩ := q.get (.tail _ (.tail _ (.tail _ (.tail _ (.tail _ (.tail _ (.tail _ (.tail _ (.head _)))))))))
          obtain ⟨⟨cl9, ch9⟩, lt9⟩ := q.get (.tail _ (.tail _ (.tail _ (.tail _ (.tail _ (.tail _ (.tail _ (.tail _ (.tail _ (.head _))))))))))
          obtain ⟨⟨cl10, ch10⟩, lt10⟩ := q.get (.tail _ (.tail _ (.tail _ (.tail _ (.tail _ (.tail _ (.tail _ (.tail _ (.tail _ (.tail _ (.head _)))))))))))
          have R := Lib.hid (q.new x9 y9)
          have B := Lib.hid (hB.alloc hB.size (.cells (Rc x9 y9).toArray 23))
          clear q hB
          simp only [T3, Rv_def]
          by_cases y_e3 : e3 = 0
          · skip
            by_cases y_e5 : e5 = 0
            · skip
              by_cases y_e7 : e7 = 0
              · skip
                by_cases y_e8 : e8 = 0
                · skip
                  by_cases y_e9 : e9 = 0
                  · skip
                    obtain ⟨dx, dy⟩ := HDI.out y_e3 y_e5 y_e7 y_e8 y_e9
                    subst dx dy
                    clear HDI
                    go_wp2_with fail
                    generalize v29.heap.size = k29 at *
                    refine (HL.out _ (HD.out.below B.out (Nat.le_refl _))).mono ?_
                    rintro e w9 ⟨rfl, hb⟩
                    have B9 := Lib.hid (B.out.trans (hb.mono B.out.size))
                    clear cl0 ch0 lt0 cl1 ch1 lt1 cl2 ch2 lt2 cl3 ch3 lt3 cl4 ch4 lt4 cl5 ch5 lt5 cl6 ch6 lt6 cl7 ch7 lt7 cl8 ch8 lt8 cl9 ch9 lt9 cl10 ch10 lt10
                    clear B R hb
                    go_wp2_with fail
                    go_ret
                    exact ⟨rfl, B9.out⟩
                  · clear HDI
                    go_wp2_with fail
                    generalize v29.heap.size = k29 at *
                    refine (HL.out _ (HD.out.below B.out (Nat.le_refl _))).mono ?_
                    rintro e w9 ⟨rfl, hb⟩
                    have B9 := Lib.hid (B.out.trans (hb.mono B.out.size))
                    clear cl0 ch0 lt0 cl1 ch1 lt1 cl2 ch2 lt2 cl3 ch3 lt3 cl4 ch4 lt4 cl5 ch5 lt5 cl6 ch6 lt6 cl7 ch7 lt7 cl8 ch8 lt8 cl9 ch9 lt9 cl10 ch10 lt10
                    clear B R hb
                    go_wp2_with fail
                    go_ret
                    exact ⟨rfl, B9.out⟩
                · clear HDI
                  go_wp2_with fail
                  generalize v29.heap.size = k29 at *
                  refine (HL.out _ (HD.out.below B.out (Nat.le_refl _))).mono ?_
                  rintro e w9 ⟨rfl, hb⟩
                  have B9 := Lib.hid (B.out.trans (hb.mono B.out.size))
                  clear cl0 ch0 lt0 cl1 ch1 lt1 cl2 ch2 lt2 cl3 ch3 lt3 cl4 ch4 lt4 cl5 ch5 lt5 cl6 ch6 lt6 cl7 ch7 lt7 cl8 ch8 lt8 cl9 ch9 lt9 cl10 ch10 lt10
                  clear B R hb
                  go_wp2_with fail
                  go_ret
                  exact ⟨rfl, B9.out⟩
              · clear HDI
                go_wp2_with fail
                generalize v29.heap.size = k29 at *
                refine (HL.out _ (HD.out.below B.out (Nat.le_refl _))).mono ?_
                rintro e w9 ⟨rfl, hb⟩
                have B9 := Lib.hid (B.out.trans (hb.mono B.out.size))
                clear cl0 ch0 lt0 cl1 ch1 lt1 cl2 ch2 lt2 cl3 ch3 lt3 cl4 ch4 lt4 cl5 ch5 lt5 cl6 ch6 lt6 cl7 ch7 lt7 cl8 ch8 lt8 cl9 ch9 lt9 cl10 ch10 lt10
                clear B R hb
                go_wp2_with fail
                go_ret
                exact ⟨rfl, B9.out⟩
            · clear HDI
              go_wp2_with fail
              generalize v29.heap.size = k29 at *
              refine (HL.out _ (HD.out.below B.out (Nat.le_refl _))).mono ?_
              rintro e w9 ⟨rfl, hb⟩
              have B9 := Lib.hid (B.out.trans (hb.mono B.out.size))
              clear cl0 ch0 lt0 cl1 ch1 lt1 cl2 ch2 lt2 cl3 ch3 lt3 cl4 ch4 lt4 cl5 ch5 lt5 cl6 ch6 lt6 cl7 ch7 lt7 cl8 ch8 lt8 cl9 ch9 lt9 cl10 ch10 lt10
              clear B R hb
              go_wp2_with fail
              go_ret
              exact ⟨rfl, B9.out⟩
          · clear HDI
            go_wp2_with fail
            generalize v29.heap.size = k29 at *
            refine (HL.out _ (HD.out.below B.out (Nat.le_refl _))).mono ?_
            rintro e w9 ⟨rfl, hb⟩
            have B9 := Lib.hid (B.out.trans (hb.mono B.out.size))
            clear cl0 ch0 lt0 cl1 ch1 lt1 cl2 ch2 lt2 cl3 ch3 lt3 cl4 ch4 lt4 cl5 ch5 lt5 cl6 ch6 lt6 cl7 ch7 lt7 cl8 ch8 lt8 cl9 ch9 lt9 cl10 ch10 lt10
            clear B R hb
            go_wp2_with fail
            go_ret
            exact ⟨rfl, B9.out⟩
end Go.Proofs.YtbkgigbalnmbkaaDoor
