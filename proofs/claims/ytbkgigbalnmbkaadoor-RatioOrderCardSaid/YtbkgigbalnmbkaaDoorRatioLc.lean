/- The walk of the statement RatioOrder. -/
import Derived.Test.YtbkgigbalnmbkaaDoorRatioPq
namespace Go.Proofs.YtbkgigbalnmbkaaDoor
open Go.RowKit
set_option linter.unusedVariables false
set_option maxRecDepth 100000

set_option maxHeartbeats 8000000 in
theorem order_walk (A : Option Addr) (cap : Nat) (l : List Int) (w : World) (hl : l.length ≤ 9223372036854775807) (hc : l.length ≤ cap) (hr : Rd w w.heap.size A (l.map iv)) (hn : ∀ n ∈ l, In64 n) (hD : Door w) :
    Calls Tryd.prog 7 #[.slice A l.length cap] w (Tells true w) := by
  have H3 := Lib.hid (three_any A cap l w hl hc hr hn)
  have HD := Lib.hid hD
  have HL := Lib.hid (fun W (h : Door W) => lives_any W h)
  clear hl hc hr hn hD
  go_enter Tryd.func7, Tryd.ntmps7
  go_wp2_with fail
  refine (H3.out).mono ?_
  rintro e w1 ⟨a, a', b, b', c, c', rfl, hA, hB, hC, hb⟩
  have R := Lib.hid (Rats.three w1 a a' b b' c c')
  have B := Lib.hid (below_three hb a a' b b' c c')
  have HO := Lib.hid (And.intro hA (And.intro hB hC))
  clear hb
  simp only [Rv_def]
  clear H3
  obtain ⟨x1, y1, e1, h1⟩ : ∃ x y e, Rt.sub3 a a' b b' = (x, y, e) := ⟨_, _, _, rfl⟩
  obtain ⟨n, hn⟩ : ∃ n, n = Rt.cmp3 a a' b b' := ⟨_, rfl⟩
  obtain ⟨m, hm⟩ : ∃ m, m = Rt.cmp3 b b' a a' := ⟨_, rfl⟩
  have hv := Rt.cmp3_values a a' b b'
  have hop := Rt.cmp3_opp b b' a a'
  have hnm : wrap64 (-m) = n := by
    rw [← hm, ← hn] at hop
    rw [← hn] at hv
    rw [hop, IntWalk.wrap64_in _ (by omega)]; omega
  have g1 := fun W => sub_ok hA hB W
  have g2 := fun W => cmp_ok hA hB W
  have g3 := fun W => cmp_ok hB hA W
  have g4 := fun W => cmp_ok hA hA W
  rw [h1] at g1
  rw [← hn] at g2 hv
  rw [← hm] at g3
  rw [Rt.cmp3_self] at g4
  have hs : e1 = 0 → (n = 0 ↔ x1 = 0) ∧ (n < 0 ↔ x1 < 0) := fun h => by
    rw [hn]; exact Rt.order_sub (D' := y1) hA hB (by rw [h1, h])
  obtain ⟨x2, y2, e2, h2⟩ : ∃ x y e, Rt.add3 a a' c c' = (x, y, e) := ⟨_, _, _, rfl⟩
  obtain ⟨x3, y3, e3, h3⟩ : ∃ x y e, Rt.add3 b b' c c' = (x, y, e) := ⟨_, _, _, rfl⟩
  have g5 := fun W => add_ok hA hC W
  have g6 := fun W => add_ok hB hC W
  rw [h2] at g5
  rw [h3] at g6
  have g7 : e2 = 0 → e3 = 0 → ∀ W, Calls Tryd.prog 27 #[Rv x2 y2, Rv x3 y3] W (Says (.int .i64 n) W) := fun z2 z3 W => by
    subst z2 z3
    have o := Rt.order_add hA hB hC h2 h3
    have k := cmp_ok (Rt.add3_val hA hC h2).1 (Rt.add3_val hB hC h3).1 W
    rw [o, ← hn] at k
    exact k
  obtain ⟨k, hk⟩ : ∃ k, k = Rt.flo a a' := ⟨_, rfl⟩
  have hkb := Rt.flo_bounds hA
  have g8 := fun W => flo_ok hA W
  rw [← hk] at g8 hkb
  obtain ⟨mk1, ok1⟩ := Rt.mk_one hkb.1 hkb.2
  have g9 := fun W => make_any k 1 W (Ok_in ok1).1 (Ok_in ok1).2
  rw [mk1] at g9
  obtain ⟨u, hu⟩ : ∃ u, u = Rt.cmp3 k 1 a a' := ⟨_, rfl⟩
  have hu0 : u ≤ 0 := by have := Rt.floor_le hA; rw [← hk, ← hu] at this; omega
  have g10 := fun W => cmp_ok ok1 hA W
  rw [← hu] at g10
  have hk1 : wrap64 (k + 1) = k + 1 := IntWalk.wrap64_in _ (by omega)
  have g11 := fun W => make_any (k + 1) 1 W (by unfold In64; omega) ⟨by decide, by decide⟩
  have hab := Rt.above_ends hA
  rw [← hk] at hab
  have g12 : ∀ e, Rt.mk (k + 1) 1 = (k + 1, 1, 0) → Rt.cmp3 a a' (k + 1) 1 = e → ∀ W, Calls Tryd.prog 27 #[Rv a a', Rv (k + 1) 1] W (Says (.int .i64 e) W) := fun e h1 h2 W => by
    have k := cmp_ok hA (Rt.mk_ok h1).2.1 W
    rw [h2] at k
    exact k
  have G1 := Lib.hid g1
  have G2 := Lib.hid g2
  have G3 := Lib.hid g3
  have G4 := Lib.hid g4
  have G5 := Lib.hid g5
  have G6 := Lib.hid g6
  have G7 := Lib.hid g7
  have G8 := Lib.hid g8
  have G9 := Lib.hid g9
  have G10 := Lib.hid g10
  have G11 := Lib.hid g11
  have G12 := Lib.hid g12
  have HS := Lib.hid hs
  have HV := Lib.hid hv
  have HAB := Lib.hid hab
  have HK := Lib.hid hk1
  have HU := Lib.hid hu0
  clear g1 g2 g3 g4 g5 g6 g7 g8 g9 g10 g11 g12 hs hv hop hm hn h1 h2 h3 hk hkb mk1 ok1 hu hu0 hk1 hab hA hB hC HO
  go_wp2_with fail
  refine (G1.out _).mono ?_
  rintro e v1 ⟨rfl, hb⟩
  have q := R.out.step hb
  have hB := B.out.trans (hb.mono B.out.size)
  clear R B hb
  obtain ⟨⟨cl0, ch0⟩, lt0⟩ := q.get (.head _)
  obtain ⟨⟨cl1, ch1⟩, lt1⟩ := q.get (.tail _ (.head _))
  obtain ⟨⟨cl2, ch2⟩, lt2⟩ := q.get (.tail _ (.tail _ (.head _)))
  have R := Lib.hid (q.new x1 y1)
  have B := Lib.hid (hB.alloc hB.size (.cells (Rc x1 y1).toArray 23))
  clear q hB
  simp only [T3, Rv_def]
  go_wp2_with fail
  generalize v1.heap.size = k1 at *
  refine (G2.out _).mono ?_
  rintro e v2 ⟨rfl, hb⟩
  have q := R.out.step hb
  have hB := B.out.trans (hb.mono B.out.size)
  clear cl0 ch0 lt0 cl1 ch1 lt1 cl2 ch2 lt2
  clear R B hb
  obtain ⟨⟨cl0, ch0⟩, lt0⟩ := q.get (.head _)
  obtain ⟨⟨cl1, ch1⟩, lt1⟩ := q.get (.tail _ (.head _))
  obtain ⟨⟨cl2, ch2⟩, lt2⟩ := q.get (.tail _ (.tail _ (.head _)))
  obtain ⟨⟨cl3, ch3⟩, lt3⟩ := q.get (.tail _ (.tail _ (.tail _ (.head _))))
  have R := Lib.hid q
  have B := Lib.hid hB
  clear q hB
  go_upto_region 4 with fail
  go_cut [7, 8, 68] (fun s7 s8 s wx => s7 = .int .i64 e1 ∧ s8 = .int .i64 n ∧ s = .bool false ∧ Rats wx [(k1, x1, y1), (w1.heap.size, a, a'), (w1.heap.size + 1, b, b'), (w1.heap.size + 2, c, c')] ∧ Below w.heap.size w wx)
  case first =>
    have hs := HS.out
    have hv := HV.out
    clear HS HV
    rcases hv with n0 | n0 | n0
    · by_cases z0 : e1 = 0
      · have z1 : x1 < 0 := (hs z0).2.1 (by omega)
        have z2 : ¬ x1 = 0 := by omega
        clear hs
        go_wp2_with fail
        refine (G3.out _).mono ?_
        rintro e v3 ⟨rfl, hb⟩
        have q := R.out.step hb
        have hB := B.out.trans (hb.mono B.out.size)
        clear cl0 ch0 lt0 cl1 ch1 lt1 cl2 ch2 lt2 cl3 ch3 lt3
        clear R B hb
        obtain ⟨⟨cl0, ch0⟩, lt0⟩ := q.get (.head _)
        obtain ⟨⟨cl1, ch1⟩, lt1⟩ := q.get (.tail _ (.head _))
        obtain ⟨⟨cl2, ch2⟩, lt2⟩ := q.get (.tail _ (.tail _ (.head _)))
        obtain ⟨⟨cl3, ch3⟩, lt3⟩ := q.get (.tail _ (.tail _ (.tail _ (.head _))))
        have R := Lib.hid q
        have B := Lib.hid hB
        clear q hB
        go_wp2_with fail
        refine (G4.out _).mono ?_
        rintro e v4 ⟨rfl, hb⟩
        have q := R.out.step hb
        have hB := B.out.trans (hb.mono B.out.size)
        clear cl0 ch0 lt0 cl1 ch1 lt1 cl2 ch2 lt2 cl3 ch3 lt3
        clear R B hb
        obtain ⟨⟨cl0, ch0⟩, lt0⟩ := q.get (.head _)
        obtain ⟨⟨cl1, ch1⟩, lt1⟩ := q.get (.tail _ (.head _))
        obtain ⟨⟨cl2, ch2⟩, lt2⟩ := q.get (.tail _ (.tail _ (.head _)))
        obtain ⟨⟨cl3, ch3⟩, lt3⟩ := q.get (.tail _ (.tail _ (.tail _ (.head _))))
        have R := Lib.hid q
        have B := Lib.hid hB
        clear q hB
        go_wp2_with fail
        go_meet
        case rel => exact ⟨(by rw [z0]), (by rw [n0]), (by first | rfl | (simp; omega)), R.out, B.out⟩
      · clear hs
        go_wp2_with fail
        refine (G3.out _).mono ?_
        rintro e v3 ⟨rfl, hb⟩
        have q := R.out.step hb
        have hB := B.out.trans (hb.mono B.out.size)
        clear cl0 ch0 lt0 cl1 ch1 lt1 cl2 ch2 lt2 cl3 ch3 lt3
        clear R B hb
        obtain ⟨⟨cl0, ch0⟩, lt0⟩ := q.get (.head _)
        obtain ⟨⟨cl1, ch1⟩, lt1⟩ := q.get (.tail _ (.head _))
        obtain ⟨⟨cl2, ch2⟩, lt2⟩ := q.get (.tail _ (.tail _ (.head _)))
        obtain ⟨⟨cl3, ch3⟩, lt3⟩ := q.get (.tail _ (.tail _ (.tail _ (.head _))))
        have R := Lib.hid q
        have B := Lib.hid hB
        clear q hB
        go_wp2_with fail
        refine (G4.out _).mono ?_
        rintro e v4 ⟨rfl, hb⟩
        have q := R.out.step hb
        have hB := B.out.trans (hb.mono B.out.size)
        clear cl0 ch0 lt0 cl1 ch1 lt1 cl2 ch2 lt2 cl3 ch3 lt3
        clear R B hb
        obtain ⟨⟨cl0, ch0⟩, lt0⟩ := q.get (.head _)
        obtain ⟨⟨cl1, ch1⟩, lt1⟩ := q.get (.tail _ (.head _))
        obtain ⟨⟨cl2, ch2⟩, lt2⟩ := q.get (.tail _ (.tail _ (.head _)))
        obtain ⟨⟨cl3, ch3⟩, lt3⟩ := q.get (.tail _ (.tail _ (.tail _ (.head _))))
        have R := Lib.hid q
        have B := Lib.hid hB
        clear q hB
        go_wp2_with fail
        go_meet
        case rel => exact ⟨rfl, (by rw [n0]), (by first | rfl | (simp; omega)), R.out, B.out⟩
    · by_cases z0 : e1 = 0
      · have z1 : x1 = 0 := (hs z0).1.1 n0
        clear hs
        go_wp2_with fail
        refine (G3.out _).mono ?_
        rintro e v3 ⟨rfl, hb⟩
        have q := R.out.step hb
        have hB := B.out.trans (hb.mono B.out.size)
        clear cl0 ch0 lt0 cl1 ch1 lt1 cl2 ch2 lt2 cl3 ch3 lt3
        clear R B hb
        obtain ⟨⟨cl0, ch0⟩, lt0⟩ := q.get (.head _)
        obtain ⟨⟨cl1, ch1⟩, lt1⟩ := q.get (.tail _ (.head _))
        obtain ⟨⟨cl2, ch2⟩, lt2⟩ := q.get (.tail _ (.tail _ (.head _)))
        obtain ⟨⟨cl3, ch3⟩, lt3⟩ := q.get (.tail _ (.tail _ (.tail _ (.head _))))
        have R := Lib.hid q
        have B := Lib.hid hB
        clear q hB
        go_wp2_with fail
        refine (G4.out _).mono ?_
        rintro e v4 ⟨rfl, hb⟩
        have q := R.out.step hb
        have hB := B.out.trans (hb.mono B.out.size)
        clear cl0 ch0 lt0 cl1 ch1 lt1 cl2 ch2 lt2 cl3 ch3 lt3
        clear R B hb
        obtain ⟨⟨cl0, ch0⟩, lt0⟩ := q.get (.head _)
        obtain ⟨⟨cl1, ch1⟩, lt1⟩ := q.get (.tail _ (.head _))
        obtain ⟨⟨cl2, ch2⟩, lt2⟩ := q.get (.tail _ (.tail _ (.head _)))
        obtain ⟨⟨cl3, ch3⟩, lt3⟩ := q.get (.tail _ (.tail _ (.tail _ (.head _))))
        have R := Lib.hid q
        have B := Lib.hid hB
        clear q hB
        go_wp2_with fail
        go_meet
        case rel => exact ⟨(by rw [z0]), (by rw [n0]), (by first | rfl | (simp; omega)), R.out, B.out⟩
      · clear hs
        go_wp2_with fail
        refine (G3.out _).mono ?_
        rintro e v3 ⟨rfl, hb⟩
        have q := R.out.step hb
        have hB := B.out.trans (hb.mono B.out.size)
        clear cl0 ch0 lt0 cl1 ch1 lt1 cl2 ch2 lt2 cl3 ch3 lt3
        clear R B hb
        obtain ⟨⟨cl0, ch0⟩, lt0⟩ := q.get (.head _)
        obtain ⟨⟨cl1, ch1⟩, lt1⟩ := q.get (.tail _ (.head _))
        obtain ⟨⟨cl2, ch2⟩, lt2⟩ := q.get (.tail _ (.tail _ (.head _)))
        obtain ⟨⟨cl3, ch3⟩, lt3⟩ := q.get (.tail _ (.tail _ (.tail _ (.head _))))
        have R := Lib.hid q
        have B := Lib.hid hB
        clear q hB
        go_wp2_with fail
        refine (G4.out _).mono ?_
        rintro e v4 ⟨rfl, hb⟩
        have q := R.out.step hb
        have hB := B.out.trans (hb.mono B.out.size)
        clear cl0 ch0 lt0 cl1 ch1 lt1 cl2 ch2 lt2 cl3 ch3 lt3
        clear R B hb
        obtain ⟨⟨cl0, ch0⟩, lt0⟩ := q.get (.head _)
        obtain ⟨⟨cl1, ch1⟩, lt1⟩ := q.get (.tail _ (.head _))
        obtain ⟨⟨cl2, ch2⟩, lt2⟩ := q.get (.tail _ (.tail _ (.head _)))
        obtain ⟨⟨cl3, ch3⟩, lt3⟩ := q.get (.tail _ (.tail _ (.tail _ (.head _))))
        have R := Lib.hid q
        have B := Lib.hid hB
        clear q hB
        go_wp2_with fail
        go_meet
        case rel => exact ⟨rfl, (by rw [n0]), (by first | rfl | (simp; omega)), R.out, B.out⟩
    · by_cases z0 : e1 = 0
      · have z1 : ¬ x1 = 0 := fun h => absurd ((hs z0).1.2 h) (by omega)
        have z2 : ¬ x1 < 0 := fun h => absurd ((hs z0).2.2 h) (by omega)
        clear hs
        go_wp2_with fail
        refine (G3.out _).mono ?_
        rintro e v3 ⟨rfl, hb⟩
        have q := R.out.step hb
        have hB := B.out.trans (hb.mono B.out.size)
        clear cl0 ch0 lt0 cl1 ch1 lt1 cl2 ch2 lt2 cl3 ch3 lt3
        clear R B hb
        obtain ⟨⟨cl0, ch0⟩, lt0⟩ := q.get (.head _)
        obtain ⟨⟨cl1, ch1⟩, lt1⟩ := q.get (.tail _ (.head _))
        obtain ⟨⟨cl2, ch2⟩, lt2⟩ := q.get (.tail _ (.tail _ (.head _)))
        obtain ⟨⟨cl3, ch3⟩, lt3⟩ := q.get (.tail _ (.tail _ (.tail _ (.head _))))
        have R := Lib.hid q
        have B := Lib.hid hB
        clear q hB
        go_wp2_with fail
        refine (G4.out _).mono ?_
        rintro e v4 ⟨rfl, hb⟩
        have q := R.out.step hb
        have hB := B.out.trans (hb.mono B.out.size)
        clear cl0 ch0 lt0 cl1 ch1 lt1 cl2 ch2 lt2 cl3 ch3 lt3
        clear R B hb
        obtain ⟨⟨cl0, ch0⟩, lt0⟩ := q.get (.head _)
        obtain ⟨⟨cl1, ch1⟩, lt1⟩ := q.get (.tail _ (.head _))
        obtain ⟨⟨cl2, ch2⟩, lt2⟩ := q.get (.tail _ (.tail _ (.head _)))
        obtain ⟨⟨cl3, ch3⟩, lt3⟩ := q.get (.tail _ (.tail _ (.tail _ (.head _))))
        have R := Lib.hid q
        have B := Lib.hid hB
        clear q hB
        go_wp2_with fail
        go_meet
        case rel => exact ⟨(by rw [z0]), (by rw [n0]), (by first | rfl | (simp; omega)), R.out, B.out⟩
      · clear hs
        go_wp2_with fail
        refine (G3.out _).mono ?_
        rintro e v3 ⟨rfl, hb⟩
        have q := R.out.step hb
        have hB := B.out.trans (hb.mono B.out.size)
        clear cl0 ch0 lt0 cl1 ch1 lt1 cl2 ch2 lt2 cl3 ch3 lt3
        clear R B hb
        obtain ⟨⟨cl0, ch0⟩, lt0⟩ := q.get (.head _)
        obtain ⟨⟨cl1, ch1⟩, lt1⟩ := q.get (.tail _ (.head _))
        obtain ⟨⟨cl2, ch2⟩, lt2⟩ := q.get (.tail _ (.tail _ (.head _)))
        obtain ⟨⟨cl3, ch3⟩, lt3⟩ := q.get (.tail _ (.tail _ (.tail _ (.head _))))
        have R := Lib.hid q
        have B := Lib.hid hB
        clear q hB
        go_wp2_with fail
        refine (G4.out _).mono ?_
        rintro e v4 ⟨rfl, hb⟩
        have q := R.out.step hb
        have hB := B.out.trans (hb.mono B.out.size)
        clear cl0 ch0 lt0 cl1 ch1 lt1 cl2 ch2 lt2 cl3 ch3 lt3
        clear R B hb
        obtain ⟨⟨cl0, ch0⟩, lt0⟩ := q.get (.head _)
        obtain ⟨⟨cl1, ch1⟩, lt1⟩ := q.get (.tail _ (.head _))
        obtain ⟨⟨cl2, ch2⟩, lt2⟩ := q.get (.tail _ (.tail _ (.head _)))
        obtain ⟨⟨cl3, ch3⟩, lt3⟩ := q.get (.tail _ (.tail _ (.tail _ (.head _))))
        have R := Lib.hid q
        have B := Lib.hid hB
        clear q hB
        go_wp2_with fail
        go_meet
        case rel => exact ⟨rfl, (by rw [n0]), (by first | rfl | (simp; omega)), R.out, B.out⟩
  case rest =>
    obtain ⟨rfl, rfl, rfl, q, hB⟩ := hcut
    clear cl0 ch0 lt0 cl1 ch1 lt1 cl2 ch2 lt2 cl3 ch3 lt3
    clear R B
    obtain ⟨⟨cl0, ch0⟩, lt0⟩ := q.get (.head _)
    obtain ⟨⟨cl1, ch1⟩, lt1⟩ := q.get (.tail _ (.head _))
    obtain ⟨⟨cl2, ch2⟩, lt2⟩ := q.get (.tail _ (.tail _ (.head _)))
    obtain ⟨⟨cl3, ch3⟩, lt3⟩ := q.get (.tail _ (.tail _ (.tail _ (.head _))))
    have R := Lib.hid q
    have B := Lib.hid hB
    clear q hB
    go_wp2_with fail
    refine (G5.out _).mono ?_
    rintro e v3 ⟨rfl, hb⟩
    have q := R.out.step hb
    have hB := B.out.trans (hb.mono B.out.size)
    clear cl0 ch0 lt0 cl1 ch1 lt1 cl2 ch2 lt2 cl3 ch3 lt3
    clear R B hb
    obtain ⟨⟨cl0, ch0⟩, lt0⟩ := q.get (.head _)
    obtain ⟨⟨cl1, ch1⟩, lt1⟩ := q.get (.tail _ (.head _))
    obtain ⟨⟨cl2, ch2⟩, lt2⟩ := q.get (.tail _ (.tail _ (.head _)))
    obtain ⟨⟨cl3, ch3⟩, lt3⟩ := q.get (.tail _ (.tail _ (.tail _ (.head _))))
    have R := Lib.hid (q.new x2 y2)
    have B := Lib.hid (hB.alloc hB.size (.cells (Rc x2 y2).toArray 23))
    clear q hB
    simp only [T3, Rv_def]
    go_wp2_with fail
    generalize v3.heap.size = k3 at *
    refine (G6.out _).mono ?_
    rintro e v4 ⟨rfl, hb⟩
    have q := R.out.step hb
    have hB := B.out.trans (hb.mono B.out.size)
    clear cl0 ch0 lt0 cl1 ch1 lt1 cl2 ch2 lt2 cl3 ch3 lt3
    clear R B hb
    obtain ⟨⟨cl0, ch0⟩, lt0⟩ := q.get (.head _)
    obtain ⟨⟨cl1, ch1⟩, lt1⟩ := q.get (.tail _ (.head _))
    obtain ⟨⟨cl2, ch2⟩, lt2⟩ := q.get (.tail _ (.tail _ (.head _)))
    obtain ⟨⟨cl3, ch3⟩, lt3⟩ := q.get (.tail _ (.tail _ (.tail _ (.head _))))
    obtain ⟨⟨cl4, ch4⟩, lt4⟩ := q.get (.tail _ (.tail _ (.tail _ (.tail _ (.head _)))))
    have R := Lib.hid (q.new x3 y3)
    have B := Lib.hid (hB.alloc hB.size (.cells (Rc x3 y3).toArray 23))
    clear q hB
    simp only [T3, Rv_def]
    go_upto_region 8 with fail
    obtain ⟨V, hV⟩ : ∃ V, V = v4.alloc (.cells (Rc x3 y3).toArray 23) := ⟨_, rfl⟩
    rw [show v4.alloc (.cells #[.int .i64 x3, .int .i64 y3] 23) = V from hV.symm]
    rw [← hV] at R B
    clear hV
    clear cl0 ch0 lt0 cl1 ch1 lt1 cl2 ch2 lt2 cl3 ch3 lt3 cl4 ch4 lt4
    generalize v4.heap.size = k4 at *
    obtain ⟨⟨cl0, ch0⟩, lt0⟩ := R.out.get (.head _)
    obtain ⟨⟨cl1, ch1⟩, lt1⟩ := R.out.get (.tail _ (.head _))
    obtain ⟨⟨cl2, ch2⟩, lt2⟩ := R.out.get (.tail _ (.tail _ (.head _)))
    obtain ⟨⟨cl3, ch3⟩, lt3⟩ := R.out.get (.tail _ (.tail _ (.tail _ (.head _))))
    obtain ⟨⟨cl4, ch4⟩, lt4⟩ := R.out.get (.tail _ (.tail _ (.tail _ (.tail _ (.head _)))))
    obtain ⟨⟨cl5, ch5⟩, lt5⟩ := R.out.get (.tail _ (.tail _ (.tail _ (.tail _ (.tail _ (.head _))))))
    go_cut [10, 12, 93] (fun s10 s12 s wx => s10 = .int .i64 e2 ∧ s12 = .int .i64 e3 ∧ s = .bool false ∧ Rats wx [(k4, x3, y3), (k3, x2, y2), (k1, x1, y1), (w1.heap.size, a, a'), (w1.heap.size + 1, b, b'), (w1.heap.size + 2, c, c')] ∧ Below w.heap.size w wx)
    case first =>
      by_cases z2 : e2 = 0
      · by_cases z3 : e3 = 0
        · have g7 := Lib.hid (G7.out z2 z3)
          go_wp2_with fail
          refine (g7.out _).mono ?_
          rintro e v5 ⟨rfl, hb⟩
          have q := R.out.step hb
          have hB := B.out.trans (hb.mono B.out.size)
          clear cl0 ch0 lt0 cl1 ch1 lt1 cl2 ch2 lt2 cl3 ch3 lt3 cl4 ch4 lt4 cl5 ch5 lt5
          clear R B hb
          obtain ⟨⟨cl0, ch0⟩, lt0⟩ := q.get (.head _)
          obtain ⟨⟨cl1, ch1⟩, lt1⟩ := q.get (.tail _ (.head _))
          obtain ⟨⟨cl2, ch2⟩, lt2⟩ := q.get (.tail _ (.tail _ (.head _)))
          obtain ⟨⟨cl3, ch3⟩, lt3⟩ := q.get (.tail _ (.tail _ (.tail _ (.head _))))
          obtain ⟨⟨cl4, ch4⟩, lt4⟩ := q.get (.tail _ (.tail _ (.tail _ (.tail _ (.head _)))))
          obtain ⟨⟨cl5, ch5⟩, lt5⟩ := q.get (.tail _ (.tail _ (.tail _ (.tail _ (.tail _ (.head _))))))
          have R := Lib.hid q
          have B := Lib.hid hB
          clear q hB
          go_wp2_with fail
          go_meet
          case rel => exact ⟨(by rw [z2]), (by rw [z3]), (by first | rfl | (simp; omega)), R.out, B.out⟩
        · clear G7
          go_wp2_with fail
          go_meet
          case rel => exact ⟨(by rw [z2]), rfl, (by first | rfl | (simp; omega)), R.out, B.out⟩
      · clear G7
        go_wp2_with fail
        go_meet
        case rel => exact ⟨rfl, rfl, (by first | rfl | (simp; omega)), R.out, B.out⟩
    case rest =>
      obtain ⟨rfl, rfl, rfl, q, hB⟩ := hcut
      clear cl0 ch0 lt0 cl1 ch1 lt1 cl2 ch2 lt2 cl3 ch3 lt3 cl4 ch4 lt4 cl5 ch5 lt5
      clear R B
      obtain ⟨⟨cl0, ch0⟩, lt0⟩ := q.get (.head _)
      obtain ⟨⟨cl1, ch1⟩, lt1⟩ := q.get (.tail _ (.head _))
      obtain ⟨⟨cl2, ch2⟩, lt2⟩ := q.get (.tail _ (.tail _ (.head _)))
      obtain ⟨⟨cl3, ch3⟩, lt3⟩ := q.get (.tail _ (.tail _ (.tail _ (.head _))))
      obtain ⟨⟨cl4, ch4⟩, lt4⟩ := q.get (.tail _ (.tail _ (.tail _ (.tail _ (.head _)))))
      obtain ⟨⟨cl5, ch5⟩, lt5⟩ := q.get (.tail _ (.tail _ (.tail _ (.tail _ (.tail _ (.head _))))))
      have R := Lib.hid q
      have B := Lib.hid hB
      clear q hB
      go_wp2_with fail
      refine (G8.out _).mono ?_
      rintro e v5 ⟨rfl, hb⟩
      have q := R.out.step hb
      have hB := B.out.trans (hb.mono B.out.size)
      clear cl0 ch0 lt0 cl1 ch1 lt1 cl2 ch2 lt2 cl3 ch3 lt3 cl4 ch4 lt4 cl5 ch5 lt5
      clear R B hb
      obtain ⟨⟨cl0, ch0⟩, lt0⟩ := q.get (.head _)
      obtain ⟨⟨cl1, ch1⟩, lt1⟩ := q.get (.tail _ (.head _))
      obtain ⟨⟨cl2, ch2⟩, lt2⟩ := q.get (.tail _ (.tail _ (.head _)))
      obtain ⟨⟨cl3, ch3⟩, lt3⟩ := q.get (.tail _ (.tail _ (.tail _ (.head _))))
      obtain ⟨⟨cl4, ch4⟩, lt4⟩ := q.get (.tail _ (.tail _ (.tail _ (.tail _ (.head _)))))
      obtain ⟨⟨cl5, ch5⟩, lt5⟩ := q.get (.tail _ (.tail _ (.tail _ (.tail _ (.tail _ (.head _))))))
      have R := Lib.hid q
      have B := Lib.hid hB
      clear q hB
      go_wp2_with fail
      refine (G9.out _).mono ?_
      rintro e v6 ⟨rfl, hb⟩
      have q := R.out.step hb
      have hB := B.out.trans (hb.mono B.out.size)
      clear cl0 ch0 lt0 cl1 ch1 lt1 cl2 ch2 lt2 cl3 ch3 lt3 cl4 ch4 lt4 cl5 ch5 lt5
      clear R B hb
      obtain ⟨⟨cl0, ch0⟩, lt0⟩ := q.get (.head _)
      obtain ⟨⟨cl1, ch1⟩, lt1⟩ := q.get (.tail _ (.head _))
      obtain ⟨⟨cl2, ch2⟩, lt2⟩ := q.get (.tail _ (.tail _ (.head _)))
      obtain ⟨⟨cl3, ch3⟩, lt3⟩ := q.get (.tail _ (.tail _ (.tail _ (.head _))))
      obtain ⟨⟨cl4, ch4⟩, lt4⟩ := q.get (.tail _ (.tail _ (.tail _ (.tail _ (.head _)))))
      obtain ⟨⟨cl5, ch5⟩, lt5⟩ := q.get (.tail _ (.tail _ (.tail _ (.tail _ (.tail _ (.head _))))))
      have R := Lib.hid (q.new k 1)
      have B := Lib.hid (hB.alloc hB.size (.cells (Rc k 1).toArray 23))
      clear q hB
      simp only [T3, Rv_def]
      have hu0 := HU.out
      have hu1 : ¬ 0 < u := by omega
      have hk1 := HK.out
      go_wp2_with fail
      generalize v6.heap.size = k6 at *
      refine (G10.out _).mono ?_
      rintro e v7 ⟨rfl, hb⟩
      have q := R.out.step hb
      have hB := B.out.trans (hb.mono B.out.size)
      clear cl0 ch0 lt0 cl1 ch1 lt1 cl2 ch2 lt2 cl3 ch3 lt3 cl4 ch4 lt4 cl5 ch5 lt5
      clear R B hb
      obtain ⟨⟨cl0, ch0⟩, lt0⟩ := q.get (.head _)
      obtain ⟨⟨cl1, ch1⟩, lt1⟩ := q.get (.tail _ (.head _))
      obtain ⟨⟨cl2, ch2⟩, lt2⟩ := q.get (.tail _ (.tail _ (.head _)))
      obtain ⟨⟨cl3, ch3⟩, lt3⟩ := q.get (.tail _ (.tail _ (.tail _ (.head _))))
      obtain ⟨⟨cl4, ch4⟩, lt4⟩ := q.get (.tail _ (.tail _ (.tail _ (.tail _ (.head _)))))
      obtain ⟨⟨cl5, ch5⟩, lt5⟩ := q.get (.tail _ (.tail _ (.tail _ (.tail _ (.tail _ (.head _))))))
      obtain ⟨⟨cl6, ch6⟩, lt6⟩ := q.get (.tail _ (.tail _ (.tail _ (.tail _ (.tail _ (.tail _ (.head _)))))))
      have R := Lib.hid q
      have B := Lib.hid hB
      clear q hB
      rcases HAB.out with ⟨ha1, ha2⟩ | ha1
      · have g12 := Lib.hid (G12.out (-1) ha1 ha2)
        have g11 := G11.out
        rw [ha1] at g11
        have G11 := Lib.hid g11
        clear g11 ha1 ha2 HAB
        go_wp2_with fail
        refine (G11.out _).mono ?_
        rintro e v8 ⟨rfl, hb⟩
        have q := R.out.step hb
        have hB := B.out.trans (hb.mono B.out.size)
        clear cl0 ch0 lt0 cl1 ch1 lt1 cl2 ch2 lt2 cl3 ch3 lt3 cl4 ch4 lt4 cl5 ch5 lt5 cl6 ch6 lt6
        clear R B hb
        obtain ⟨⟨cl0, ch0⟩, lt0⟩ := q.get (.head _)
        obtain ⟨⟨cl1, ch1⟩, lt1⟩ := q.get (.tail _ (.head _))
        obtain ⟨⟨cl2, ch2⟩, lt2⟩ := q.get (.tail _ (.tail _ (.head _)))
        obtain ⟨⟨cl3, ch3⟩, lt3⟩ := q.get (.tail _ (.tail _ (.tail _ (.head _))))
        obtain ⟨⟨cl4, ch4⟩, lt4⟩ := q.get (.tail _ (.tail _ (.tail _ (.tail _ (.head _)))))
        obtain ⟨⟨cl5, ch5⟩, lt5⟩ := q.get (.tail _ (.tail _ (.tail _ (.tail _ (.tail _ (.head _))))))
        obtain ⟨⟨cl6, ch6⟩, lt6⟩ := q.get (.tail _ (.tail _ (.tail _ (.tail _ (.tail _ (.tail _ (.head _)))))))
        have R := Lib.hid (q.new (k + 1) 1)
        have B := Lib.hid (hB.alloc hB.size (.cells (Rc (k + 1) 1).toArray 23))
        clear q hB
        simp only [T3, Rv_def]
        go_wp2_with fail
        generalize v8.heap.size = k8 at *
        refine (g12.out _).mono ?_
        rintro e v9 ⟨rfl, hb⟩
        have q := R.out.step hb
        have hB := B.out.trans (hb.mono B.out.size)
        clear cl0 ch0 lt0 cl1 ch1 lt1 cl2 ch2 lt2 cl3 ch3 lt3 cl4 ch4 lt4 cl5 ch5 lt5 cl6 ch6 lt6
        clear R B hb
        obtain ⟨⟨cl0, ch0⟩, lt0⟩ := q.get (.head _)
        obtain ⟨⟨cl1, ch1⟩, lt1⟩ := q.get (.tail _ (.head _))
        obtain ⟨⟨cl2, ch2⟩, lt2⟩ := q.get (.tail _ (.tail _ (.head _)))
        obtain ⟨⟨cl3, ch3⟩, lt3⟩ := q.get (.tail _ (.tail _ (.tail _ (.head _))))
        obtain ⟨⟨cl4, ch4⟩, lt4⟩ := q.get (.tail _ (.tail _ (.tail _ (.tail _ (.head _)))))
        obtain ⟨⟨cl5, ch5⟩, lt5⟩ := q.get (.tail _ (.tail _ (.tail _ (.tail _ (.tail _ (.head _))))))
        obtain ⟨⟨cl6, ch6⟩, lt6⟩ := q.get (.tail _ (.tail _ (.tail _ (.tail _ (.tail _ (.tail _ (.head _)))))))
        obtain ⟨⟨cl7, ch7⟩, lt7⟩ := q.get (.tail _ (.tail _ (.tail _ (.tail _ (.tail _ (.tail _ (.tail _ (.head _))))))))
        have R := Lib.hid q
        have B := Lib.hid hB
        clear q hB
        go_wp2_with fail
        refine (HL.out _ (HD.out.below B.out (Nat.le_refl _))).mono ?_
        rintro e w9 ⟨rfl, hb⟩
        have B9 := Lib.hid (B.out.trans (hb.mono B.out.size))
        clear cl0 ch0 lt0 cl1 ch1 lt1 cl2 ch2 lt2 cl3 ch3 lt3 cl4 ch4 lt4 cl5 ch5 lt5 cl6 ch6 lt6 cl7 ch7 lt7
        clear B R hb
        go_wp2_with fail
        go_ret
        exact ⟨rfl, B9.out⟩
      · have g11 := G11.out
        rw [ha1] at g11
        have G11 := Lib.hid g11
        clear g11 ha1 HAB G12
        go_wp2_with fail
        refine (G11.out _).mono ?_
        rintro e v8 ⟨rfl, hb⟩
        have q := R.out.step hb
        have hB := B.out.trans (hb.mono B.out.size)
        clear cl0 ch0 lt0 cl1 ch1 lt1 cl2 ch2 lt2 cl3 ch3 lt3 cl4 ch4 lt4 cl5 ch5 lt5 cl6 ch6 lt6
        clear R B hb
        obtain ⟨⟨cl0, ch0⟩, lt0⟩ := q.get (.head _)
        obtain ⟨⟨cl1, ch1⟩, lt1⟩ := q.get (.tail _ (.head _))
        obtain ⟨⟨cl2, ch2⟩, lt2⟩ := q.get (.tail _ (.tail _ (.head _)))
        obtain ⟨⟨cl3, ch3⟩, lt3⟩ := q.get (.tail _ (.tail _ (.tail _ (.head _))))
        obtain ⟨⟨cl4, ch4⟩, lt4⟩ := q.get (.tail _ (.tail _ (.tail _ (.tail _ (.head _)))))
        obtain ⟨⟨cl5, ch5⟩, lt5⟩ := q.get (.tail _ (.tail _ (.tail _ (.tail _ (.tail _ (.head _))))))
        obtain ⟨⟨cl6, ch6⟩, lt6⟩ := q.get (.tail _ (.tail _ (.tail _ (.tail _ (.tail _ (.tail _ (.head _)))))))
        have R := Lib.hid (q.new 0 0)
        have B := Lib.hid (hB.alloc hB.size (.cells (Rc 0 0).toArray 23))
        clear q hB
        simp only [T3, Rv_def]
        go_wp2_with fail
        generalize v8.heap.size = k8 at *
        refine (HL.out _ (HD.out.below B.out (Nat.le_refl _))).mono ?_
        rintro e w9 ⟨rfl, hb⟩
        have B9 := Lib.hid (B.out.trans (hb.mono B.out.size))
        clear cl0 ch0 lt0 cl1 ch1 lt1 cl2 ch2 lt2 cl3 ch3 lt3 cl4 ch4 lt4 cl5 ch5 lt5 cl6 ch6 lt6
        clear B R hb
        go_wp2_with fail
        go_ret
        exact ⟨rfl, B9.out⟩
end Go.Proofs.YtbkgigbalnmbkaaDoor
