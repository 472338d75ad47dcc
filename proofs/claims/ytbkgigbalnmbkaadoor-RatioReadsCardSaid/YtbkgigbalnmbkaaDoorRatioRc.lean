/- The contracts of dioramaref04.Add and dioramaref04.Sub. -/
import Derived.Test.YtbkgigbalnmbkaaDoorRatioRa
import Derived.Test.YtbkgigbalnmbkaaDoorRatioPq
import Derived.Test.YtbkgigbalnmbkaaDoorPick
namespace Go.Proofs.YtbkgigbalnmbkaaDoor
open Go.RowKit
set_option linter.unusedVariables false
set_option maxRecDepth 100000

theorem half_le {a g : Int} (ha : 1 ≤ a ∧ a ≤ 2147483648) (hg : 2 ≤ g) : 0 ≤ a / g ∧ a / g ≤ 1073741824 := by
  have h0 : 0 ≤ a / g := Int.ediv_nonneg (by omega) (by omega)
  have h1 := Int.ediv_mul_le a (b := g) (by omega)
  have h2 : a / g * 2 ≤ a / g * g := Int.mul_le_mul_of_nonneg_left hg h0
  omega
theorem part_le {a b g : Int} (ha : -2147483648 ≤ a ∧ a ≤ 2147483648) (hb : 0 ≤ b ∧ b ≤ 1073741824) : (a * b).natAbs ≤ 2305843009213693952 := by
  rw [Int.natAbs_mul]
  calc a.natAbs * b.natAbs ≤ 2147483648 * 1073741824 := Nat.mul_le_mul (by omega) (by omega)
    _ = _ := by decide

/-- How the reference adds. -/
theorem add2_reckons {P Q P' Q' : Int} (h : Rt.Ok P Q) (h' : Rt.Ok P' Q') (g : Nat) (hg : g = Nat.gcd (Rt.den Q).natAbs (Rt.den Q').natAbs) :
    1 ≤ g ∧ g ≤ 2147483648 ∧ (0 ≤ Rt.den Q / g ∧ Rt.den Q / g ≤ 2147483648) ∧ (0 ≤ Rt.den Q' / g ∧ Rt.den Q' / g ≤ 2147483648) ∧
    wrap64 (P * (Rt.den Q' / g)) = P * (Rt.den Q' / g) ∧ wrap64 (P' * (Rt.den Q / g)) = P' * (Rt.den Q / g) ∧ wrap64 (P * (Rt.den Q' / g) + P' * (Rt.den Q / g)) = P * (Rt.den Q' / g) + P' * (Rt.den Q / g) ∧
    wrap64 (Rt.den Q / g * (Rt.den Q' / g)) = Rt.den Q / g * (Rt.den Q' / g) ∧ wrap64 (Rt.den Q / g * (Rt.den Q' / g) * g) = Rt.den Q / g * (Rt.den Q' / g) * g ∧
    Rt.mk (P * (Rt.den Q' / g) + P' * (Rt.den Q / g)) (Rt.den Q / g * (Rt.den Q' / g) * g) = Rt.add3 P Q P' Q' := by
  rw [Rt.add_gcd g hg, Rt.add3_ok h h']
  have b1 := h.bounds
  have b2 := h'.bounds
  have d1 := h.den_le
  have d2 := h'.den_le
  have p1 := Rt.den_pos Q
  have p2 := Rt.den_pos Q'
  have t4 := Rt.sum_lt h h'
  have hg1 : 1 ≤ g := by rw [hg]; exact Nat.gcd_pos_of_pos_left _ (by omega)
  have hg2 : g ≤ (Rt.den Q).natAbs := by rw [hg]; exact Nat.le_of_dvd (by omega) (Nat.gcd_dvd_left _ _)
  have e2 : (Rt.den Q' / g) * g = Rt.den Q' := by
    have : (g : Int) ∣ Rt.den Q' := by
      rw [hg]; have := Nat.gcd_dvd_right (Rt.den Q).natAbs (Rt.den Q').natAbs
      exact Int.dvd_natAbs.1 (Int.ofNat_dvd.2 this)
    exact Int.ediv_mul_cancel this
  have x0 : 0 ≤ Rt.den Q / g := Int.ediv_nonneg (by omega) (by omega)
  have y0 : 0 ≤ Rt.den Q' / g := Int.ediv_nonneg (by omega) (by omega)
  have x1 : Rt.den Q / g ≤ Rt.den Q := Int.ediv_le_self _ (by omega)
  have y1 : Rt.den Q' / g ≤ Rt.den Q' := Int.ediv_le_self _ (by omega)
  have t1 : (P * (Rt.den Q' / g)).natAbs ≤ 4611686018427387904 := Rt.prod_le (by omega) (by omega)
  have t2 : (P' * (Rt.den Q / g)).natAbs ≤ 4611686018427387904 := Rt.prod_le (by omega) (by omega)
  have t3 : (Rt.den Q / g * (Rt.den Q' / g)).natAbs ≤ 4611686018427387904 := Rt.prod_le (by omega) (by omega)
  have t5 : (Rt.den Q / g * (Rt.den Q' / g) * g).natAbs ≤ 4611686018427387904 := by
    rw [Int.mul_assoc, e2]; exact Rt.prod_le (by omega) (by omega)
  have t6 : (P * (Rt.den Q' / g) + P' * (Rt.den Q / g)).natAbs < 9223372036854775808 := by
    by_cases h1 : g = 1
    · subst h1
      simp only [Int.natCast_one, Int.ediv_one]
      exact t4
    · have k1 := half_le (a := Rt.den Q) (g := g) ⟨p1, d1⟩ (by omega)
      have k2 := half_le (a := Rt.den Q') (g := g) ⟨p2, d2⟩ (by omega)
      have k3 := part_le (a := P) (b := Rt.den Q' / g) (g := 0) (by omega) k2
      have k4 := part_le (a := P') (b := Rt.den Q / g) (g := 0) (by omega) k1
      omega
  refine ⟨hg1, by omega, ⟨x0, by omega⟩, ⟨y0, by omega⟩, IntWalk.wrap64_in _ ?_, IntWalk.wrap64_in _ ?_, IntWalk.wrap64_in _ ?_, IntWalk.wrap64_in _ ?_, IntWalk.wrap64_in _ ?_, rfl⟩
  all_goals (clear h h' b1 b2 d1 d2 p1 p2 hg hg1 hg2 e2 x0 y0 x1 y1; omega)

theorem small64 {z : Int} (h0 : 0 ≤ z) (h1 : z ≤ 2147483648) : wrap64 z = z ∧ IntKind.i64.wrap z = z := ⟨IntWalk.wrap64_in _ (by omega), i64_in _ (by omega) (by omega)⟩
theorem small_nat {g : Nat} (h0 : 1 ≤ g) (h1 : g ≤ 2147483648) : wrap64 (g : Int) = g ∧ IntKind.i64.wrap (g : Int) = g ∧ ¬ ((g : Int) = 0) := ⟨IntWalk.wrap64_in _ (by omega), i64_in _ (by omega) (by omega), by omega⟩
theorem says_of {f : FuncId} {args : Array Value} {v : Value} {W : World} (h : Calls Tryd.prog f args W fun e w' => e = .returned v ∧ W = w') : Calls Tryd.prog f args W (Says v W) :=
  h.mono fun e w' k => ⟨k.1, by rw [← k.2]; exact Below.refl _ _⟩

set_option maxHeartbeats 8000000 in
theorem refAdd_any (P Q P' Q' : Int) (w : World) (hp : In64 P) (hq : In64 Q) (hp' : In64 P') (hq' : In64 Q') :
    Calls Tryd.prog 34 #[Rv P Q, Rv P' Q'] w (Says (T3 (Rt.add3 P Q P' Q')) w) := by
  have g1 := fun W => refValid_any P Q W hp hq
  have g2 := fun W => refValid_any P' Q' W hp' hq'
  obtain ⟨t, ht⟩ : ∃ t, t = Rt.add3 P Q P' Q' := ⟨_, rfl⟩
  rw [← ht]
  by_cases h1 : Rt.Ok P Q
  · by_cases h2 : Rt.Ok P' Q'
    · rw [decide_eq_true h1] at g1
      rw [decide_eq_true h2] at g2
      obtain ⟨g, hg⟩ : ∃ g, g = Nat.gcd (Rt.den Q).natAbs (Rt.den Q').natAbs := ⟨_, rfl⟩
      have hre := add2_reckons h1 h2 g hg
      have i1 : In64 (Rt.den Q) := by have := h1.den_le; have := Rt.den_pos Q; unfold In64; omega
      have i2 : In64 (Rt.den Q') := by have := h2.den_le; have := Rt.den_pos Q'; unfold In64; omega
      have p1 := Rt.den_pos Q
      have p2 := Rt.den_pos Q'
      have g3 := fun W => den_any P Q W
      have g4 := fun W => den_any P' Q' W
      have g5 := fun W => says_of (size_any (Rt.den Q) W i1)
      have g6 := fun W => says_of (size_any (Rt.den Q') W i2)
      have g7 := fun W => says_of (common_any (Rt.den Q).natAbs (Rt.den Q').natAbs W (by unfold In64 at i1; omega) (by unfold In64 at i2; omega))
      rw [← hg] at g7
      rw [← ht] at hre
      generalize (Rt.den Q).natAbs = nx at *
      generalize (Rt.den Q').natAbs = ny at *
      generalize Rt.den Q = da at *
      generalize Rt.den Q' = db at *
      obtain ⟨r1, r2, ⟨r3, r4⟩, ⟨r5, r6⟩, r7, r8, r9, r10, r11, r12⟩ := hre
      obtain ⟨x, hx⟩ : ∃ x, x = da / (g : Int) := ⟨_, rfl⟩
      obtain ⟨y, hy⟩ : ∃ y, y = db / (g : Int) := ⟨_, rfl⟩
      have tx : da.tdiv g = x := by rw [hx, Int.tdiv_eq_ediv_of_nonneg (by omega)]
      have ty : db.tdiv g = y := by rw [hy, Int.tdiv_eq_ediv_of_nonneg (by omega)]
      rw [← hx] at r3 r4 r8 r9 r10 r11 r12
      rw [← hy] at r5 r6 r7 r9 r10 r11 r12
      have in1 : In64 (P * y + P' * x) := by rw [← r9]; exact w64_in _
      have in2 : In64 (x * y * g) := by rw [← r11]; exact w64_in _
      have g8 := fun W => refMake_any (P * y + P' * x) (x * y * g) W in1 in2
      rw [r12] at g8
      have G1 := Lib.hid g1
      have G2 := Lib.hid g2
      have G3 := Lib.hid g3
      have G4 := Lib.hid g4
      have G5 := Lib.hid g5
      have G6 := Lib.hid g6
      have G7 := Lib.hid g7
      have G8 := Lib.hid g8
      obtain ⟨gw, gw2, g0⟩ := small_nat r1 r2
      have wx := (small64 r3 r4).1
      have wy := (small64 r5 r6).1
      have hx1 := hx.symm
      have hy1 := hy.symm
      clear hx hy
      generalize (g : Int) = gi at *
      have GB := Lib.hid (And.intro gw gw2)
      have R := Lib.hid (Rats.three w P Q P' Q' 0 0)
      have B := Lib.hid (below_three (Below.refl w.heap.size w) P Q P' Q' 0 0)
      clear g1 g2 g3 g4 g5 g6 g7 g8 r1 r2 r12 in1 in2 i1 i2 ht hg h1 h2 hp hq hp' hq' gw2
      show Calls _ _ #[.agg #[.int .i64 P, .int .i64 Q], .agg #[.int .i64 P', .int .i64 Q']] _ _
      go_enter Tryd.func34, Tryd.ntmps34
      go_wp2_with fail
      refine (G1.out _).mono ?_
      rintro e v1 ⟨rfl, hb⟩
      have q := R.out.step hb
      have hB := B.out.trans (hb.mono B.out.size)
      clear R B hb
      obtain ⟨⟨cl0, ch0⟩, lt0⟩ := q.get (.head _)
      obtain ⟨⟨cl1, ch1⟩, lt1⟩ := q.get (.tail _ (.head _))
      obtain ⟨⟨cl2, ch2⟩, lt2⟩ := q.get (.tail _ (.tail _ (.head _)))
      have R := Lib.hid q
      have B := Lib.hid hB
      clear q hB
      go_wp2_with fail
      refine (G2.out _).mono ?_
      rintro e v2 ⟨rfl, hb⟩
      have q := R.out.step hb
      have hB := B.out.trans (hb.mono B.out.size)
      clear cl0 ch0 lt0 cl1 ch1 lt1 cl2 ch2 lt2
      clear R B hb
      obtain ⟨⟨cl0, ch0⟩, lt0⟩ := q.get (.head _)
      obtain ⟨⟨cl1, ch1⟩, lt1⟩ := q.get (.tail _ (.head _))
      obtain ⟨⟨cl2, ch2⟩, lt2⟩ := q.get (.tail _ (.tail _ (.head _)))
      have R := Lib.hid q
      have B := Lib.hid hB
      clear q hB
      go_wp2_with fail
      clear cl0 ch0 lt0 cl1 ch1 lt1 cl2 ch2 lt2
      refine wp_region_guarded [18, 19, 20, 21, 22, 23, 24, 25] [.is (Rv P Q), .is (.int .i64 da), .is (.int .u64 (nx : Int)), .is (Rv P' Q'), .is (.int .i64 db), .is (.int .u64 (ny : Int)), .is (.int .u64 gi), .is (.int .i64 gi)] (by kernel_rfl) (by kernel_rfl) ?_ ?_
      · intro i hi fb w' hb hd hx o ho
        match i, hi with
        | 0, _ =>
          obtain rfl := Option.some.inj ho
          have e : fb.tmps.getD 2 undef = .pointer (some ⟨w.heap.size, 0, none⟩) := hx 2 rfl
          have hr := load_rat w' _ _ _ (R.out.step hb _ (.head _))
          rw [← e] at hr
          exact runs_value rfl hr ⟨rfl, Below.refl _ _⟩
        | 1, _ =>
          obtain rfl := Option.some.inj ho
          dsimp only [Guarded]
          have e0 : fb.tmps.getD 18 undef = Rv P Q := hd 0 (by kernel_rfl) (by decide)
          refine runs_call rfl (fun _ _ => rfl) ?_
          show Calls _ _ #[fb.tmps.getD 18 undef] w' _
          rw [e0]
          exact (G3.out w').mono fun e w'' h => ⟨_, h.1, rfl, h.2⟩
        | 2, _ =>
          obtain rfl := Option.some.inj ho
          dsimp only [Guarded]
          have e0 : fb.tmps.getD 19 undef = .int .i64 da := hd 1 (by kernel_rfl) (by decide)
          refine runs_call rfl (fun _ _ => rfl) ?_
          show Calls _ _ #[fb.tmps.getD 19 undef] w' _
          rw [e0]
          exact (G5.out w').mono fun e w'' h => ⟨_, h.1, rfl, h.2⟩
        | 3, _ =>
          obtain rfl := Option.some.inj ho
          have e : fb.tmps.getD 3 undef = .pointer (some ⟨w.heap.size + 1, 0, none⟩) := hx 3 rfl
          have hr := load_rat w' _ _ _ (R.out.step hb _ (.tail _ (.head _)))
          rw [← e] at hr
          exact runs_value rfl hr ⟨rfl, Below.refl _ _⟩
        | 4, _ =>
          obtain rfl := Option.some.inj ho
          dsimp only [Guarded]
          have e0 : fb.tmps.getD 21 undef = Rv P' Q' := hd 3 (by kernel_rfl) (by decide)
          refine runs_call rfl (fun _ _ => rfl) ?_
          show Calls _ _ #[fb.tmps.getD 21 undef] w' _
          rw [e0]
          exact (G4.out w').mono fun e w'' h => ⟨_, h.1, rfl, h.2⟩
        | 5, _ =>
          obtain rfl := Option.some.inj ho
          dsimp only [Guarded]
          have e0 : fb.tmps.getD 22 undef = .int .i64 db := hd 4 (by kernel_rfl) (by decide)
          refine runs_call rfl (fun _ _ => rfl) ?_
          show Calls _ _ #[fb.tmps.getD 22 undef] w' _
          rw [e0]
          exact (G6.out w').mono fun e w'' h => ⟨_, h.1, rfl, h.2⟩
        | 6, _ =>
          obtain rfl := Option.some.inj ho
          dsimp only [Guarded]
          have e0 : fb.tmps.getD 20 undef = .int .u64 (nx : Int) := hd 2 (by kernel_rfl) (by decide)
          have e1 : fb.tmps.getD 23 undef = .int .u64 (ny : Int) := hd 5 (by kernel_rfl) (by decide)
          refine runs_call rfl (fun _ _ => rfl) ?_
          show Calls _ _ #[fb.tmps.getD 20 undef, fb.tmps.getD 23 undef] w' _
          rw [e0, e1]
          exact (G7.out w').mono fun e w'' h => ⟨_, h.1, rfl, h.2⟩
        | 7, _ =>
          obtain rfl := Option.some.inj ho
          have e0 : fb.tmps.getD 24 undef = .int .u64 gi := hd 6 (by kernel_rfl) (by decide)
          refine runs_value rfl ?_ ⟨rfl, Below.refl _ _⟩
          rw [show fb.eval (.tmp 24) = _ from e0]
          have gw := GB.out.1
          have gw2 := GB.out.2
          go_simp
      · intro vals w' hb hf
        have e7 : vals 7 = .int .i64 gi := hf 7 (by decide)
        simp only [puts, List.length_cons, List.length_nil, Nat.zero_add, Nat.reduceAdd, List.drop_succ_cons, List.drop_zero, e7]
        have q := R.out.step hb
        have hB := B.out.trans (hb.mono B.out.size)
        clear e7 hf hb R B
        obtain ⟨⟨cl0, ch0⟩, lt0⟩ := q.get (.head _)
        obtain ⟨⟨cl1, ch1⟩, lt1⟩ := q.get (.tail _ (.head _))
        obtain ⟨⟨cl2, ch2⟩, lt2⟩ := q.get (.tail _ (.tail _ (.head _)))
        have R := Lib.hid q
        have B := Lib.hid hB
        clear q hB
        go_frame
        go_wp2_with fail
        refine (G3.out _).mono ?_
        rintro e v3 ⟨rfl, hb⟩
        have q := R.out.step hb
        have hB := B.out.trans (hb.mono B.out.size)
        clear cl0 ch0 lt0 cl1 ch1 lt1 cl2 ch2 lt2
        clear R B hb
        obtain ⟨⟨cl0, ch0⟩, lt0⟩ := q.get (.head _)
        obtain ⟨⟨cl1, ch1⟩, lt1⟩ := q.get (.tail _ (.head _))
        obtain ⟨⟨cl2, ch2⟩, lt2⟩ := q.get (.tail _ (.tail _ (.head _)))
        have R := Lib.hid q
        have B := Lib.hid hB
        clear q hB
        go_wp2_with fail
        refine (G4.out _).mono ?_
        rintro e v4 ⟨rfl, hb⟩
        have q := R.out.step hb
        have hB := B.out.trans (hb.mono B.out.size)
        clear cl0 ch0 lt0 cl1 ch1 lt1 cl2 ch2 lt2
        clear R B hb
        obtain ⟨⟨cl0, ch0⟩, lt0⟩ := q.get (.head _)
        obtain ⟨⟨cl1, ch1⟩, lt1⟩ := q.get (.tail _ (.head _))
        obtain ⟨⟨cl2, ch2⟩, lt2⟩ := q.get (.tail _ (.tail _ (.head _)))
        have R := Lib.hid q
        have B := Lib.hid hB
        clear q hB
        go_wp2_with fail
        refine (G8.out _).mono ?_
        rintro e w9 ⟨rfl, hb⟩
        have q := R.out.step hb
        have hB := B.out.trans (hb.mono B.out.size)
        clear cl0 ch0 lt0 cl1 ch1 lt1 cl2 ch2 lt2
        have hk := q _ (.tail _ (.tail _ (.head _)))
        obtain ⟨⟨c0, c1⟩, f0, f1⟩ := Rc_facts hk
        have M := Lib.hid (And.intro hk hB)
        clear hk hB q hb R B
        obtain ⟨tx1, ty1, te⟩ := t
        simp only [T3, Rv_def]
        go_wp2_with fail
        exact rat_end rfl rfl rfl (Rc_set M.out.1 tx1 ty1) (below_set2 (c := w.heap.size + 2) M.out.2 (by simp) (.int .i64 tx1) (.int .i64 ty1)) rfl
    · skip
      have hT : t = (0, 0, 1) := by rw [ht]; exact if_neg (fun k => h2 k.2)
      rw [decide_eq_true h1] at g1
      rw [decide_eq_false h2] at g2
      have G1 := Lib.hid g1
      have G2 := Lib.hid g2
      have HT := Lib.hid hT
      have R := Lib.hid (Rats.three w P Q P' Q' 0 0)
      have B := Lib.hid (below_three (Below.refl w.heap.size w) P Q P' Q' 0 0)
      clear g1 g2 hT ht h1 h2 hp hq hp' hq'
      show Calls _ _ #[.agg #[.int .i64 P, .int .i64 Q], .agg #[.int .i64 P', .int .i64 Q']] _ _
      go_enter Tryd.func34, Tryd.ntmps34
      go_wp2_with fail
      refine (G1.out _).mono ?_
      rintro e v1 ⟨rfl, hb⟩
      have q := R.out.step hb
      have hB := B.out.trans (hb.mono B.out.size)
      clear R B hb
      obtain ⟨⟨cl0, ch0⟩, lt0⟩ := q.get (.head _)
      obtain ⟨⟨cl1, ch1⟩, lt1⟩ := q.get (.tail _ (.head _))
      obtain ⟨⟨cl2, ch2⟩, lt2⟩ := q.get (.tail _ (.tail _ (.head _)))
      have R := Lib.hid q
      have B := Lib.hid hB
      clear q hB
      go_wp2_with fail
      refine (G2.out _).mono ?_
      rintro e v2 ⟨rfl, hb⟩
      have q := R.out.step hb
      have hB := B.out.trans (hb.mono B.out.size)
      clear cl0 ch0 lt0 cl1 ch1 lt1 cl2 ch2 lt2
      clear R B hb
      obtain ⟨⟨cl0, ch0⟩, lt0⟩ := q.get (.head _)
      obtain ⟨⟨cl1, ch1⟩, lt1⟩ := q.get (.tail _ (.head _))
      obtain ⟨⟨cl2, ch2⟩, lt2⟩ := q.get (.tail _ (.tail _ (.head _)))
      have R := Lib.hid q
      have B := Lib.hid hB
      clear q hB
      obtain ⟨f0, f1⟩ := (Rc_facts (R.out _ (.tail _ (.tail _ (.head _))))).2
      go_wp2_with fail
      exact rat_end rfl rfl rfl (Rc_set (R.out _ (.tail _ (.tail _ (.head _)))) 0 0) (below_set2 (c := w.heap.size + 2) B.out (by simp) (.int .i64 0) (.int .i64 0)) HT.out
  · skip
    have hT : t = (0, 0, 1) := by rw [ht]; exact if_neg (fun k => h1 k.1)
    rw [decide_eq_false h1] at g1
    have G1 := Lib.hid g1
    have G2 := Lib.hid g2
    have HT := Lib.hid hT
    have R := Lib.hid (Rats.three w P Q P' Q' 0 0)
    have B := Lib.hid (below_three (Below.refl w.heap.size w) P Q P' Q' 0 0)
    clear g1 g2 hT ht h1 hp hq hp' hq'
    show Calls _ _ #[.agg #[.int .i64 P, .int .i64 Q], .agg #[.int .i64 P', .int .i64 Q']] _ _
    go_enter Tryd.func34, Tryd.ntmps34
    go_wp2_with fail
    refine (G1.out _).mono ?_
    rintro e v1 ⟨rfl, hb⟩
    have q := R.out.step hb
    have hB := B.out.trans (hb.mono B.out.size)
    clear R B hb
    obtain ⟨⟨cl0, ch0⟩, lt0⟩ := q.get (.head _)
    obtain ⟨⟨cl1, ch1⟩, lt1⟩ := q.get (.tail _ (.head _))
    obtain ⟨⟨cl2, ch2⟩, lt2⟩ := q.get (.tail _ (.tail _ (.head _)))
    have R := Lib.hid q
    have B := Lib.hid hB
    clear q hB
    obtain ⟨f0, f1⟩ := (Rc_facts (R.out _ (.tail _ (.tail _ (.head _))))).2
    go_wp2_with fail
    exact rat_end rfl rfl rfl (Rc_set (R.out _ (.tail _ (.tail _ (.head _)))) 0 0) (below_set2 (c := w.heap.size + 2) B.out (by simp) (.int .i64 0) (.int .i64 0)) HT.out

set_option maxHeartbeats 8000000 in
theorem refSub_any (P Q P' Q' : Int) (w : World) (hp : In64 P) (hq : In64 Q) (hp' : In64 P') (hq' : In64 Q') :
    Calls Tryd.prog 35 #[Rv P Q, Rv P' Q'] w (Says (T3 (Rt.sub3 P Q P' Q')) w) := by
  have g1 := fun W => refValid_any P Q W hp hq
  have g2 := fun W => refValid_any P' Q' W hp' hq'
  obtain ⟨t, ht⟩ : ∃ t, t = Rt.sub3 P Q P' Q' := ⟨_, rfl⟩
  rw [← ht]
  by_cases h1 : Rt.Ok P Q
  · by_cases h2 : Rt.Ok P' Q'
    · rw [decide_eq_true h1] at g1
      rw [decide_eq_true h2] at g2
      have b2 := h2.bounds
      have wn : wrap64 (-P') = -P' := IntWalk.wrap64_in _ (by omega)
      have g3 := fun W => refAdd_any P Q (-P') Q' W hp hq (by unfold In64; omega) hq'
      rw [← Rt.sub3_neg, ← ht] at g3
      have G1 := Lib.hid g1
      have G2 := Lib.hid g2
      have G3 := Lib.hid g3
      have R := Lib.hid (Rats.three w P Q P' Q' 0 0)
      have B := Lib.hid (below_three (Below.refl w.heap.size w) P Q P' Q' 0 0)
      clear g1 g2 g3 b2 ht h1 h2 hp hq hp' hq'
      show Calls _ _ #[.agg #[.int .i64 P, .int .i64 Q], .agg #[.int .i64 P', .int .i64 Q']] _ _
      go_enter Tryd.func35, Tryd.ntmps35
      go_wp2_with fail
      refine (G1.out _).mono ?_
      rintro e v1 ⟨rfl, hb⟩
      have q := R.out.step hb
      have hB := B.out.trans (hb.mono B.out.size)
      clear R B hb
      obtain ⟨⟨cl0, ch0⟩, lt0⟩ := q.get (.head _)
      obtain ⟨⟨cl1, ch1⟩, lt1⟩ := q.get (.tail _ (.head _))
      obtain ⟨⟨cl2, ch2⟩, lt2⟩ := q.get (.tail _ (.tail _ (.head _)))
      have R := Lib.hid q
      have B := Lib.hid hB
      clear q hB
      go_wp2_with fail
      refine (G2.out _).mono ?_
      rintro e v2 ⟨rfl, hb⟩
      have q := R.out.step hb
      have hB := B.out.trans (hb.mono B.out.size)
      clear cl0 ch0 lt0 cl1 ch1 lt1 cl2 ch2 lt2
      clear R B hb
      obtain ⟨⟨cl0, ch0⟩, lt0⟩ := q.get (.head _)
      obtain ⟨⟨cl1, ch1⟩, lt1⟩ := q.get (.tail _ (.head _))
      obtain ⟨⟨cl2, ch2⟩, lt2⟩ := q.get (.tail _ (.tail _ (.head _)))
      have R := Lib.hid q
      have B := Lib.hid hB
      clear q hB
      go_wp2_with fail
      refine (G3.out _).mono ?_
      rintro e w9 ⟨rfl, hb⟩
      have q := R.out.step hb
      have hB := B.out.trans (hb.mono B.out.size)
      clear cl0 ch0 lt0 cl1 ch1 lt1 cl2 ch2 lt2
      have hk := q _ (.tail _ (.tail _ (.head _)))
      obtain ⟨⟨c0, c1⟩, f0, f1⟩ := Rc_facts hk
      have M := Lib.hid (And.intro hk hB)
      clear hk hB q hb R B
      obtain ⟨tx1, ty1, te⟩ := t
      simp only [T3, Rv_def]
      go_wp2_with fail
      exact rat_end rfl rfl rfl (Rc_set M.out.1 tx1 ty1) (below_set2 (c := w.heap.size + 2) M.out.2 (by simp) (.int .i64 tx1) (.int .i64 ty1)) rfl
    · skip
      have hT : t = (0, 0, 1) := by rw [ht]; exact if_neg (fun k => h2 k.2)
      rw [decide_eq_true h1] at g1
      rw [decide_eq_false h2] at g2
      have G1 := Lib.hid g1
      have G2 := Lib.hid g2
      have HT := Lib.hid hT
      have R := Lib.hid (Rats.three w P Q P' Q' 0 0)
      have B := Lib.hid (below_three (Below.refl w.heap.size w) P Q P' Q' 0 0)
      clear g1 g2 hT ht h1 h2 hp hq hp' hq'
      show Calls _ _ #[.agg #[.int .i64 P, .int .i64 Q], .agg #[.int .i64 P', .int .i64 Q']] _ _
      go_enter Tryd.func35, Tryd.ntmps35
      go_wp2_with fail
      refine (G1.out _).mono ?_
      rintro e v1 ⟨rfl, hb⟩
      have q := R.out.step hb
      have hB := B.out.trans (hb.mono B.out.size)
      clear R B hb
      obtain ⟨⟨cl0, ch0⟩, lt0⟩ := q.get (.head _)
      obtain ⟨⟨cl1, ch1⟩, lt1⟩ := q.get (.tail _ (.head _))
      obtain ⟨⟨cl2, ch2⟩, lt2⟩ := q.get (.tail _ (.tail _ (.head _)))
      have R := Lib.hid q
      have B := Lib.hid hB
      clear q hB
      go_wp2_with fail
      refine (G2.out _).mono ?_
      rintro e v2 ⟨rfl, hb⟩
      have q := R.out.step hb
      have hB := B.out.trans (hb.mono B.out.size)
      clear cl0 ch0 lt0 cl1 ch1 lt1 cl2 ch2 lt2
      clear R B hb
      obtain ⟨⟨cl0, ch0⟩, lt0⟩ := q.get (.head _)
      obtain ⟨⟨cl1, ch1⟩, lt1⟩ := q.get (.tail _ (.head _))
      obtain ⟨⟨cl2, ch2⟩, lt2⟩ := q.get (.tail _ (.tail _ (.head _)))
      have R := Lib.hid q
      have B := Lib.hid hB
      clear q hB
      obtain ⟨f0, f1⟩ := (Rc_facts (R.out _ (.tail _ (.tail _ (.head _))))).2
      go_wp2_with fail
      exact rat_end rfl rfl rfl (Rc_set (R.out _ (.tail _ (.tail _ (.head _)))) 0 0) (below_set2 (c := w.heap.size + 2) B.out (by simp) (.int .i64 0) (.int .i64 0)) HT.out
  · skip
    have hT : t = (0, 0, 1) := by rw [ht]; exact if_neg (fun k => h1 k.1)
    rw [decide_eq_false h1] at g1
    have G1 := Lib.hid g1
    have G2 := Lib.hid g2
    have HT := Lib.hid hT
    have R := Lib.hid (Rats.three w P Q P' Q' 0 0)
    have B := Lib.hid (below_three (Below.refl w.heap.size w) P Q P' Q' 0 0)
    clear g1 g2 hT ht h1 hp hq hp' hq'
    show Calls _ _ #[.agg #[.int .i64 P, .int .i64 Q], .agg #[.int .i64 P', .int .i64 Q']] _ _
    go_enter Tryd.func35, Tryd.ntmps35
    go_wp2_with fail
    refine (G1.out _).mono ?_
    rintro e v1 ⟨rfl, hb⟩
    have q := R.out.step hb
    have hB := B.out.trans (hb.mono B.out.size)
    clear R B hb
    obtain ⟨⟨cl0, ch0⟩, lt0⟩ := q.get (.head _)
    obtain ⟨⟨cl1, ch1⟩, lt1⟩ := q.get (.tail _ (.head _))
    obtain ⟨⟨cl2, ch2⟩, lt2⟩ := q.get (.tail _ (.tail _ (.head _)))
    have R := Lib.hid q
    have B := Lib.hid hB
    clear q hB
    obtain ⟨f0, f1⟩ := (Rc_facts (R.out _ (.tail _ (.tail _ (.head _))))).2
    go_wp2_with fail
    exact rat_end rfl rfl rfl (Rc_set (R.out _ (.tail _ (.tail _ (.head _)))) 0 0) (below_set2 (c := w.heap.size + 2) B.out (by simp) (.int .i64 0) (.int .i64 0)) HT.out
end Go.Proofs.YtbkgigbalnmbkaaDoor
