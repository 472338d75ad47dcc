/- The walk of the statement RatioWritten. -/
import Derived.Test.YtbkgigbalnmbkaaDoorRatioPq
import Derived.Test.YtbkgigbalnmbkaaDoorGuards
import Derived.Test.YtbkgigbalnmbkaaDoorPick
namespace Go.Proofs.YtbkgigbalnmbkaaDoor
open Go.RowKit
set_option linter.unusedVariables false
set_option maxRecDepth 100000

theorem runs_len {R : Value → World → Prop} {o : Oper} {b : Act} {w : World} {t : Nat} {s : ByteArray} (ho : o.op = .call { callee := .builtin .len, args := #[.tmp t], argTypes := #[9] }) (hv : b.tmps.getD t undef = .string s) (h : R (.int .i64 s.size) w) : Runs Tryd.prog R ((execOp b.eval o).run Tryd.prog w) := by
  have e : b.eval (.tmp t) = .string s := hv
  unfold execOp
  simp only [ho, resolve, invoke, builtin, Sem.run_bind, Sem.run_pure, Result.andThen_ok, List.map_toArray, List.map_cons, List.map_nil, e]
  exact h
theorem eq_texts (x y : List UInt8) : ((bs x).toList == (bs y).toList) = decide (x = y) := by
  rw [bs_beq, sb_bs]

set_option maxHeartbeats 8000000 in
theorem written_walk (A : Option Addr) (cap : Nat) (l : List Int) (w : World) (hl : l.length ≤ 9223372036854775807) (hc : l.length ≤ cap) (hr : Rd w w.heap.size A (l.map iv)) (hn : ∀ n ∈ l, In64 n) (hD : Door w) :
    Calls Tryd.prog 8 #[.slice A l.length cap] w (Tells true w) := by
  have H3 := Lib.hid (three_any A cap l w hl hc hr hn)
  have HD := Lib.hid hD
  have HL := Lib.hid (fun W (h : Door W) => lives_any W h)
  clear hl hc hr hn hD
  go_enter Tryd.func8, Tryd.ntmps8
  go_wp2_with fail
  refine (H3.out).mono ?_
  rintro e w1 ⟨a, a', b, b', c, c', rfl, hA, hB, hC, hb⟩
  have R := Lib.hid (Rats.three w1 a a' b b' c c')
  have B := Lib.hid (below_three hb a a' b b' c c')
  have HO := Lib.hid (And.intro hA (And.intro hB hC))
  clear hb
  simp only [Rv_def]
  clear H3
  obtain ⟨r1, r2, r3, r4⟩ := Rt.read_back hA
  obtain ⟨qa, hq⟩ : ∃ q, q = Rt.den a' := ⟨_, rfl⟩
  rw [← hq] at r1 r2 r3 r4
  have hlen : (Rt.txt a a').length ≤ 1000 := by
    have b1 := hA.bounds
    have d1 := hA.den_le
    have p1 := Rt.den_pos a'
    have k1 := Lib.itoa_length_le a (by omega) (by omega)
    have k2 := Lib.itoa_length_le (Rt.den a') (by omega) (by omega)
    unfold Rt.txt
    rw [List.length_append]
    split <;> simp <;> omega
  have g1 := fun W (h : Door W) => text_any a a' W (Ok_in hA).1 (Ok_in hA).2 h
  have g2 := fun W (h : Door W) => text_any a qa W (Ok_in r4).1 (Ok_in r4).2 h
  have g3 := fun W (h : Door W) => text_any b b' W (Ok_in hB).1 (Ok_in hB).2 h
  have g4 := fun W (h : Door W) => parse_any (bs (Rt.text a a')) W (by rw [size_bs, Rt.text_ok hA]; omega) h
  rw [sb_bs, r1] at g4
  rw [r3] at g2
  have g5 := fun W => cmp_ok r4 hA W
  rw [r2] at g5
  have g6 := fun W => valid_any a qa W (Ok_in r4).1 (Ok_in r4).2
  rw [decide_eq_true r4] at g6
  obtain ⟨n, hn⟩ : ∃ n, n = Rt.cmp3 a a' b b' := ⟨_, rfl⟩
  have g7 := fun W => cmp_ok hA hB W
  rw [← hn] at g7
  obtain ⟨ta, hta⟩ : ∃ t, t = Rt.text a a' := ⟨_, rfl⟩
  obtain ⟨tb, htb⟩ : ∃ t, t = Rt.text b b' := ⟨_, rfl⟩
  have hsame : ((bs ta).toList == (bs tb).toList) = (n == 0) := by
    rw [eq_texts, hta, htb, hn]
    by_cases h : Rt.cmp3 a a' b b' = 0
    · rw [decide_eq_true ((Rt.text_same hA hB).2 h), h]; rfl
    · rw [decide_eq_false (fun k => h ((Rt.text_same hA hB).1 k)), beq_eq_false_iff_ne.2 h]
  have hbl : 0 < (bs tb).size := by
    rw [size_bs, htb]; exact List.length_pos_iff.2 (Rt.text_ne hB)
  have hself : ((bs ta).toList == (bs ta).toList) = true := by simp
  rw [← hta] at g1 g2 g4
  rw [← htb] at g3
  have G1 := Lib.hid g1
  have G2 := Lib.hid g2
  have G3 := Lib.hid g3
  have G4 := Lib.hid g4
  have G5 := Lib.hid g5
  have G6 := Lib.hid g6
  have G7 := Lib.hid g7
  have HS := Lib.hid hsame
  have HF := Lib.hid hself
  have HB := Lib.hid hbl
  clear g1 g2 g3 g4 g5 g6 g7 r1 r2 r3 r4 hq hn hta htb hsame hself hbl hA hB hC HO hlen
  go_wp2_with fail
  refine (G1.out _ (HD.out.below B.out (Nat.le_refl _))).mono ?_
  rintro e v1 ⟨rfl, hb⟩
  have q := R.out.step hb
  have hB := B.out.trans (hb.mono B.out.size)
  clear R B hb
  obtain ⟨⟨cl0, ch0⟩, lt0⟩ := q.get (.head _)
  obtain ⟨⟨cl1, ch1⟩, lt1⟩ := q.get (.tail _ (.head _))
  obtain ⟨⟨cl2, ch2⟩, lt2⟩ := q.get (.tail _ (.tail _ (.head _)))
  have R := Lib.hid q
  have B := Lib.hid hB
  clear q hB
  go_wp2_with fail
  refine (G4.out _ (HD.out.below B.out (Nat.le_refl _))).mono ?_
  rintro e v2 ⟨rfl, hb⟩
  have q := R.out.step hb
  have hB := B.out.trans (hb.mono B.out.size)
  clear cl0 ch0 lt0 cl1 ch1 lt1 cl2 ch2 lt2
  clear R B hb
  obtain ⟨⟨cl0, ch0⟩, lt0⟩ := q.get (.head _)
  obtain ⟨⟨cl1, ch1⟩, lt1⟩ := q.get (.tail _ (.head _))
  obtain ⟨⟨cl2, ch2⟩, lt2⟩ := q.get (.tail _ (.tail _ (.head _)))
  have R := Lib.hid (q.new a qa)
  have B := Lib.hid (hB.alloc hB.size (.cells (Rc a qa).toArray 23))
  clear q hB
  simp only [T3, Rv_def]
  go_wp2_with fail
  obtain ⟨V, hV⟩ : ∃ V, V = v2.alloc (.cells (Rc a qa).toArray 23) := ⟨_, rfl⟩
  rw [show v2.alloc (.cells #[.int .i64 a, .int .i64 qa] 23) = V from hV.symm]
  rw [← hV] at R B
  clear hV
  clear cl0 ch0 lt0 cl1 ch1 lt1 cl2 ch2 lt2
  generalize v2.heap.size = k2 at *
  go_cut [39] (fun s wx => s = .bool false ∧ Rats wx [(k2, a, qa), (w1.heap.size, a, a'), (w1.heap.size + 1, b, b'), (w1.heap.size + 2, c, c')] ∧ Below w.heap.size w wx)
  case first =>
    refine wp_region_guarded [20, 21, 22, 23, 24, 25, 26, 27, 28, 29, 30, 31, 32, 33, 34, 35, 36, 37, 38] [.is (.int .i64 0), .is (.bool false), .is (.bool false), .is (Rv a qa), .is (Rv a a'), .is (.int .i64 0), .is (.bool false), .is (.bool false), .is (.bool false), .is (Rv a qa), .is (.string (bs ta)), .is (Rv a a'), .is (.string (bs ta)), .is (.bool false), .is (.bool false), .is (.bool false), .is (Rv a qa), .is (.bool true), .is (.bool false)] (by kernel_rfl) (by kernel_rfl) ?_ ?_
    · intro i hi fb w' hb hd hx o ho
      match i, hi with
      | 0, _ =>
        obtain rfl := Option.some.inj ho
        exact ⟨hx 7 rfl, Below.refl _ _⟩
      | 1, _ =>
        obtain rfl := Option.some.inj ho
        have e0 : fb.tmps.getD 20 undef = .int .i64 0 := hd 0 (by kernel_rfl) (by decide)
        refine runs_value rfl ?_ ⟨rfl, Below.refl _ _⟩
        rw [show fb.eval (.tmp 20) = _ from e0]
        go_simp
      | 2, _ =>
        obtain rfl := Option.some.inj ho
        exact ⟨hd 1 (by kernel_rfl) (by decide), Below.refl _ _⟩
      | 3, _ =>
        obtain rfl := Option.some.inj ho
        refine ⟨false, hd 2 (by kernel_rfl) (by decide), fun _ => ?_, fun h => absurd rfl h⟩
        have e : fb.tmps.getD 6 undef = .pointer (some ⟨k2, 0, none⟩) := hx 6 rfl
        have hr := load_rat w' _ _ _ (R.out.step hb _ (.head _))
        rw [← e] at hr
        exact runs_value rfl hr ⟨rfl, Below.refl _ _⟩
      | 4, _ =>
        obtain rfl := Option.some.inj ho
        refine ⟨false, hd 2 (by kernel_rfl) (by decide), fun _ => ?_, fun h => absurd rfl h⟩
        have e : fb.tmps.getD 3 undef = .pointer (some ⟨w1.heap.size, 0, none⟩) := hx 3 rfl
        have hr := load_rat w' _ _ _ (R.out.step hb _ (.tail _ (.head _)))
        rw [← e] at hr
        exact runs_value rfl hr ⟨rfl, Below.refl _ _⟩
      | 5, _ =>
        obtain rfl := Option.some.inj ho
        refine ⟨false, hd 2 (by kernel_rfl) (by decide), fun _ => ?_, fun h => absurd rfl h⟩
        have e0 : fb.tmps.getD 23 undef = Rv a qa := hd 3 (by kernel_rfl) (by decide)
        have e1 : fb.tmps.getD 24 undef = Rv a a' := hd 4 (by kernel_rfl) (by decide)
        refine runs_call rfl (fun _ _ => rfl) ?_
        show Calls _ _ #[fb.tmps.getD 23 undef, fb.tmps.getD 24 undef] w' _
        rw [e0, e1]
        exact (G5.out w').mono fun e w'' h => ⟨_, h.1, rfl, h.2⟩
      | 6, _ =>
        obtain rfl := Option.some.inj ho
        refine ⟨false, hd 2 (by kernel_rfl) (by decide), fun _ => ?_, fun h => absurd rfl h⟩
        have e0 : fb.tmps.getD 25 undef = .int .i64 0 := hd 5 (by kernel_rfl) (by decide)
        refine runs_value rfl ?_ ⟨rfl, Below.refl _ _⟩
        rw [show fb.eval (.tmp 25) = _ from e0]
        go_simp
      | 7, _ =>
        obtain rfl := Option.some.inj ho
        have e1 : fb.tmps.getD 22 undef = .bool false := hd 2 (by kernel_rfl) (by decide)
        have e2 : fb.tmps.getD 26 undef = .bool false := hd 6 (by kernel_rfl) (by decide)
        exact runs_pick rfl false e1 ⟨e2, Below.refl _ _⟩
      | 8, _ =>
        obtain rfl := Option.some.inj ho
        exact ⟨hd 7 (by kernel_rfl) (by decide), Below.refl _ _⟩
      | 9, _ =>
        obtain rfl := Option.some.inj ho
        refine ⟨false, hd 8 (by kernel_rfl) (by decide), fun _ => ?_, fun h => absurd rfl h⟩
        have e : fb.tmps.getD 6 undef = .pointer (some ⟨k2, 0, none⟩) := hx 6 rfl
        have hr := load_rat w' _ _ _ (R.out.step hb _ (.head _))
        rw [← e] at hr
        exact runs_value rfl hr ⟨rfl, Below.refl _ _⟩
      | 10, _ =>
        obtain rfl := Option.some.inj ho
        refine ⟨false, hd 8 (by kernel_rfl) (by decide), fun _ => ?_, fun h => absurd rfl h⟩
        have e0 : fb.tmps.getD 29 undef = Rv a qa := hd 9 (by kernel_rfl) (by decide)
        refine runs_call rfl (fun _ _ => rfl) ?_
        show Calls _ _ #[fb.tmps.getD 29 undef] w' _
        rw [e0]
        exact (G2.out w' (HD.out.below (B.out.trans (hb.mono B.out.size)) (Nat.le_refl _))).mono fun e w'' h => ⟨_, h.1, rfl, h.2⟩
      | 11, _ =>
        obtain rfl := Option.some.inj ho
        refine ⟨false, hd 8 (by kernel_rfl) (by decide), fun _ => ?_, fun h => absurd rfl h⟩
        have e : fb.tmps.getD 3 undef = .pointer (some ⟨w1.heap.size, 0, none⟩) := hx 3 rfl
        have hr := load_rat w' _ _ _ (R.out.step hb _ (.tail _ (.head _)))
        rw [← e] at hr
        exact runs_value rfl hr ⟨rfl, Below.refl _ _⟩
      | 12, _ =>
        obtain rfl := Option.some.inj ho
        refine ⟨false, hd 8 (by kernel_rfl) (by decide), fun _ => ?_, fun h => absurd rfl h⟩
        have e0 : fb.tmps.getD 31 undef = Rv a a' := hd 11 (by kernel_rfl) (by decide)
        refine runs_call rfl (fun _ _ => rfl) ?_
        show Calls _ _ #[fb.tmps.getD 31 undef] w' _
        rw [e0]
        exact (G1.out w' (HD.out.below (B.out.trans (hb.mono B.out.size)) (Nat.le_refl _))).mono fun e w'' h => ⟨_, h.1, rfl, h.2⟩
      | 13, _ =>
        obtain rfl := Option.some.inj ho
        refine ⟨false, hd 8 (by kernel_rfl) (by decide), fun _ => ?_, fun h => absurd rfl h⟩
        have e0 : fb.tmps.getD 30 undef = .string (bs ta) := hd 10 (by kernel_rfl) (by decide)
        have e1 : fb.tmps.getD 32 undef = .string (bs ta) := hd 12 (by kernel_rfl) (by decide)
        refine runs_value rfl ?_ ⟨rfl, Below.refl _ _⟩
        rw [show fb.eval (.tmp 30) = _ from e0, show fb.eval (.tmp 32) = _ from e1]
        have hself := HF.out
        go_simp
      | 14, _ =>
        obtain rfl := Option.some.inj ho
        have e1 : fb.tmps.getD 28 undef = .bool false := hd 8 (by kernel_rfl) (by decide)
        have e2 : fb.tmps.getD 33 undef = .bool false := hd 13 (by kernel_rfl) (by decide)
        exact runs_pick rfl false e1 ⟨e2, Below.refl _ _⟩
      | 15, _ =>
        obtain rfl := Option.some.inj ho
        exact ⟨hd 14 (by kernel_rfl) (by decide), Below.refl _ _⟩
      | 16, _ =>
        obtain rfl := Option.some.inj ho
        refine ⟨false, hd 15 (by kernel_rfl) (by decide), fun _ => ?_, fun h => absurd rfl h⟩
        have e : fb.tmps.getD 6 undef = .pointer (some ⟨k2, 0, none⟩) := hx 6 rfl
        have hr := load_rat w' _ _ _ (R.out.step hb _ (.head _))
        rw [← e] at hr
        exact runs_value rfl hr ⟨rfl, Below.refl _ _⟩
      | 17, _ =>
        obtain rfl := Option.some.inj ho
        refine ⟨false, hd 15 (by kernel_rfl) (by decide), fun _ => ?_, fun h => absurd rfl h⟩
        have e0 : fb.tmps.getD 36 undef = Rv a qa := hd 16 (by kernel_rfl) (by decide)
        refine runs_call rfl (fun _ _ => rfl) ?_
        show Calls _ _ #[fb.tmps.getD 36 undef] w' _
        rw [e0]
        exact (G6.out w').mono fun e w'' h => ⟨_, h.1, rfl, h.2⟩
      | 18, _ =>
        obtain rfl := Option.some.inj ho
        refine ⟨false, hd 15 (by kernel_rfl) (by decide), fun _ => ?_, fun h => absurd rfl h⟩
        have e0 : fb.tmps.getD 37 undef = .bool true := hd 17 (by kernel_rfl) (by decide)
        refine runs_value rfl ?_ ⟨rfl, Below.refl _ _⟩
        rw [show fb.eval (.tmp 37) = _ from e0]
        go_simp
      | n + 19, h => exact absurd h (by simp)
    · intro vals w' hb hf
      have e35 : vals 15 = .bool false := hf 15 (by decide)
      have e38 : vals 18 = .bool false := hf 18 (by decide)
      simp only [puts, List.length_cons, List.length_nil, Nat.zero_add, Nat.reduceAdd, List.drop_succ_cons, List.drop_zero, e35, e38]
      have R2 := Lib.hid (R.out.step hb)
      have B2 := Lib.hid (B.out.trans (hb.mono B.out.size))
      clear e35 e38 hf hb R B
      go_frame
      go_wp2_with fail
      go_meet
      case rel => exact ⟨rfl, R2.out, B2.out⟩
  case rest =>
    obtain ⟨rfl, q1, hB⟩ := hcut
    clear R B
    have R := Lib.hid q1
    have B := Lib.hid hB
    clear q1 hB
    go_wp2_with fail
    refine wp_region_guarded [40, 41, 42, 43, 44, 45, 46, 47, 48, 49, 50, 51, 52, 53, 54, 55, 56, 57, 58] [.is (Rv a a'), .is (.string (bs ta)), .is (Rv b b'), .is (.string (bs tb)), .is (.bool (n == 0)), .is (Rv a a'), .is (Rv b b'), .is (.int .i64 n), .is (.bool (n == 0)), .is (.bool true), .is (.bool true), .is (Rv b b'), .is (.string (bs tb)), .is (.int .i64 (bs tb).size), .is (.bool true), .is (.bool true), .is (.bool true), .is (.bool true), .is (.bool true)] (by kernel_rfl) (by kernel_rfl) ?_ ?_
    · intro i hi fb w' hb hd hx o ho
      match i, hi with
      | 0, _ =>
        obtain rfl := Option.some.inj ho
        have e : fb.tmps.getD 3 undef = .pointer (some ⟨w1.heap.size, 0, none⟩) := hx 3 rfl
        have hr := load_rat w' _ _ _ (R.out.step hb _ (.tail _ (.head _)))
        rw [← e] at hr
        exact runs_value rfl hr ⟨rfl, Below.refl _ _⟩
      | 1, _ =>
        obtain rfl := Option.some.inj ho
        dsimp only [Guarded]
        have e0 : fb.tmps.getD 40 undef = Rv a a' := hd 0 (by kernel_rfl) (by decide)
        refine runs_call rfl (fun _ _ => rfl) ?_
        show Calls _ _ #[fb.tmps.getD 40 undef] w' _
        rw [e0]
        exact (G1.out w' (HD.out.below (B.out.trans (hb.mono B.out.size)) (Nat.le_refl _))).mono fun e w'' h => ⟨_, h.1, rfl, h.2⟩
      | 2, _ =>
        obtain rfl := Option.some.inj ho
        have e : fb.tmps.getD 4 undef = .pointer (some ⟨w1.heap.size + 1, 0, none⟩) := hx 4 rfl
        have hr := load_rat w' _ _ _ (R.out.step hb _ (.tail _ (.tail _ (.head _))))
        rw [← e] at hr
        exact runs_value rfl hr ⟨rfl, Below.refl _ _⟩
      | 3, _ =>
        obtain rfl := Option.some.inj ho
        dsimp only [Guarded]
        have e0 : fb.tmps.getD 42 undef = Rv b b' := hd 2 (by kernel_rfl) (by decide)
        refine runs_call rfl (fun _ _ => rfl) ?_
        show Calls _ _ #[fb.tmps.getD 42 undef] w' _
        rw [e0]
        exact (G3.out w' (HD.out.below (B.out.trans (hb.mono B.out.size)) (Nat.le_refl _))).mono fun e w'' h => ⟨_, h.1, rfl, h.2⟩
      | 4, _ =>
        obtain rfl := Option.some.inj ho
        have e0 : fb.tmps.getD 41 undef = .string (bs ta) := hd 1 (by kernel_rfl) (by decide)
        have e1 : fb.tmps.getD 43 undef = .string (bs tb) := hd 3 (by kernel_rfl) (by decide)
        refine runs_value rfl ?_ ⟨rfl, Below.refl _ _⟩
        rw [show fb.eval (.tmp 41) = _ from e0, show fb.eval (.tmp 43) = _ from e1]
        have hsame := HS.out
        go_simp
      | 5, _ =>
        obtain rfl := Option.some.inj ho
        have e : fb.tmps.getD 3 undef = .pointer (some ⟨w1.heap.size, 0, none⟩) := hx 3 rfl
        have hr := load_rat w' _ _ _ (R.out.step hb _ (.tail _ (.head _)))
        rw [← e] at hr
        exact runs_value rfl hr ⟨rfl, Below.refl _ _⟩
      | 6, _ =>
        obtain rfl := Option.some.inj ho
        have e : fb.tmps.getD 4 undef = .pointer (some ⟨w1.heap.size + 1, 0, none⟩) := hx 4 rfl
        have hr := load_rat w' _ _ _ (R.out.step hb _ (.tail _ (.tail _ (.head _))))
        rw [← e] at hr
        exact runs_value rfl hr ⟨rfl, Below.refl _ _⟩
      | 7, _ =>
        obtain rfl := Option.some.inj ho
        dsimp only [Guarded]
        have e0 : fb.tmps.getD 45 undef = Rv a a' := hd 5 (by kernel_rfl) (by decide)
        have e1 : fb.tmps.getD 46 undef = Rv b b' := hd 6 (by kernel_rfl) (by decide)
        refine runs_call rfl (fun _ _ => rfl) ?_
        show Calls _ _ #[fb.tmps.getD 45 undef, fb.tmps.getD 46 undef] w' _
        rw [e0, e1]
        exact (G7.out w').mono fun e w'' h => ⟨_, h.1, rfl, h.2⟩
      | 8, _ =>
        obtain rfl := Option.some.inj ho
        have e0 : fb.tmps.getD 47 undef = .int .i64 n := hd 7 (by kernel_rfl) (by decide)
        refine runs_value rfl ?_ ⟨rfl, Below.refl _ _⟩
        rw [show fb.eval (.tmp 47) = _ from e0]
        go_simp
      | 9, _ =>
        obtain rfl := Option.some.inj ho
        have e0 : fb.tmps.getD 44 undef = .bool (n == 0) := hd 4 (by kernel_rfl) (by decide)
        have e1 : fb.tmps.getD 48 undef = .bool (n == 0) := hd 8 (by kernel_rfl) (by decide)
        refine runs_value rfl ?_ ⟨rfl, Below.refl _ _⟩
        rw [show fb.eval (.tmp 44) = _ from e0, show fb.eval (.tmp 48) = _ from e1]
        go_simp
      | 10, _ =>
        obtain rfl := Option.some.inj ho
        exact ⟨hd 9 (by kernel_rfl) (by decide), Below.refl _ _⟩
      | 11, _ =>
        obtain rfl := Option.some.inj ho
        refine ⟨true, hd 10 (by kernel_rfl) (by decide), fun _ => ?_, fun h => absurd rfl h⟩
        have e : fb.tmps.getD 4 undef = .pointer (some ⟨w1.heap.size + 1, 0, none⟩) := hx 4 rfl
        have hr := load_rat w' _ _ _ (R.out.step hb _ (.tail _ (.tail _ (.head _))))
        rw [← e] at hr
        exact runs_value rfl hr ⟨rfl, Below.refl _ _⟩
      | 12, _ =>
        obtain rfl := Option.some.inj ho
        refine ⟨true, hd 10 (by kernel_rfl) (by decide), fun _ => ?_, fun h => absurd rfl h⟩
        have e0 : fb.tmps.getD 51 undef = Rv b b' := hd 11 (by kernel_rfl) (by decide)
        refine runs_call rfl (fun _ _ => rfl) ?_
        show Calls _ _ #[fb.tmps.getD 51 undef] w' _
        rw [e0]
        exact (G3.out w' (HD.out.below (B.out.trans (hb.mono B.out.size)) (Nat.le_refl _))).mono fun e w'' h => ⟨_, h.1, rfl, h.2⟩
      | 13, _ =>
        obtain rfl := Option.some.inj ho
        refine ⟨true, hd 10 (by kernel_rfl) (by decide), fun _ => ?_, fun h => absurd rfl h⟩
        have e0 : fb.tmps.getD 52 undef = .string (bs tb) := hd 12 (by kernel_rfl) (by decide)
        exact runs_len rfl e0 ⟨rfl, Below.refl _ _⟩
      | 14, _ =>
        obtain rfl := Option.some.inj ho
        refine ⟨true, hd 10 (by kernel_rfl) (by decide), fun _ => ?_, fun h => absurd rfl h⟩
        have e0 : fb.tmps.getD 53 undef = .int .i64 (bs tb).size := hd 13 (by kernel_rfl) (by decide)
        refine runs_value rfl ?_ ⟨rfl, Below.refl _ _⟩
        rw [show fb.eval (.tmp 53) = _ from e0]
        have hbl := HB.out
        go_simp
      | 15, _ =>
        obtain rfl := Option.some.inj ho
        have e1 : fb.tmps.getD 50 undef = .bool true := hd 10 (by kernel_rfl) (by decide)
        have e2 : fb.tmps.getD 54 undef = .bool true := hd 14 (by kernel_rfl) (by decide)
        exact runs_pick rfl true e1 ⟨e2, Below.refl _ _⟩
      | 16, _ =>
        obtain rfl := Option.some.inj ho
        exact ⟨hd 15 (by kernel_rfl) (by decide), Below.refl _ _⟩
      | 17, _ =>
        obtain rfl := Option.some.inj ho
        refine ⟨true, hd 16 (by kernel_rfl) (by decide), fun _ => ?_, fun h => absurd rfl h⟩
        refine runs_call rfl (fun _ _ => rfl) ?_
        show Calls _ _ #[] w' _
        exact (HL.out w' (HD.out.below (B.out.trans (hb.mono B.out.size)) (Nat.le_refl _))).mono fun e w'' h => ⟨_, h.1, rfl, h.2⟩
      | 18, _ =>
        obtain rfl := Option.some.inj ho
        have e1 : fb.tmps.getD 56 undef = .bool true := hd 16 (by kernel_rfl) (by decide)
        have e2 : fb.tmps.getD 57 undef = .bool true := hd 17 (by kernel_rfl) (by decide)
        exact runs_pick rfl true e1 ⟨e2, Below.refl _ _⟩
      | n + 19, h => exact absurd h (by simp)
    · intro vals w' hb hf
      have e18 : vals 18 = .bool true := hf 18 (by decide)
      simp only [puts, List.length_cons, List.length_nil, Nat.zero_add, Nat.reduceAdd, List.drop_succ_cons, List.drop_zero, e18]
      have B2 := Lib.hid (B.out.trans (hb.mono B.out.size))
      clear e18 hf hb R B
      go_frame
      go_wp2_with fail
      go_ret
      exact ⟨rfl, B2.out⟩
end Go.Proofs.YtbkgigbalnmbkaaDoor
