import Derived.Test.YtkelfcgomeojeaaDoorJGuards
import Derived.Test.YtkelfcgomeojeaaDoorJSignMathC
import Derived.Test.YtkelfcgomeojeaaDoorJSignPw

section
/- SignDigitsCross. -/



namespace Go.Proofs.YtkelfcgomeojeaaDoor
open Go.RowKit
set_option linter.unusedVariables false
set_option maxRecDepth 100000

theorem run_lss_int (w : World) (p q : Nat) (X Y : Operand) : (do eqGuard .lss 3 X Y (.int .i64 p) (.int .i64 q); binOp .lss 3 (.int .i64 p) (.int .i64 q) : Sem Value).run Tryd.prog w = .ok (.bool (decide (p < q))) w := by
  have h : decide ((p : Int) < q) = decide (p < q) := by simp
  go_simp
theorem run_gtr_int (w : World) (p q : Nat) (X Y : Operand) : (do eqGuard .gtr 3 X Y (.int .i64 p) (.int .i64 q); binOp .gtr 3 (.int .i64 p) (.int .i64 q) : Sem Value).run Tryd.prog w = .ok (.bool (decide (q < p))) w := by
  have h : decide ((q : Int) < p) = decide (q < p) := by simp
  go_simp
set_option maxHeartbeats 8000000 in
theorem cross_walk (a c : List UInt8) (w : World) (ha : a.length = 16) (hc : c.length = 16) (hT : HTab w) : Calls Tryd.prog 7 #[.agg (a.map bv).toArray, .agg (c.map bv).toArray] w (Tells true w) := by
  obtain ⟨X, hX⟩ : ∃ X, X = a.map bv := ⟨_, rfl⟩
  obtain ⟨Y, hY⟩ : ∃ Y, Y = c.map bv := ⟨_, rfl⟩
  have lX : X.length = 16 := by rw [hX, List.length_map, ha]
  have lY : Y.length = 16 := by rw [hY, List.length_map, hc]
  have yX := size_dig lX
  have yY := size_dig lY
  obtain ⟨x, hx⟩ : ∃ x, x = Sg.digits a := ⟨_, rfl⟩
  obtain ⟨y, hy⟩ : ∃ y, y = Sg.digits c := ⟨_, rfl⟩
  have lx : x.length = 68 := by rw [hx, digits_len a ha]
  have ly : y.length = 68 := by rw [hy, digits_len c hc]
  have cA := fun W => digits_any a W ha
  have cB := fun W => digits_any c W hc
  rw [← hX, ← hx] at cA
  rw [← hY, ← hy] at cB
  rw [← hX, ← hY]
  obtain ⟨W0, hW0⟩ : ∃ W0, W0 = (w.alloc (.cells X.toArray 23)).alloc (.cells Y.toArray 23) := ⟨_, rfl⟩
  have hS : Blk W0 w.heap.size X 23 ∧ Blk W0 (w.heap.size + 1) Y 23 ∧ Below w.heap.size w W0 := by
    rw [hW0]
    refine ⟨(Blk.new w _ _).alloc _, ?_, ((Below.refl _ _).alloc (Nat.le_refl _) _).alloc (by simp) _⟩
    have h := Blk.new (w.alloc (.cells X.toArray 23)) Y 23
    simpa using h
  have hcr : a ≠ c → lessK x y 68 = true ∧ lessK y x 68 = true := fun h => by rw [hx, hy]; exact ⟨cross a c ha hc h, cross c a hc ha (fun e => h e.symm)⟩
  have CA := Lib.hid cA
  have CB := Lib.hid cB
  have S := Lib.hid hS
  have HW0 := Lib.hid hW0
  have HXY := Lib.hid (And.intro hX hY)
  have LL := Lib.hid (And.intro lx ly)
  have YX := Lib.hid yX
  have YY := Lib.hid yY
  have HCR := Lib.hid hcr
  have cS := sanity_any W0 (hT.below hS.2.2 (Nat.le_refl _))
  have CS := Lib.hid cS
  clear cA cB hS hW0 hX hY lX lY yX yY hx hy lx ly hcr cS
  go_enter Tryd.func7, Tryd.ntmps7
  go_wp2_with fail
  rw [← HW0.out]
  refine CS.out.mono ?_
  rintro e w1 ⟨rfl, hb1⟩
  have S1 := Lib.hid (And.intro (S.out.1.below hb1 S.out.1.lt) (And.intro (S.out.2.1.below hb1 S.out.2.1.lt) (S.out.2.2.trans (hb1.mono S.out.2.2.size))))
  clear hb1 S CS
  go_wp2_with (refine wpList_load_row rfl 23 (.tmp 2) rfl w.heap.size rfl _ X.toArray (0, 0) _ S1.out.1 Tryd.underlying23 rfl YX.out ?_)
  refine (CA.out w1).mono ?_
  rintro e w2 ⟨rfl, hk2, hb2⟩
  have S2 := Lib.hid (And.intro (S1.out.1.below hb2 S1.out.1.lt) (And.intro (S1.out.2.1.below hb2 S1.out.2.1.lt) (S1.out.2.2.trans (hb2.mono S1.out.2.2.size))))
  have K2 := Lib.hid hk2
  obtain ⟨Va, hVa⟩ : ∃ Va, Va = w1.heap.size + 1 := ⟨_, rfl⟩
  rw [← hVa] at K2 ⊢
  clear hk2 hb2 S1 CA hVa
  go_wp2_with (refine wpList_load_row rfl 23 (.tmp 3) rfl (w.heap.size + 1) rfl _ Y.toArray (0, 0) _ S2.out.2.1 Tryd.underlying23 rfl YY.out ?_)
  refine (CB.out w2).mono ?_
  rintro e w3 ⟨rfl, hk3, hb3⟩
  have S3 := Lib.hid (And.intro (K2.out.below hb3 K2.out.lt) (And.intro hk3 (And.intro (S2.out.1.below hb3 S2.out.1.lt) (And.intro (S2.out.2.1.below hb3 S2.out.2.1.lt) (S2.out.2.2.trans (hb3.mono S2.out.2.2.size))))))
  obtain ⟨Vb, hVb⟩ : ∃ Vb, Vb = w2.heap.size + 1 := ⟨_, rfl⟩
  rw [← hVb] at S3 ⊢
  clear hk3 hb3 S2 CB hVb K2
  go_wp2_with fail
  go_loopw [8, 9, 10] (fun le mo i wr => ∃ k : Nat, k ≤ 68 ∧ i = .int .i64 k ∧ le = .bool (lessK x y k) ∧ mo = .bool (lessK y x k) ∧ (Blk wr Va (x.map dv) 43 ∧ Blk wr Vb (y.map dv) 43 ∧ Blk wr w.heap.size X 23 ∧ Blk wr (w.heap.size + 1) Y 23 ∧ Below w.heap.size w wr)) (fun _ _ i _ => 68 - (intOf i).toNat)
  case atStart => exact ⟨0, by omega, rfl, rfl, rfl, S3.out⟩
  case round =>
    clear S3
    obtain ⟨k, hk, rfl, rfl, rfl, hK⟩ := hrel
    by_cases hlt : k < 68
    · have ik : (k : Int) < 68 := by omega
      obtain ⟨p, hp⟩ : ∃ p, p = x.getD k 0 := ⟨_, rfl⟩
      obtain ⟨q, hq⟩ : ∃ q, q = y.getD k 0 := ⟨_, rfl⟩
      have hpv : (x.map dv)[k]? = some (.int .i64 (p : Int)) := by rw [List.getElem?_map, getD_at x k 0 (by have := LL.out.1; omega), ← hp]; rfl
      have hqv : (y.map dv)[k]? = some (.int .i64 (q : Int)) := by rw [List.getElem?_map, getD_at y k 0 (by have := LL.out.2; omega), ← hq]; rfl
      have hs1 : lessK x y (k + 1) = (lessK x y k || decide (p < q)) := by rw [lessK_succ, ← hp, ← hq]
      have hs2 : lessK y x (k + 1) = (lessK y x k || decide (q < p)) := by rw [lessK_succ, ← hp, ← hq]
      obtain ⟨L1, hL1⟩ : ∃ L1, L1 = lessK x y k := ⟨_, rfl⟩
      obtain ⟨L2, hL2⟩ : ∃ L2, L2 = lessK y x k := ⟨_, rfl⟩
      rw [← hL1] at hs1 ⊢
      rw [← hL2] at hs2 ⊢
      have K := Lib.hid hK
      have HPQ := Lib.hid (And.intro hpv hqv)
      have HS := Lib.hid (And.intro hs1 hs2)
      clear hK hpv hqv hs1 hs2 hp hq hL1 hL2
      go_wp2_with fail
      try go_frame
      cases L1 with
      | true =>
        refine wp_region_guarded [28, 29, 30, 31, 32, 33, 34, 35, 36, 37, 38, 39] [.is (.bool true), .is (.bool true), .any, .any, .any, .any, .any, .any, .any, .any, .any, .is (.bool true)] (by kernel_rfl) (by kernel_rfl) ?_ ?_
        · intro i hi b w' hb hd hx o ho
          match i, hi with
          | 0, _ =>
            obtain rfl := Option.some.inj ho
            exact ⟨hx 8 rfl, Below.refl _ _⟩
          | 1, _ =>
            obtain rfl := Option.some.inj ho
            exact ⟨hd 0 (by kernel_rfl) (by decide), Below.refl _ _⟩
          | 2, _ =>
            obtain rfl := Option.some.inj ho
            exact ⟨true, hd 1 (by kernel_rfl) (by decide), fun h => absurd h (by decide), fun _ => trivial⟩
          | 3, _ =>
            obtain rfl := Option.some.inj ho
            exact ⟨true, hd 1 (by kernel_rfl) (by decide), fun h => absurd h (by decide), fun _ => trivial⟩
          | 4, _ =>
            obtain rfl := Option.some.inj ho
            exact ⟨true, hd 1 (by kernel_rfl) (by decide), fun h => absurd h (by decide), fun _ => trivial⟩
          | 5, _ =>
            obtain rfl := Option.some.inj ho
            exact ⟨true, hd 1 (by kernel_rfl) (by decide), fun h => absurd h (by decide), fun _ => trivial⟩
          | 6, _ =>
            obtain rfl := Option.some.inj ho
            exact ⟨true, hd 1 (by kernel_rfl) (by decide), fun h => absurd h (by decide), fun _ => trivial⟩
          | 7, _ =>
            obtain rfl := Option.some.inj ho
            exact ⟨true, hd 1 (by kernel_rfl) (by decide), fun h => absurd h (by decide), fun _ => trivial⟩
          | 8, _ =>
            obtain rfl := Option.some.inj ho
            exact ⟨true, hd 1 (by kernel_rfl) (by decide), fun h => absurd h (by decide), fun _ => trivial⟩
          | 9, _ =>
            obtain rfl := Option.some.inj ho
            exact ⟨true, hd 1 (by kernel_rfl) (by decide), fun h => absurd h (by decide), fun _ => trivial⟩
          | 10, _ =>
            obtain rfl := Option.some.inj ho
            exact ⟨true, hd 1 (by kernel_rfl) (by decide), fun h => absurd h (by decide), fun _ => trivial⟩
          | 11, _ =>
            obtain rfl := Option.some.inj ho
            have e1 : b.tmps.getD 29 undef = .bool true := hd 1 (by kernel_rfl) (by decide)
            exact runs_pick rfl true e1 ⟨rfl, Below.refl _ _⟩
        intro vals w28 hb28 hf28
        have e11 : vals 11 = .bool true := hf28 11 (by decide)
        simp only [puts, List.length_cons, List.length_nil, Nat.zero_add, Nat.reduceAdd, List.drop_succ_cons, List.drop_zero, e11]
        have K := Lib.hid (And.intro (K.out.1.below hb28 K.out.1.lt) (And.intro (K.out.2.1.below hb28 K.out.2.1.lt) (And.intro (K.out.2.2.1.below hb28 K.out.2.2.1.lt) (And.intro (K.out.2.2.2.1.below hb28 K.out.2.2.2.1.lt) (K.out.2.2.2.2.trans (hb28.mono K.out.2.2.2.2.size))))))
        clear e11 hb28 hf28
        go_frame
        go_wp2_with fail
        try go_frame
        cases L2 with
        | true =>
          refine wp_region_guarded [40, 41, 42, 43, 44, 45, 46, 47, 48, 49, 50, 51] [.is (.bool true), .is (.bool true), .any, .any, .any, .any, .any, .any, .any, .any, .any, .is (.bool true)] (by kernel_rfl) (by kernel_rfl) ?_ ?_
          · intro i hi b w' hb hd hx o ho
            match i, hi with
            | 0, _ =>
              obtain rfl := Option.some.inj ho
              exact ⟨hx 9 rfl, Below.refl _ _⟩
            | 1, _ =>
              obtain rfl := Option.some.inj ho
              exact ⟨hd 0 (by kernel_rfl) (by decide), Below.refl _ _⟩
            | 2, _ =>
              obtain rfl := Option.some.inj ho
              exact ⟨true, hd 1 (by kernel_rfl) (by decide), fun h => absurd h (by decide), fun _ => trivial⟩
            | 3, _ =>
              obtain rfl := Option.some.inj ho
              exact ⟨true, hd 1 (by kernel_rfl) (by decide), fun h => absurd h (by decide), fun _ => trivial⟩
            | 4, _ =>
              obtain rfl := Option.some.inj ho
              exact ⟨true, hd 1 (by kernel_rfl) (by decide), fun h => absurd h (by decide), fun _ => trivial⟩
            | 5, _ =>
              obtain rfl := Option.some.inj ho
              exact ⟨true, hd 1 (by kernel_rfl) (by decide), fun h => absurd h (by decide), fun _ => trivial⟩
            | 6, _ =>
              obtain rfl := Option.some.inj ho
              exact ⟨true, hd 1 (by kernel_rfl) (by decide), fun h => absurd h (by decide), fun _ => trivial⟩
            | 7, _ =>
              obtain rfl := Option.some.inj ho
              exact ⟨true, hd 1 (by kernel_rfl) (by decide), fun h => absurd h (by decide), fun _ => trivial⟩
            | 8, _ =>
              obtain rfl := Option.some.inj ho
              exact ⟨true, hd 1 (by kernel_rfl) (by decide), fun h => absurd h (by decide), fun _ => trivial⟩
            | 9, _ =>
              obtain rfl := Option.some.inj ho
              exact ⟨true, hd 1 (by kernel_rfl) (by decide), fun h => absurd h (by decide), fun _ => trivial⟩
            | 10, _ =>
              obtain rfl := Option.some.inj ho
              exact ⟨true, hd 1 (by kernel_rfl) (by decide), fun h => absurd h (by decide), fun _ => trivial⟩
            | 11, _ =>
              obtain rfl := Option.some.inj ho
              have e1 : b.tmps.getD 41 undef = .bool true := hd 1 (by kernel_rfl) (by decide)
              exact runs_pick rfl true e1 ⟨rfl, Below.refl _ _⟩
          intro vals w40 hb40 hf40
          have e11 : vals 11 = .bool true := hf40 11 (by decide)
          simp only [puts, List.length_cons, List.length_nil, Nat.zero_add, Nat.reduceAdd, List.drop_succ_cons, List.drop_zero, e11]
          have K := Lib.hid (And.intro (K.out.1.below hb40 K.out.1.lt) (And.intro (K.out.2.1.below hb40 K.out.2.1.lt) (And.intro (K.out.2.2.1.below hb40 K.out.2.2.1.lt) (And.intro (K.out.2.2.2.1.below hb40 K.out.2.2.2.1.lt) (K.out.2.2.2.2.trans (hb40.mono K.out.2.2.2.2.size))))))
          clear e11 hb40 hf40
          go_frame
          go_wp2_with fail
          exact ⟨⟨k + 1, by omega, by go_num, by rw [HS.out.1]; rfl, by rw [HS.out.2]; rfl, K.out⟩, by simp [intOf]; omega⟩
        | false =>
          refine wp_region_guarded [40, 41, 42, 43, 44, 45, 46, 47, 48, 49, 50, 51] [.is (.bool false), .is (.bool false), .is (.slice (some ⟨Va, 0, none⟩) 68 68), .is (.int .i64 k), .is (.pointer (some ⟨Va, k, none⟩)), .is (.int .i64 p), .is (.slice (some ⟨Vb, 0, none⟩) 68 68), .is (.int .i64 k), .is (.pointer (some ⟨Vb, k, none⟩)), .is (.int .i64 q), .is (.bool (decide (q < p))), .is (.bool (decide (q < p)))] (by kernel_rfl) (by kernel_rfl) ?_ ?_
          · intro i hi b w' hb hd hx o ho
            match i, hi with
            | 0, _ =>
              obtain rfl := Option.some.inj ho
              exact ⟨hx 9 rfl, Below.refl _ _⟩
            | 1, _ =>
              obtain rfl := Option.some.inj ho
              exact ⟨hd 0 (by kernel_rfl) (by decide), Below.refl _ _⟩
            | 2, _ =>
              obtain rfl := Option.some.inj ho
              refine ⟨false, hd 1 (by kernel_rfl) (by decide), fun _ => ?_, fun h => absurd rfl h⟩
              exact ⟨hx 6 rfl, Below.refl _ _⟩
            | 3, _ =>
              obtain rfl := Option.some.inj ho
              refine ⟨false, hd 1 (by kernel_rfl) (by decide), fun _ => ?_, fun h => absurd rfl h⟩
              exact ⟨hx 10 rfl, Below.refl _ _⟩
            | 4, _ =>
              obtain rfl := Option.some.inj ho
              refine ⟨false, hd 1 (by kernel_rfl) (by decide), fun _ => ?_, fun h => absurd rfl h⟩
              have e1 : b.tmps.getD 42 undef = .slice (some ⟨Va, 0, none⟩) 68 68 := hd 2 (by kernel_rfl) (by decide)
              have e2 : b.tmps.getD 43 undef = .int .i64 k := hd 3 (by kernel_rfl) (by decide)
              have hr := run_at w' Va k hlt
              rw [← e1, ← e2] at hr
              exact runs_value rfl hr ⟨rfl, Below.refl _ _⟩
            | 5, _ =>
              obtain rfl := Option.some.inj ho
              refine ⟨false, hd 1 (by kernel_rfl) (by decide), fun _ => ?_, fun h => absurd rfl h⟩
              have e1 : b.tmps.getD 44 undef = .pointer (some ⟨Va, k, none⟩) := hd 4 (by kernel_rfl) (by decide)
              have hr := run_get w' Va k p ((K.out.1.below hb K.out.1.lt).cell k _ HPQ.out.1)
              rw [← e1] at hr
              exact runs_value rfl hr ⟨rfl, Below.refl _ _⟩
            | 6, _ =>
              obtain rfl := Option.some.inj ho
              refine ⟨false, hd 1 (by kernel_rfl) (by decide), fun _ => ?_, fun h => absurd rfl h⟩
              exact ⟨hx 7 rfl, Below.refl _ _⟩
            | 7, _ =>
              obtain rfl := Option.some.inj ho
              refine ⟨false, hd 1 (by kernel_rfl) (by decide), fun _ => ?_, fun h => absurd rfl h⟩
              exact ⟨hx 10 rfl, Below.refl _ _⟩
            | 8, _ =>
              obtain rfl := Option.some.inj ho
              refine ⟨false, hd 1 (by kernel_rfl) (by decide), fun _ => ?_, fun h => absurd rfl h⟩
              have e1 : b.tmps.getD 46 undef = .slice (some ⟨Vb, 0, none⟩) 68 68 := hd 6 (by kernel_rfl) (by decide)
              have e2 : b.tmps.getD 47 undef = .int .i64 k := hd 7 (by kernel_rfl) (by decide)
              have hr := run_at w' Vb k hlt
              rw [← e1, ← e2] at hr
              exact runs_value rfl hr ⟨rfl, Below.refl _ _⟩
            | 9, _ =>
              obtain rfl := Option.some.inj ho
              refine ⟨false, hd 1 (by kernel_rfl) (by decide), fun _ => ?_, fun h => absurd rfl h⟩
              have e1 : b.tmps.getD 48 undef = .pointer (some ⟨Vb, k, none⟩) := hd 8 (by kernel_rfl) (by decide)
              have hr := run_get w' Vb k q ((K.out.2.1.below hb K.out.2.1.lt).cell k _ HPQ.out.2)
              rw [← e1] at hr
              exact runs_value rfl hr ⟨rfl, Below.refl _ _⟩
            | 10, _ =>
              obtain rfl := Option.some.inj ho
              refine ⟨false, hd 1 (by kernel_rfl) (by decide), fun _ => ?_, fun h => absurd rfl h⟩
              have e1 : b.tmps.getD 45 undef = .int .i64 p := hd 5 (by kernel_rfl) (by decide)
              have e2 : b.tmps.getD 49 undef = .int .i64 q := hd 9 (by kernel_rfl) (by decide)
              have hr := run_gtr_int w' p q (.tmp 45) (.tmp 49)
              rw [← e1, ← e2] at hr
              exact runs_value rfl hr ⟨rfl, Below.refl _ _⟩
            | 11, _ =>
              obtain rfl := Option.some.inj ho
              have e1 : b.tmps.getD 41 undef = .bool false := hd 1 (by kernel_rfl) (by decide)
              have e2 : b.tmps.getD 50 undef = .bool (decide (q < p)) := hd 10 (by kernel_rfl) (by decide)
              exact runs_pick rfl false e1 ⟨e2, Below.refl _ _⟩
          intro vals w40 hb40 hf40
          have e11 : vals 11 = .bool (decide (q < p)) := hf40 11 (by decide)
          simp only [puts, List.length_cons, List.length_nil, Nat.zero_add, Nat.reduceAdd, List.drop_succ_cons, List.drop_zero, e11]
          have K := Lib.hid (And.intro (K.out.1.below hb40 K.out.1.lt) (And.intro (K.out.2.1.below hb40 K.out.2.1.lt) (And.intro (K.out.2.2.1.below hb40 K.out.2.2.1.lt) (And.intro (K.out.2.2.2.1.below hb40 K.out.2.2.2.1.lt) (K.out.2.2.2.2.trans (hb40.mono K.out.2.2.2.2.size))))))
          clear e11 hb40 hf40
          go_frame
          go_wp2_with fail
          exact ⟨⟨k + 1, by omega, by go_num, by rw [HS.out.1]; rfl, by rw [HS.out.2]; rfl, K.out⟩, by simp [intOf]; omega⟩
      | false =>
        refine wp_region_guarded [28, 29, 30, 31, 32, 33, 34, 35, 36, 37, 38, 39] [.is (.bool false), .is (.bool false), .is (.slice (some ⟨Va, 0, none⟩) 68 68), .is (.int .i64 k), .is (.pointer (some ⟨Va, k, none⟩)), .is (.int .i64 p), .is (.slice (some ⟨Vb, 0, none⟩) 68 68), .is (.int .i64 k), .is (.pointer (some ⟨Vb, k, none⟩)), .is (.int .i64 q), .is (.bool (decide (p < q))), .is (.bool (decide (p < q)))] (by kernel_rfl) (by kernel_rfl) ?_ ?_
        · intro i hi b w' hb hd hx o ho
          match i, hi with
          | 0, _ =>
            obtain rfl := Option.some.inj ho
            exact ⟨hx 8 rfl, Below.refl _ _⟩
          | 1, _ =>
            obtain rfl := Option.some.inj ho
            exact ⟨hd 0 (by kernel_rfl) (by decide), Below.refl _ _⟩
          | 2, _ =>
            obtain rfl := Option.some.inj ho
            refine ⟨false, hd 1 (by kernel_rfl) (by decide), fun _ => ?_, fun h => absurd rfl h⟩
            exact ⟨hx 6 rfl, Below.refl _ _⟩
          | 3, _ =>
            obtain rfl := Option.some.inj ho
            refine ⟨false, hd 1 (by kernel_rfl) (by decide), fun _ => ?_, fun h => absurd rfl h⟩
            exact ⟨hx 10 rfl, Below.refl _ _⟩
          | 4, _ =>
            obtain rfl := Option.some.inj ho
            refine ⟨false, hd 1 (by kernel_rfl) (by decide), fun _ => ?_, fun h => absurd rfl h⟩
            have e1 : b.tmps.getD 30 undef = .slice (some ⟨Va, 0, none⟩) 68 68 := hd 2 (by kernel_rfl) (by decide)
            have e2 : b.tmps.getD 31 undef = .int .i64 k := hd 3 (by kernel_rfl) (by decide)
            have hr := run_at w' Va k hlt
            rw [← e1, ← e2] at hr
            exact runs_value rfl hr ⟨rfl, Below.refl _ _⟩
          | 5, _ =>
            obtain rfl := Option.some.inj ho
            refine ⟨false, hd 1 (by kernel_rfl) (by decide), fun _ => ?_, fun h => absurd rfl h⟩
            have e1 : b.tmps.getD 32 undef = .pointer (some ⟨Va, k, none⟩) := hd 4 (by kernel_rfl) (by decide)
            have hr := run_get w' Va k p ((K.out.1.below hb K.out.1.lt).cell k _ HPQ.out.1)
            rw [← e1] at hr
            exact runs_value rfl hr ⟨rfl, Below.refl _ _⟩
          | 6, _ =>
            obtain rfl := Option.some.inj ho
            refine ⟨false, hd 1 (by kernel_rfl) (by decide), fun _ => ?_, fun h => absurd rfl h⟩
            exact ⟨hx 7 rfl, Below.refl _ _⟩
          | 7, _ =>
            obtain rfl := Option.some.inj ho
            refine ⟨false, hd 1 (by kernel_rfl) (by decide), fun _ => ?_, fun h => absurd rfl h⟩
            exact ⟨hx 10 rfl, Below.refl _ _⟩
          | 8, _ =>
            obtain rfl := Option.some.inj ho
            refine ⟨false, hd 1 (by kernel_rfl) (by decide), fun _ => ?_, fun h => absurd rfl h⟩
            have e1 : b.tmps.getD 34 undef = .slice (some ⟨Vb, 0, none⟩) 68 68 := hd 6 (by kernel_rfl) (by decide)
            have e2 : b.tmps.getD 35 undef = .int .i64 k := hd 7 (by kernel_rfl) (by decide)
            have hr := run_at w' Vb k hlt
            rw [← e1, ← e2] at hr
            exact runs_value rfl hr ⟨rfl, Below.refl _ _⟩
          | 9, _ =>
            obtain rfl := Option.some.inj ho
            refine ⟨false, hd 1 (by kernel_rfl) (by decide), fun _ => ?_, fun h => absurd rfl h⟩
            have e1 : b.tmps.getD 36 undef = .pointer (some ⟨Vb, k, none⟩) := hd 8 (by kernel_rfl) (by decide)
            have hr := run_get w' Vb k q ((K.out.2.1.below hb K.out.2.1.lt).cell k _ HPQ.out.2)
            rw [← e1] at hr
            exact runs_value rfl hr ⟨rfl, Below.refl _ _⟩
          | 10, _ =>
            obtain rfl := Option.some.inj ho
            refine ⟨false, hd 1 (by kernel_rfl) (by decide), fun _ => ?_, fun h => absurd rfl h⟩
            have e1 : b.tmps.getD 33 undef = .int .i64 p := hd 5 (by kernel_rfl) (by decide)
            have e2 : b.tmps.getD 37 undef = .int .i64 q := hd 9 (by kernel_rfl) (by decide)
            have hr := run_lss_int w' p q (.tmp 33) (.tmp 37)
            rw [← e1, ← e2] at hr
            exact runs_value rfl hr ⟨rfl, Below.refl _ _⟩
          | 11, _ =>
            obtain rfl := Option.some.inj ho
            have e1 : b.tmps.getD 29 undef = .bool false := hd 1 (by kernel_rfl) (by decide)
            have e2 : b.tmps.getD 38 undef = .bool (decide (p < q)) := hd 10 (by kernel_rfl) (by decide)
            exact runs_pick rfl false e1 ⟨e2, Below.refl _ _⟩
        intro vals w28 hb28 hf28
        have e11 : vals 11 = .bool (decide (p < q)) := hf28 11 (by decide)
        simp only [puts, List.length_cons, List.length_nil, Nat.zero_add, Nat.reduceAdd, List.drop_succ_cons, List.drop_zero, e11]
        have K := Lib.hid (And.intro (K.out.1.below hb28 K.out.1.lt) (And.intro (K.out.2.1.below hb28 K.out.2.1.lt) (And.intro (K.out.2.2.1.below hb28 K.out.2.2.1.lt) (And.intro (K.out.2.2.2.1.below hb28 K.out.2.2.2.1.lt) (K.out.2.2.2.2.trans (hb28.mono K.out.2.2.2.2.size))))))
        clear e11 hb28 hf28
        go_frame
        go_wp2_with fail
        try go_frame
        cases L2 with
        | true =>
          refine wp_region_guarded [40, 41, 42, 43, 44, 45, 46, 47, 48, 49, 50, 51] [.is (.bool true), .is (.bool true), .any, .any, .any, .any, .any, .any, .any, .any, .any, .is (.bool true)] (by kernel_rfl) (by kernel_rfl) ?_ ?_
          · intro i hi b w' hb hd hx o ho
            match i, hi with
            | 0, _ =>
              obtain rfl := Option.some.inj ho
              exact ⟨hx 9 rfl, Below.refl _ _⟩
            | 1, _ =>
              obtain rfl := Option.some.inj ho
              exact ⟨hd 0 (by kernel_rfl) (by decide), Below.refl _ _⟩
            | 2, _ =>
              obtain rfl := Option.some.inj ho
              exact ⟨true, hd 1 (by kernel_rfl) (by decide), fun h => absurd h (by decide), fun _ => trivial⟩
            | 3, _ =>
              obtain rfl := Option.some.inj ho
              exact ⟨true, hd 1 (by kernel_rfl) (by decide), fun h => absurd h (by decide), fun _ => trivial⟩
            | 4, _ =>
              obtain rfl := Option.some.inj ho
              exact ⟨true, hd 1 (by kernel_rfl) (by decide), fun h => absurd h (by decide), fun _ => trivial⟩
            | 5, _ =>
              obtain rfl := Option.some.inj ho
              exact ⟨true, hd 1 (by kernel_rfl) (by decide), fun h => absurd h (by decide), fun _ => trivial⟩
            | 6, _ =>
              obtain rfl := Option.some.inj ho
              exact ⟨true, hd 1 (by kernel_rfl) (by decide), fun h => absurd h (by decide), fun _ => trivial⟩
            | 7, _ =>
              obtain rfl := Option.some.inj ho
              exact ⟨true, hd 1 (by kernel_rfl) (by decide), fun h => absurd h (by decide), fun _ => trivial⟩
            | 8, _ =>
              obtain rfl := Option.some.inj ho
              exact ⟨true, hd 1 (by kernel_rfl) (by decide), fun h => absurd h (by decide), fun _ => trivial⟩
            | 9, _ =>
              obtain rfl := Option.some.inj ho
              exact ⟨true, hd 1 (by kernel_rfl) (by decide), fun h => absurd h (by decide), fun _ => trivial⟩
            | 10, _ =>
              obtain rfl := Option.some.inj ho
              exact ⟨true, hd 1 (by kernel_rfl) (by decide), fun h => absurd h (by decide), fun _ => trivial⟩
            | 11, _ =>
              obtain rfl := Option.some.inj ho
              have e1 : b.tmps.getD 41 undef = .bool true := hd 1 (by kernel_rfl) (by decide)
              exact runs_pick rfl true e1 ⟨rfl, Below.refl _ _⟩
          intro vals w40 hb40 hf40
          have e11 : vals 11 = .bool true := hf40 11 (by decide)
          simp only [puts, List.length_cons, List.length_nil, Nat.zero_add, Nat.reduceAdd, List.drop_succ_cons, List.drop_zero, e11]
          have K := Lib.hid (And.intro (K.out.1.below hb40 K.out.1.lt) (And.intro (K.out.2.1.below hb40 K.out.2.1.lt) (And.intro (K.out.2.2.1.below hb40 K.out.2.2.1.lt) (And.intro (K.out.2.2.2.1.below hb40 K.out.2.2.2.1.lt) (K.out.2.2.2.2.trans (hb40.mono K.out.2.2.2.2.size))))))
          clear e11 hb40 hf40
          go_frame
          go_wp2_with fail
          exact ⟨⟨k + 1, by omega, by go_num, by rw [HS.out.1]; rfl, by rw [HS.out.2]; rfl, K.out⟩, by simp [intOf]; omega⟩
        | false =>
          refine wp_region_guarded [40, 41, 42, 43, 44, 45, 46, 47, 48, 49, 50, 51] [.is (.bool false), .is (.bool false), .is (.slice (some ⟨Va, 0, none⟩) 68 68), .is (.int .i64 k), .is (.pointer (some ⟨Va, k, none⟩)), .is (.int .i64 p), .is (.slice (some ⟨Vb, 0, none⟩) 68 68), .is (.int .i64 k), .is (.pointer (some ⟨Vb, k, none⟩)), .is (.int .i64 q), .is (.bool (decide (q < p))), .is (.bool (decide (q < p)))] (by kernel_rfl) (by kernel_rfl) ?_ ?_
          · intro i hi b w' hb hd hx o ho
            match i, hi with
            | 0, _ =>
              obtain rfl := Option.some.inj ho
              exact ⟨hx 9 rfl, Below.refl _ _⟩
            | 1, _ =>
              obtain rfl := Option.some.inj ho
              exact ⟨hd 0 (by kernel_rfl) (by decide), Below.refl _ _⟩
            | 2, _ =>
              obtain rfl := Option.some.inj ho
              refine ⟨false, hd 1 (by kernel_rfl) (by decide), fun _ => ?_, fun h => absurd rfl h⟩
              exact ⟨hx 6 rfl, Below.refl _ _⟩
            | 3, _ =>
              obtain rfl := Option.some.inj ho
              refine ⟨false, hd 1 (by kernel_rfl) (by decide), fun _ => ?_, fun h => absurd rfl h⟩
              exact ⟨hx 10 rfl, Below.refl _ _⟩
            | 4, _ =>
              obtain rfl := Option.some.inj ho
              refine ⟨false, hd 1 (by kernel_rfl) (by decide), fun _ => ?_, fun h => absurd rfl h⟩
              have e1 : b.tmps.getD 42 undef = .slice (some ⟨Va, 0, none⟩) 68 68 := hd 2 (by kernel_rfl) (by decide)
              have e2 : b.tmps.getD 43 undef = .int .i64 k := hd 3 (by kernel_rfl) (by decide)
              have hr := run_at w' Va k hlt
              rw [← e1, ← e2] at hr
              exact runs_value rfl hr ⟨rfl, Below.refl _ _⟩
            | 5, _ =>
              obtain rfl := Option.some.inj ho
              refine ⟨false, hd 1 (by kernel_rfl) (by decide), fun _ => ?_, fun h => absurd rfl h⟩
              have e1 : b.tmps.getD 44 undef = .pointer (some ⟨Va, k, none⟩) := hd 4 (by kernel_rfl) (by decide)
              have hr := run_get w' Va k p ((K.out.1.below hb K.out.1.lt).cell k _ HPQ.out.1)
              rw [← e1] at hr
              exact runs_value rfl hr ⟨rfl, Below.refl _ _⟩
            | 6, _ =>
              obtain rfl := Option.some.inj ho
              refine ⟨false, hd 1 (by kernel_rfl) (by decide), fun _ => ?_, fun h => absurd rfl h⟩
              exact ⟨hx 7 rfl, Below.refl _ _⟩
            | 7, _ =>
              obtain rfl := Option.some.inj ho
              refine ⟨false, hd 1 (by kernel_rfl) (by decide), fun _ => ?_, fun h => absurd rfl h⟩
              exact ⟨hx 10 rfl, Below.refl _ _⟩
            | 8, _ =>
              obtain rfl := Option.some.inj ho
              refine ⟨false, hd 1 (by kernel_rfl) (by decide), fun _ => ?_, fun h => absurd rfl h⟩
              have e1 : b.tmps.getD 46 undef = .slice (some ⟨Vb, 0, none⟩) 68 68 := hd 6 (by kernel_rfl) (by decide)
              have e2 : b.tmps.getD 47 undef = .int .i64 k := hd 7 (by kernel_rfl) (by decide)
              have hr := run_at w' Vb k hlt
              rw [← e1, ← e2] at hr
              exact runs_value rfl hr ⟨rfl, Below.refl _ _⟩
            | 9, _ =>
              obtain rfl := Option.some.inj ho
              refine ⟨false, hd 1 (by kernel_rfl) (by decide), fun _ => ?_, fun h => absurd rfl h⟩
              have e1 : b.tmps.getD 48 undef = .pointer (some ⟨Vb, k, none⟩) := hd 8 (by kernel_rfl) (by decide)
              have hr := run_get w' Vb k q ((K.out.2.1.below hb K.out.2.1.lt).cell k _ HPQ.out.2)
              rw [← e1] at hr
              exact runs_value rfl hr ⟨rfl, Below.refl _ _⟩
            | 10, _ =>
              obtain rfl := Option.some.inj ho
              refine ⟨false, hd 1 (by kernel_rfl) (by decide), fun _ => ?_, fun h => absurd rfl h⟩
              have e1 : b.tmps.getD 45 undef = .int .i64 p := hd 5 (by kernel_rfl) (by decide)
              have e2 : b.tmps.getD 49 undef = .int .i64 q := hd 9 (by kernel_rfl) (by decide)
              have hr := run_gtr_int w' p q (.tmp 45) (.tmp 49)
              rw [← e1, ← e2] at hr
              exact runs_value rfl hr ⟨rfl, Below.refl _ _⟩
            | 11, _ =>
              obtain rfl := Option.some.inj ho
              have e1 : b.tmps.getD 41 undef = .bool false := hd 1 (by kernel_rfl) (by decide)
              have e2 : b.tmps.getD 50 undef = .bool (decide (q < p)) := hd 10 (by kernel_rfl) (by decide)
              exact runs_pick rfl false e1 ⟨e2, Below.refl _ _⟩
          intro vals w40 hb40 hf40
          have e11 : vals 11 = .bool (decide (q < p)) := hf40 11 (by decide)
          simp only [puts, List.length_cons, List.length_nil, Nat.zero_add, Nat.reduceAdd, List.drop_succ_cons, List.drop_zero, e11]
          have K := Lib.hid (And.intro (K.out.1.below hb40 K.out.1.lt) (And.intro (K.out.2.1.below hb40 K.out.2.1.lt) (And.intro (K.out.2.2.1.below hb40 K.out.2.2.1.lt) (And.intro (K.out.2.2.2.1.below hb40 K.out.2.2.2.1.lt) (K.out.2.2.2.2.trans (hb40.mono K.out.2.2.2.2.size))))))
          clear e11 hb40 hf40
          go_frame
          go_wp2_with fail
          exact ⟨⟨k + 1, by omega, by go_num, by rw [HS.out.1]; rfl, by rw [HS.out.2]; rfl, K.out⟩, by simp [intOf]; omega⟩
    · have hk8 : k = 68 := by omega
      have ik : (68 : Int) ≤ k := by omega
      rw [hk8]
      have heq := eq_dig a c ha hc wr
      rw [← HXY.out.1, ← HXY.out.2] at heq
      have K := Lib.hid hK
      clear hK
      by_cases hac : a = c
      · rw [show decide (a = c) = true from decide_eq_true hac] at heq
        clear hac
        go_wp2_with (first | (refine wpList_load_wanted 23 (.tmp 2) rfl rfl w.heap.size 0 rfl X _ K.out.2.2.1.range Tryd.underlying23 rfl (by rw [← List.size_toArray]; exact YX.out) ?_) | (refine wpList_load_wanted 23 (.tmp 3) rfl rfl (w.heap.size + 1) 0 rfl Y _ K.out.2.2.2.1.range Tryd.underlying23 rfl (by rw [← List.size_toArray]; exact YY.out) ?_))
        go_ret
        exact ⟨rfl, K.out.2.2.2.2⟩
      · rw [show decide (a = c) = false from decide_eq_false hac] at heq
        obtain ⟨hl1, hl2⟩ := HCR.out hac
        rw [hl1, hl2]
        clear hac hl1 hl2
        go_wp2_with (first | (refine wpList_load_wanted 23 (.tmp 2) rfl rfl w.heap.size 0 rfl X _ K.out.2.2.1.range Tryd.underlying23 rfl (by rw [← List.size_toArray]; exact YX.out) ?_) | (refine wpList_load_wanted 23 (.tmp 3) rfl rfl (w.heap.size + 1) 0 rfl Y _ K.out.2.2.2.1.range Tryd.underlying23 rfl (by rw [← List.size_toArray]; exact YY.out) ?_))
        go_ret
        exact ⟨rfl, K.out.2.2.2.2⟩
end Go.Proofs.YtkelfcgomeojeaaDoor
end

