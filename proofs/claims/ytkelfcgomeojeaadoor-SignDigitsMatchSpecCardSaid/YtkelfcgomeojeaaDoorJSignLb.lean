import Derived.Test.YtkelfcgomeojeaaDoorJGuards
import Derived.Test.YtkelfcgomeojeaaDoorJSignPw
import Derived.Test.YtkelfcgomeojeaaDoorJSignRd
import Derived.Test.YtkelfcgomeojeaaDoorJWireK0

section
/- SignDigitsMatchSpec. -/




namespace Go.Proofs.YtkelfcgomeojeaaDoor
open Go.RowKit
set_option linter.unusedVariables false
set_option maxRecDepth 100000

theorem run_neq_same (w : World) (p : Nat) (X Y : Operand) : (do eqGuard .neq 3 X Y (.int .i64 p) (.int .i64 p); binOp .neq 3 (.int .i64 p) (.int .i64 p) : Sem Value).run Tryd.prog w = .ok (.bool false) w := by
  go_simp
theorem run_lss_zero (w : World) (p : Nat) (X Y : Operand) : (do eqGuard .lss 3 X Y (.int .i64 p) (.int .i64 0); binOp .lss 3 (.int .i64 p) (.int .i64 0) : Sem Value).run Tryd.prog w = .ok (.bool false) w := by
  have h : decide ((p : Int) < 0) = false := by simp
  go_simp
theorem run_gtr_three (w : World) (p : Nat) (hp : p ≤ 3) (X Y : Operand) : (do eqGuard .gtr 3 X Y (.int .i64 p) (.int .i64 3); binOp .gtr 3 (.int .i64 p) (.int .i64 3) : Sem Value).run Tryd.prog w = .ok (.bool false) w := by
  have h : decide ((3 : Int) < p) = false := by simp; omega
  go_simp
theorem run_atc (w : World) (b k cap : Nat) (hk : k < 68) : (Instr.indexAt 25 (.slice (some ⟨b, 0, none⟩) 68 cap) (.int .i64 k)).run Tryd.prog w = .ok (.pointer (some ⟨b, k, none⟩)) w := by
  have h1 : (k : Int) < 68 := by omega
  have h2 : (0 : Int) ≤ k := by omega
  go_simp
set_option maxHeartbeats 8000000 in
theorem match_walk (a : List UInt8) (w : World) (ha : a.length = 16) (hT : HTab w) : Calls Tryd.prog 3 #[.agg (a.map bv).toArray] w (Tells true w) := by
  obtain ⟨X, hX⟩ : ∃ X, X = a.map bv := ⟨_, rfl⟩
  have lX : X.length = 16 := by rw [hX, List.length_map, ha]
  have yX := size_dig lX
  obtain ⟨x, hx⟩ : ∃ x, x = Sg.digits a := ⟨_, rfl⟩
  have lx : x.length = 68 := by rw [hx, digits_len a ha]
  have hle : ∀ c, x.getD c 0 ≤ 3 := by rw [hx]; exact digits_le a ha
  have cA := fun W => digits_any a W ha
  have cB := fun W => refDigits_any a W ha
  rw [← hX, ← hx] at cA cB
  rw [← hX]
  obtain ⟨W0, hW0⟩ : ∃ W0, W0 = w.alloc (.cells X.toArray 23) := ⟨_, rfl⟩
  have hS : Blk W0 w.heap.size X 23 ∧ Below w.heap.size w W0 := by
    rw [hW0]
    exact ⟨Blk.new w _ _, (Below.refl _ _).alloc (Nat.le_refl _) _⟩
  have CA := Lib.hid cA
  have CB := Lib.hid cB
  have S := Lib.hid hS
  have HW0 := Lib.hid hW0
  have LL := Lib.hid (And.intro lx hle)
  have YX := Lib.hid yX
  have cS := sanity_any W0 (hT.below hS.2 (Nat.le_refl _))
  have CS := Lib.hid cS
  clear cA cB hS hW0 hX lX yX hx lx hle cS
  go_enter Tryd.func3, Tryd.ntmps3
  go_wp2_with fail
  rw [← HW0.out]
  refine CS.out.mono ?_
  rintro e w1 ⟨rfl, hb1⟩
  have S1 := Lib.hid (And.intro (S.out.1.below hb1 S.out.1.lt) (S.out.2.trans (hb1.mono S.out.2.size)))
  clear hb1 S CS
  go_wp2_with (refine wpList_load_row rfl 23 (.tmp 1) rfl w.heap.size rfl _ X.toArray (0, 0) _ S1.out.1 Tryd.underlying23 rfl YX.out ?_)
  refine (CA.out w1).mono ?_
  rintro e w2 ⟨rfl, hk2, hb2⟩
  have S2 := Lib.hid (And.intro hk2 (And.intro (S1.out.1.below hb2 S1.out.1.lt) (S1.out.2.trans (hb2.mono S1.out.2.size))))
  obtain ⟨Va, hVa⟩ : ∃ Va, Va = w1.heap.size + 1 := ⟨_, rfl⟩
  rw [← hVa] at S2 ⊢
  clear hk2 hb2 S1 CA hVa
  go_wp2_with (refine wpList_load_row rfl 23 (.tmp 1) rfl w.heap.size rfl _ X.toArray (0, 0) _ S2.out.2.1 Tryd.underlying23 rfl YX.out ?_)
  refine (CB.out w2).mono ?_
  rintro e w3 ⟨v, rfl, hown, hb3⟩
  obtain ⟨g, cap, rfl, -, hg, hcap, -, hcell⟩ := own_form hown (by omega)
  have hrd : Rd w3 w3.heap.size (some ⟨g, 0, none⟩) (x.map dv) := fun _ => ⟨g, 0, rfl, hg, fun j u hu => by
    have := hcell j u hu
    rw [Addr.add_mid] at this
    exact this⟩
  have hcap0 : (68 : Int) ≤ cap := by omega
  have S3 := Lib.hid (And.intro (S2.out.1.below hb3 S2.out.1.lt) (And.intro hrd (S2.out.2.2.trans (hb3.mono S2.out.2.2.size))))
  clear hb3 S2 CB hown hcell hrd hg
  go_wp2_with fail
  go_loopw [6] (fun i wr => ∃ k : Nat, k ≤ 68 ∧ i = .int .i64 k ∧ (Blk wr Va (x.map dv) 43 ∧ Rd wr wr.heap.size (some ⟨g, 0, none⟩) (x.map dv) ∧ Below w.heap.size w wr)) (fun i _ => 68 - (intOf i).toNat)
  case atStart => exact ⟨0, by omega, rfl, S3.out⟩
  case round =>
    clear S3
    obtain ⟨k, hk, rfl, hK⟩ := hrel
    by_cases hlt : k < 68
    · have ik : (k : Int) < 68 := by omega
      obtain ⟨p, hp⟩ : ∃ p, p = x.getD k 0 := ⟨_, rfl⟩
      have hpv : (x.map dv)[k]? = some (.int .i64 (p : Int)) := by rw [List.getElem?_map, getD_at x k 0 (by have := LL.out.1; omega), ← hp]; rfl
      have hp3 : p ≤ 3 := by rw [hp]; exact LL.out.2 k
      have K := Lib.hid hK
      have HP := Lib.hid hpv
      clear hK hpv hp
      go_wp2_with fail
      try go_frame
      refine wp_region_guarded [23, 24, 25, 26, 27, 28, 29, 30, 31, 32, 33, 34, 35, 36, 37, 38, 39, 40, 41, 42, 43, 44] [.is (.slice (some ⟨Va, 0, none⟩) 68 68), .is (.int .i64 k), .is (.pointer (some ⟨Va, k, none⟩)), .is (.int .i64 p), .is (.slice (some ⟨g, 0, none⟩) 68 cap), .is (.int .i64 k), .is (.pointer (some ⟨g, k, none⟩)), .is (.int .i64 p), .is (.bool false), .is (.bool false), .is (.slice (some ⟨Va, 0, none⟩) 68 68), .is (.int .i64 k), .is (.pointer (some ⟨Va, k, none⟩)), .is (.int .i64 p), .is (.bool false), .is (.bool false), .is (.bool false), .is (.slice (some ⟨Va, 0, none⟩) 68 68), .is (.int .i64 k), .is (.pointer (some ⟨Va, k, none⟩)), .is (.int .i64 p), .is (.bool false)] (by kernel_rfl) (by kernel_rfl) ?_ ?_
      · intro i hi b w' hb hd hx o ho
        match i, hi with
        | 0, _ =>
          obtain rfl := Option.some.inj ho
          exact ⟨hx 4 rfl, Below.refl _ _⟩
        | 1, _ =>
          obtain rfl := Option.some.inj ho
          exact ⟨hx 6 rfl, Below.refl _ _⟩
        | 2, _ =>
          obtain rfl := Option.some.inj ho
          have e1 : b.tmps.getD 23 undef = .slice (some ⟨Va, 0, none⟩) 68 68 := hd 0 (by kernel_rfl) (by decide)
          have e2 : b.tmps.getD 24 undef = .int .i64 k := hd 1 (by kernel_rfl) (by decide)
          have hr := run_atc w' Va k 68 hlt
          rw [← e1, ← e2] at hr
          exact runs_value rfl hr ⟨rfl, Below.refl _ _⟩
        | 3, _ =>
          obtain rfl := Option.some.inj ho
          have e1 : b.tmps.getD 25 undef = .pointer (some ⟨Va, k, none⟩) := hd 2 (by kernel_rfl) (by decide)
          have hr := run_get w' Va k p ((K.out.1.below hb K.out.1.lt).cell k _ HP.out)
          rw [← e1] at hr
          exact runs_value rfl hr ⟨rfl, Below.refl _ _⟩
        | 4, _ =>
          obtain rfl := Option.some.inj ho
          exact ⟨hx 5 rfl, Below.refl _ _⟩
        | 5, _ =>
          obtain rfl := Option.some.inj ho
          exact ⟨hx 6 rfl, Below.refl _ _⟩
        | 6, _ =>
          obtain rfl := Option.some.inj ho
          have e1 : b.tmps.getD 27 undef = .slice (some ⟨g, 0, none⟩) 68 cap := hd 4 (by kernel_rfl) (by decide)
          have e2 : b.tmps.getD 28 undef = .int .i64 k := hd 5 (by kernel_rfl) (by decide)
          have hr := run_atc w' g k cap hlt
          rw [← e1, ← e2] at hr
          exact runs_value rfl hr ⟨rfl, Below.refl _ _⟩
        | 7, _ =>
          obtain rfl := Option.some.inj ho
          have e1 : b.tmps.getD 29 undef = .pointer (some ⟨g, k, none⟩) := hd 6 (by kernel_rfl) (by decide)
          have hr := run_get w' g k p (Rd.cellAt ((K.out.2.1.below hb).more hb.size) k _ HP.out)
          rw [← e1] at hr
          exact runs_value rfl hr ⟨rfl, Below.refl _ _⟩
        | 8, _ =>
          obtain rfl := Option.some.inj ho
          have e1 : b.tmps.getD 26 undef = .int .i64 p := hd 3 (by kernel_rfl) (by decide)
          have e2 : b.tmps.getD 30 undef = .int .i64 p := hd 7 (by kernel_rfl) (by decide)
          have hr := run_neq_same w' p (.tmp 26) (.tmp 30)
          refine runs_value (X := (do eqGuard .neq 3 (.tmp 26) (.tmp 30) (b.tmps.getD 26 undef) (b.tmps.getD 30 undef); binOp .neq 3 (b.tmps.getD 26 undef) (b.tmps.getD 30 undef))) rfl ?_ ⟨rfl, Below.refl _ _⟩
          rw [e1, e2]
          exact hr
        | 9, _ =>
          obtain rfl := Option.some.inj ho
          exact ⟨hd 8 (by kernel_rfl) (by decide), Below.refl _ _⟩
        | 10, _ =>
          obtain rfl := Option.some.inj ho
          refine ⟨false, hd 9 (by kernel_rfl) (by decide), fun _ => ?_, fun h => absurd rfl h⟩
          exact ⟨hx 4 rfl, Below.refl _ _⟩
        | 11, _ =>
          obtain rfl := Option.some.inj ho
          refine ⟨false, hd 9 (by kernel_rfl) (by decide), fun _ => ?_, fun h => absurd rfl h⟩
          exact ⟨hx 6 rfl, Below.refl _ _⟩
        | 12, _ =>
          obtain rfl := Option.some.inj ho
          refine ⟨false, hd 9 (by kernel_rfl) (by decide), fun _ => ?_, fun h => absurd rfl h⟩
          have e1 : b.tmps.getD 33 undef = .slice (some ⟨Va, 0, none⟩) 68 68 := hd 10 (by kernel_rfl) (by decide)
          have e2 : b.tmps.getD 34 undef = .int .i64 k := hd 11 (by kernel_rfl) (by decide)
          have hr := run_atc w' Va k 68 hlt
          rw [← e1, ← e2] at hr
          exact runs_value rfl hr ⟨rfl, Below.refl _ _⟩
        | 13, _ =>
          obtain rfl := Option.some.inj ho
          refine ⟨false, hd 9 (by kernel_rfl) (by decide), fun _ => ?_, fun h => absurd rfl h⟩
          have e1 : b.tmps.getD 35 undef = .pointer (some ⟨Va, k, none⟩) := hd 12 (by kernel_rfl) (by decide)
          have hr := run_get w' Va k p ((K.out.1.below hb K.out.1.lt).cell k _ HP.out)
          rw [← e1] at hr
          exact runs_value rfl hr ⟨rfl, Below.refl _ _⟩
        | 14, _ =>
          obtain rfl := Option.some.inj ho
          refine ⟨false, hd 9 (by kernel_rfl) (by decide), fun _ => ?_, fun h => absurd rfl h⟩
          have e1 : b.tmps.getD 36 undef = .int .i64 p := hd 13 (by kernel_rfl) (by decide)
          have hr := run_lss_zero w' p (.tmp 36) (.const (.int .i64 0))
          rw [← e1] at hr
          exact runs_value rfl hr ⟨rfl, Below.refl _ _⟩
        | 15, _ =>
          obtain rfl := Option.some.inj ho
          have e1 : b.tmps.getD 32 undef = .bool false := hd 9 (by kernel_rfl) (by decide)
          have e2 : b.tmps.getD 37 undef = .bool false := hd 14 (by kernel_rfl) (by decide)
          exact runs_pick rfl false e1 ⟨e2, Below.refl _ _⟩
        | 16, _ =>
          obtain rfl := Option.some.inj ho
          exact ⟨hd 15 (by kernel_rfl) (by decide), Below.refl _ _⟩
        | 17, _ =>
          obtain rfl := Option.some.inj ho
          refine ⟨false, hd 16 (by kernel_rfl) (by decide), fun _ => ?_, fun h => absurd rfl h⟩
          exact ⟨hx 4 rfl, Below.refl _ _⟩
        | 18, _ =>
          obtain rfl := Option.some.inj ho
          refine ⟨false, hd 16 (by kernel_rfl) (by decide), fun _ => ?_, fun h => absurd rfl h⟩
          exact ⟨hx 6 rfl, Below.refl _ _⟩
        | 19, _ =>
          obtain rfl := Option.some.inj ho
          refine ⟨false, hd 16 (by kernel_rfl) (by decide), fun _ => ?_, fun h => absurd rfl h⟩
          have e1 : b.tmps.getD 40 undef = .slice (some ⟨Va, 0, none⟩) 68 68 := hd 17 (by kernel_rfl) (by decide)
          have e2 : b.tmps.getD 41 undef = .int .i64 k := hd 18 (by kernel_rfl) (by decide)
          have hr := run_atc w' Va k 68 hlt
          rw [← e1, ← e2] at hr
          exact runs_value rfl hr ⟨rfl, Below.refl _ _⟩
        | 20, _ =>
          obtain rfl := Option.some.inj ho
          refine ⟨false, hd 16 (by kernel_rfl) (by decide), fun _ => ?_, fun h => absurd rfl h⟩
          have e1 : b.tmps.getD 42 undef = .pointer (some ⟨Va, k, none⟩) := hd 19 (by kernel_rfl) (by decide)
          have hr := run_get w' Va k p ((K.out.1.below hb K.out.1.lt).cell k _ HP.out)
          rw [← e1] at hr
          exact runs_value rfl hr ⟨rfl, Below.refl _ _⟩
        | 21, _ =>
          obtain rfl := Option.some.inj ho
          refine ⟨false, hd 16 (by kernel_rfl) (by decide), fun _ => ?_, fun h => absurd rfl h⟩
          have e1 : b.tmps.getD 43 undef = .int .i64 p := hd 20 (by kernel_rfl) (by decide)
          have hr := run_gtr_three w' p hp3 (.tmp 43) (.const (.int .i64 3))
          rw [← e1] at hr
          exact runs_value rfl hr ⟨rfl, Below.refl _ _⟩
        | n + 22, h => exact absurd h (by simp)
      · intro vals w5 hb5 hf5
        have e16 : vals 16 = .bool false := hf5 16 (by decide)
        have e21 : vals 21 = .bool false := hf5 21 (by decide)
        simp only [puts, List.length_cons, List.length_nil, Nat.zero_add, Nat.reduceAdd, List.drop_succ_cons, List.drop_zero, e16, e21]
        have K5 := Lib.hid (And.intro (K.out.1.below hb5 K.out.1.lt) (And.intro ((K.out.2.1.below hb5).more hb5.size) (K.out.2.2.trans (hb5.mono K.out.2.2.size))))
        clear e16 e21 hb5 hf5 K
        go_frame
        go_wp2_with fail
        exact ⟨⟨k + 1, by omega, by go_num, K5.out⟩, by simp [intOf]; omega⟩
    · have ik : (68 : Int) ≤ k := by omega
      have K := Lib.hid hK.2.2
      clear hK
      go_wp2_with fail
      go_ret
      exact ⟨rfl, K.out⟩
end Go.Proofs.YtkelfcgomeojeaaDoor
end

