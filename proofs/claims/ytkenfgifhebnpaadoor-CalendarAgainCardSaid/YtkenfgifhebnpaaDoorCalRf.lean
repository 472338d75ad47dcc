/- The contract of the reference's Parse. (gen_cal.py writes this text.) -/
import Derived.Test.YtkenfgifhebnpaaDoorCalRe
namespace Go.Proofs.YtkenfgifhebnpaaDoor
open Go.RowKit
set_option linter.unusedVariables false
set_option maxRecDepth 100000

theorem run_ext0 (w : World) (a e : Int) : (Instr.extract (.tuple #[.int .i64 a, .int .i64 e]) 0).run Tryd.prog w = .ok (.int .i64 a) w := by go_simp
theorem run_ext1 (w : World) (a e : Int) : (Instr.extract (.tuple #[.int .i64 a, .int .i64 e]) 1).run Tryd.prog w = .ok (.int .i64 e) w := by go_simp
theorem ext_sb (s : ByteArray) (i j : Nat) : s.extract i j = bs (((sb s).drop i).take (j - i)) := by
  rw [← bs_sb (s.extract i j)]
  congr 1
  simp [sb, List.extract_eq_take_drop]
/-- What the reference reads; the error. -/
def readV (l : List UInt8) : Int := if l.length = 10 ∧ l.getD 4 0 = 45 ∧ l.getD 7 0 = 45 then (if Cal.okD (numb (l.take 4)) (numb ((l.drop 5).take 2)) (numb ((l.drop 8).take 2)) then Cal.dayV (numb (l.take 4)) (numb ((l.drop 5).take 2)) (numb ((l.drop 8).take 2)) else 0) else 0
def readE (l : List UInt8) : Int := if l.length = 10 ∧ l.getD 4 0 = 45 ∧ l.getD 7 0 = 45 then (if Cal.okD (numb (l.take 4)) (numb ((l.drop 5).take 2)) (numb ((l.drop 8).take 2)) then 0 else 2) else 2

set_option maxHeartbeats 4000000 in
theorem refParse_any (s : ByteArray) (w : World) : Calls Tryd.prog 23 #[.string s] w fun e w' => e = .returned (.tuple #[.int .i64 (readV (sb s)), .int .i64 (readE (sb s))]) ∧ Below w.heap.size w w' := by
  obtain ⟨RV, hRV⟩ : ∃ V, V = readV (sb s) := ⟨_, rfl⟩
  obtain ⟨RE, hRE⟩ : ∃ E, E = readE (sb s) := ⟨_, rfl⟩
  rw [← hRV, ← hRE]
  unfold readV at hRV
  unfold readE at hRE
  by_cases hs : s.size = 10
  · have a4 := sbAt s 4 (by omega)
    have a7 := sbAt s 7 (by omega)
    have hl : (sb s).length = 10 := by rw [sb_len]; exact hs
    rw [a4, a7, hl] at hRV hRE
    have s4 : (4 : Int) < s.size := by omega
    have s7 : (7 : Int) < s.size := by omega
    have n4 : 4 < s.size := by omega
    have n7 : 7 < s.size := by omega
    by_cases x4 : ((s[4]'(by omega)).toNat : Int) = 45
    · by_cases x7 : ((s[7]'(by omega)).toNat : Int) = 45
      · have e4 : s[4]'(by omega) = 45 := UInt8.toNat_inj.1 (by show _ = 45; omega)
        have e7 : s[7]'(by omega) = 45 := UInt8.toNat_inj.1 (by show _ = 45; omega)
        rw [if_pos ⟨rfl, e4, e7⟩] at hRV hRE
        obtain ⟨p1, hp1⟩ : ∃ p, p = s.extract 0 4 := ⟨_, rfl⟩
        obtain ⟨p2, hp2⟩ : ∃ p, p = s.extract 5 7 := ⟨_, rfl⟩
        obtain ⟨p3, hp3⟩ : ∃ p, p = s.extract 8 s.size := ⟨_, rfl⟩
        have q1 : sb p1 = (sb s).take 4 := by rw [hp1, ext_sb, sb_bs]; simp
        have q2 : sb p2 = ((sb s).drop 5).take 2 := by rw [hp2, ext_sb, sb_bs]
        have q3 : sb p3 = ((sb s).drop 8).take 2 := by rw [hp3, ext_sb, sb_bs, hs]
        rw [← q1, ← q2, ← q3] at hRV hRE
        have z1 : p1.size ≤ 12 := by rw [← sb_len, q1, List.length_take]; omega
        have z2 : p2.size ≤ 12 := by rw [← sb_len, q2, List.length_take]; omega
        have z3 : p3.size ≤ 12 := by rw [← sb_len, q3, List.length_take]; omega
        have c1 := fun W => number_any p1 W z1
        have c2 := fun W => number_any p2 W z2
        have c3 := fun W => number_any p3 W z3
        generalize numb (sb p1) = y at *
        generalize numb (sb p2) = m at *
        generalize numb (sb p3) = d at *
        have r1 : ∀ W : World, (Instr.sliceAt 9 (.string s) none (some (.int .i64 4)) none).run Tryd.prog W = .ok (.string p1) W := by
          intro W; rw [hp1]
          have h1 : (4 : Int) ≤ s.size := by omega
          go_simp
        have r2 : ∀ W : World, (Instr.sliceAt 9 (.string s) (some (.int .i64 5)) (some (.int .i64 7)) none).run Tryd.prog W = .ok (.string p2) W := by
          intro W; rw [hp2]
          have h1 : (7 : Int) ≤ s.size := by omega
          go_simp
        have r3 : ∀ W : World, (Instr.sliceAt 9 (.string s) (some (.int .i64 8)) none none).run Tryd.prog W = .ok (.string p3) W := by
          intro W; rw [hp3]
          have h1 : (8 : Int) ≤ s.size := by omega
          go_simp
        have cd := fun W => refDay_any y m d W
        obtain ⟨V, hV⟩ : ∃ V, V = Cal.dayV y m d := ⟨_, rfl⟩
        obtain ⟨E, hE⟩ : ∃ E, E = Cal.dayE y m d := ⟨_, rfl⟩
        rw [← hV, ← hE] at cd
        have hres : (E = 0 ∧ RV = V ∧ RE = 0) ∨ (E = 5 ∧ RV = 0 ∧ RE = 2) := by
          by_cases ho : Cal.okD y m d
          · rw [if_pos ho] at hRV hRE
            exact .inl ⟨by rw [hE]; exact if_pos ho, by rw [hRV, hV], hRE⟩
          · rw [if_neg ho] at hRV hRE
            exact .inr ⟨by rw [hE]; exact if_neg ho, hRV, hRE⟩
        have HP := Lib.hid (And.intro r1 (And.intro r2 r3))
        have C1 := Lib.hid c1
        have C2 := Lib.hid c2
        have C3 := Lib.hid c3
        have CD := Lib.hid cd
        have HR := Lib.hid hres
        clear hres cd c1 c2 c3 r1 r2 r3 hV hE hRV hRE hp1 hp2 hp3 q1 q2 q3 z1 z2 z3 e4 e7 a4 a7 hl
        go_enter Tryd.func23, Tryd.ntmps23
        go_wp2_with fail
        try go_frame
        refine wp_region_list [18, 19, 20, 21, 22, 23, 24, 25, 26, 27, 17, 28, 29, 4] [.is (.string s), .is (.string p1), .is (.int .i64 y), .is (.string s), .is (.string p2), .is (.int .i64 m), .is (.string s), .is (.string p3), .is (.int .i64 d), .is (.tuple #[.int .i64 V, .int .i64 E]), .is (.tuple #[.int .i64 V, .int .i64 E]), .is (.int .i64 V), .is (.int .i64 E), .is (.int .i64 V)] (by kernel_rfl) (by kernel_rfl) ?_ ?_
        · intro y0 hy0 b w' hb hd hx o ho
          match y0, hy0 with
          | 0, _ => obtain rfl := Option.some.inj ho; exact ⟨hx 0 rfl, Below.refl _ _⟩
          | 1, _ =>
            obtain rfl := Option.some.inj ho
            have e0 : b.tmps.getD 18 undef = .string s := hd 0 (by kernel_rfl) (by decide)
            have hr := (HP.out.1 w')
            rw [← e0] at hr
            exact runs_value rfl hr ⟨rfl, Below.refl _ _⟩
          | 2, _ =>
            obtain rfl := Option.some.inj ho
            have e0 : b.tmps.getD 19 undef = .string p1 := hd 1 (by kernel_rfl) (by decide)
            refine runs_call rfl (fun _ _ => rfl) ?_
            show Calls _ _ #[b.tmps.getD 19 undef] w' _
            rw [e0]
            exact (C1.out w').mono fun e w'' h => ⟨_, h.1, rfl, by rw [h.2]; exact Below.refl _ _⟩
          | 3, _ => obtain rfl := Option.some.inj ho; exact ⟨hx 0 rfl, Below.refl _ _⟩
          | 4, _ =>
            obtain rfl := Option.some.inj ho
            have e0 : b.tmps.getD 21 undef = .string s := hd 3 (by kernel_rfl) (by decide)
            have hr := (HP.out.2.1 w')
            rw [← e0] at hr
            exact runs_value rfl hr ⟨rfl, Below.refl _ _⟩
          | 5, _ =>
            obtain rfl := Option.some.inj ho
            have e0 : b.tmps.getD 22 undef = .string p2 := hd 4 (by kernel_rfl) (by decide)
            refine runs_call rfl (fun _ _ => rfl) ?_
            show Calls _ _ #[b.tmps.getD 22 undef] w' _
            rw [e0]
            exact (C2.out w').mono fun e w'' h => ⟨_, h.1, rfl, by rw [h.2]; exact Below.refl _ _⟩
          | 6, _ => obtain rfl := Option.some.inj ho; exact ⟨hx 0 rfl, Below.refl _ _⟩
          | 7, _ =>
            obtain rfl := Option.some.inj ho
            have e0 : b.tmps.getD 24 undef = .string s := hd 6 (by kernel_rfl) (by decide)
            have hr := (HP.out.2.2 w')
            rw [← e0] at hr
            exact runs_value rfl hr ⟨rfl, Below.refl _ _⟩
          | 8, _ =>
            obtain rfl := Option.some.inj ho
            have e0 : b.tmps.getD 25 undef = .string p3 := hd 7 (by kernel_rfl) (by decide)
            refine runs_call rfl (fun _ _ => rfl) ?_
            show Calls _ _ #[b.tmps.getD 25 undef] w' _
            rw [e0]
            exact (C3.out w').mono fun e w'' h => ⟨_, h.1, rfl, by rw [h.2]; exact Below.refl _ _⟩
          | 9, _ =>
            obtain rfl := Option.some.inj ho
            have e0 : b.tmps.getD 20 undef = .int .i64 y := hd 2 (by kernel_rfl) (by decide)
            have e1 : b.tmps.getD 23 undef = .int .i64 m := hd 5 (by kernel_rfl) (by decide)
            have e2 : b.tmps.getD 26 undef = .int .i64 d := hd 8 (by kernel_rfl) (by decide)
            refine runs_call rfl (fun _ _ => rfl) ?_
            show Calls _ _ #[b.tmps.getD 20 undef, b.tmps.getD 23 undef, b.tmps.getD 26 undef] w' _
            rw [e0, e1, e2]
            exact (CD.out w').mono fun e w'' h => ⟨_, h.1, rfl, by rw [h.2]; exact Below.refl _ _⟩
          | 10, _ => obtain rfl := Option.some.inj ho; exact ⟨hd 9 (by kernel_rfl) (by decide), Below.refl _ _⟩
          | 11, _ =>
            obtain rfl := Option.some.inj ho
            have e0 : b.tmps.getD 17 undef = .tuple #[.int .i64 V, .int .i64 E] := hd 10 (by kernel_rfl) (by decide)
            have hr := run_ext0 w' V E
            rw [← e0] at hr
            exact runs_value rfl hr ⟨rfl, Below.refl _ _⟩
          | 12, _ =>
            obtain rfl := Option.some.inj ho
            have e0 : b.tmps.getD 17 undef = .tuple #[.int .i64 V, .int .i64 E] := hd 10 (by kernel_rfl) (by decide)
            have hr := run_ext1 w' V E
            rw [← e0] at hr
            exact runs_value rfl hr ⟨rfl, Below.refl _ _⟩
          | 13, _ => obtain rfl := Option.some.inj ho; exact ⟨hd 11 (by kernel_rfl) (by decide), Below.refl _ _⟩
          | n + 14, h => exact absurd h (by simp)
        intro vals w9 hb9 hf9
        have v11 : vals 12 = .int .i64 E := hf9 12 (by decide)
        have v12 : vals 13 = .int .i64 V := hf9 13 (by decide)
        simp only [puts, List.length_cons, List.length_nil, Nat.zero_add, Nat.reduceAdd, List.drop_succ_cons, List.drop_zero, v11, v12]
        have HB := Lib.hid hb9
        clear v11 v12 hb9 hf9
        try go_frame
        rcases HR.out with ⟨rfl, rfl, rfl⟩ | ⟨rfl, rfl, rfl⟩
        · go_wp2_with fail
          go_ret2
          exact ⟨rfl, HB.out⟩
        · go_wp2_with fail
          go_ret2
          exact ⟨rfl, HB.out⟩
      · have e7 : ¬ s[7]'(by omega) = 45 := fun h => x7 (by rw [h]; rfl)
        rw [if_neg (fun h => e7 h.2.2)] at hRV hRE
        subst hRV hRE
        clear a4 a7 hl e7
        have b7 : ¬ (s[7]'(by omega)).toNat = 45 := by omega
        go_enter Tryd.func23, Tryd.ntmps23
        go_wp2_with fail
        go_ret2
        exact ⟨rfl, Below.refl _ _⟩
    · have e4 : ¬ s[4]'(by omega) = 45 := fun h => x4 (by rw [h]; rfl)
      rw [if_neg (fun h => e4 h.2.1)] at hRV hRE
      subst hRV hRE
      clear a4 a7 hl e4
      have b4 : ¬ (s[4]'(by omega)).toNat = 45 := by omega
      go_enter Tryd.func23, Tryd.ntmps23
      go_wp2_with fail
      go_ret2
      exact ⟨rfl, Below.refl _ _⟩
  · rw [if_neg (fun h => hs (by rw [← sb_len]; exact h.1))] at hRV hRE
    subst hRV hRE
    have hi : ¬ (s.size : Int) = 10 := by omega
    go_enter Tryd.func23, Tryd.ntmps23
    go_wp2_with fail
    go_ret2
    exact ⟨rfl, Below.refl _ _⟩
end Go.Proofs.YtkenfgifhebnpaaDoor
