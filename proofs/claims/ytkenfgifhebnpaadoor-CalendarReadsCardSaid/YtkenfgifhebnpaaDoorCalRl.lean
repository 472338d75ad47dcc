/- The contract of the reference's Some. -/
import Derived.Test.YtkenfgifhebnpaaDoorCalRc
import Derived.Test.YtkenfgifhebnpaaDoorAround
namespace Go.Proofs.YtkenfgifhebnpaaDoor
open Go.RowKit
set_option linter.unusedVariables false
set_option maxRecDepth 100000

/-- A known day, made of a number. -/
def edge : Nat → Int
  | 0 => -146097
  | 1 => 146096
  | 2 => 0
  | 3 => -1
  | 4 => -146096
  | _ => 146095
def someD (n : Int) : Int :=
  if around n 6 = 0 then Cal.dayV (1600 + around (n.tdiv 6) 800) 3 1 - 1 + around (n.tdiv 4800) 2
  else if around n 6 = 1 then Cal.dayV (1601 + around (n.tdiv 6) 799) 1 1 - 1 + around (n.tdiv 4800) 2
  else if around n 6 = 2 then edge (around (n.tdiv 6) 6).toNat
  else around n 292194 - 146097
theorem okD_first {y m : Int} (h1 : 1600 ≤ y) (h2 : y ≤ 2399) (h3 : 1 ≤ m) (h4 : m ≤ 12) : Cal.okD y m 1 := by
  have := Cal.md_pos y.toNat m.toNat
  unfold Cal.okD; omega
theorem first_low {y m : Int} (h1 : 1600 ≤ y) (h2 : y ≤ 2399) (h3 : 1 ≤ m) (h4 : m ≤ 12) (h : 1601 ≤ y ∨ 2 ≤ m) : -146097 ≤ Cal.dayV y m 1 - 1 ∧ Cal.dayV y m 1 ≤ 146095 + 1 := by
  have hk := (Cal.okD_civ (okD_first h1 h2 h3 h4)).2
  have e : Cal.dayV y m 1 = -146097 + (Cal.yb y.toNat : Int) + (Cal.mb y.toNat m.toNat : Int) + 1 - 1 := if_pos (okD_first h1 h2 h3 h4)
  unfold Cal.known at hk
  have hpos : 1 ≤ Cal.yb y.toNat + Cal.mb y.toNat m.toNat := by
    rcases h with h | h
    · have h5 := Cal.yb_mono (i := 1601) (j := y.toNat) (by omega)
      have h6 : Cal.yb 1601 = Cal.yb 1600 + Cal.yd 1600 := Cal.yb_next (by omega)
      have h7 := Cal.yd_two 1600
      omega
    · have h5 := Cal.mb_mono y.toNat (i := 2) (j := m.toNat) (by omega)
      have h6 : Cal.mb y.toNat 2 = Cal.mb y.toNat 1 + Cal.md y.toNat 1 := Cal.mb_next _ (by omega)
      have h7 := Cal.md_pos y.toNat 1
      omega
  omega
theorem someD_known (n : Int) : Cal.known (someD n) := by
  have a1 := around_lt n 292194 (by decide)
  have a2 := around_lt (n.tdiv 6) 800 (by decide)
  have a3 := around_lt (n.tdiv 6) 799 (by decide)
  have a4 := around_lt (n.tdiv 4800) 2 (by decide)
  have f1 := first_low (y := 1600 + around (n.tdiv 6) 800) (m := 3) (by omega) (by omega) (by decide) (by decide) (.inr (by decide))
  have f2 := first_low (y := 1601 + around (n.tdiv 6) 799) (m := 1) (by omega) (by omega) (by decide) (by decide) (.inl (by omega))
  unfold someD Cal.known
  split
  · omega
  · split
    · omega
    · split
      · unfold edge; split <;> decide
      · omega

set_option maxHeartbeats 8000000 in
theorem some_any (n : Int) (w : World) (hn : M.I64 n) : Calls Tryd.prog 10 #[.int .i64 n] w fun e w' => e = .returned (.int .i64 (someD n)) ∧ Below w.heap.size w w' := by
  obtain ⟨R, hR⟩ : ∃ R, R = someD n := ⟨_, rfl⟩
  rw [← hR]
  unfold someD at hR
  have hq6 : M.I64 (n.tdiv 6) := by
    have h1 : (n.tdiv 6).natAbs = n.natAbs / 6 := by rw [Int.natAbs_tdiv]; rfl
    unfold M.I64 at hn ⊢; omega
  have hq48 : M.I64 (n.tdiv 4800) := by
    have h1 : (n.tdiv 4800).natAbs = n.natAbs / 4800 := by rw [Int.natAbs_tdiv]; rfl
    unfold M.I64 at hn ⊢; omega
  have c0 := fun W => around_any n 292194 W hn (by constructor <;> decide)
  have c6 := fun W => around_any n 6 W hn (by constructor <;> decide)
  have a1 := around_lt n 292194 (by decide)
  have a6 := around_lt n 6 (by decide)
  have a2 := around_lt (n.tdiv 6) 800 (by decide)
  have a3 := around_lt (n.tdiv 6) 799 (by decide)
  have a4 := around_lt (n.tdiv 4800) 2 (by decide)
  have a5 := around_lt (n.tdiv 6) 6 (by decide)
  have q800 := fun W => around_any (n.tdiv 6) 800 W hq6 (by constructor <;> decide)
  have q799 := fun W => around_any (n.tdiv 6) 799 W hq6 (by constructor <;> decide)
  have q6 := fun W => around_any (n.tdiv 6) 6 W hq6 (by constructor <;> decide)
  have q2 := fun W => around_any (n.tdiv 4800) 2 W hq48 (by constructor <;> decide)
  have w6 : wrap64 (n.tdiv 6) = n.tdiv 6 := by unfold M.I64 at hq6; unfold wrap64; omega
  have w48 : wrap64 (n.tdiv 4800) = n.tdiv 4800 := by unfold M.I64 at hq48; unfold wrap64; omega
  have f1 := first_low (y := 1600 + around (n.tdiv 6) 800) (m := 3) (by omega) (by omega) (by decide) (by decide) (.inr (by decide))
  have f2 := first_low (y := 1601 + around (n.tdiv 6) 799) (m := 1) (by omega) (by omega) (by decide) (by decide) (.inl (by omega))
  have d1 := fun W => refDay_any (1600 + around (n.tdiv 6) 800) 3 1 W
  have d2 := fun W => refDay_any (1601 + around (n.tdiv 6) 799) 1 1 W
  generalize Cal.dayE (1600 + around (n.tdiv 6) 800) 3 1 = E1 at *
  generalize Cal.dayE (1601 + around (n.tdiv 6) 799) 1 1 = E2 at *
  generalize Cal.dayV (1600 + around (n.tdiv 6) 800) 3 1 = V1 at *
  generalize Cal.dayV (1601 + around (n.tdiv 6) 799) 1 1 = V2 at *
  generalize around n 292194 = x0 at *
  generalize around n 6 = c at *
  generalize around (n.tdiv 6) 800 = y1 at *
  generalize around (n.tdiv 6) 799 = y2 at *
  generalize around (n.tdiv 6) 6 = z at *
  generalize around (n.tdiv 4800) 2 = b at *
  have v1 : wrap64 (1600 + y1) = 1600 + y1 := by unfold wrap64; omega
  have v2 : wrap64 (1601 + y2) = 1601 + y2 := by unfold wrap64; omega
  rw [← w6] at q800 q799 q6
  rw [← w48] at q2
  rw [← v1] at d1
  rw [← v2] at d2
  have C0 := Lib.hid c0
  have C6 := Lib.hid c6
  have Q800 := Lib.hid q800
  have Q799 := Lib.hid q799
  have Q6 := Lib.hid q6
  have Q2 := Lib.hid q2
  have D1 := Lib.hid d1
  have D2 := Lib.hid d2
  have HB := Lib.hid (And.intro a1 (And.intro a2 (And.intro a3 (And.intro a4 (And.intro f1 f2)))))
  have HW := Lib.hid (And.intro w6 w48)
  clear c0 c6 q800 q799 q6 q2 d1 d2 a1 a2 a3 a4 f1 f2 hq6 hq48 hn w6 w48 v1 v2
  by_cases k0 : c = 0
  · subst k0
    rw [if_pos rfl] at hR
    have HR := Lib.hid hR
    clear hR a6 a5
    go_enter Tryd.func10, Tryd.ntmps10
    go_wp2_with fail
    refine (C0.out _).mono ?_
    rintro e w' ⟨rfl, hw'⟩
    obtain rfl := hw'.symm
    go_wp2_with fail
    refine (C6.out _).mono ?_
    rintro e w' ⟨rfl, hw'⟩
    obtain rfl := hw'.symm
    go_wp2_with fail
    refine (Q800.out _).mono ?_
    rintro e w' ⟨rfl, hw'⟩
    obtain rfl := hw'.symm
    go_wp2_with fail
    refine (D1.out _).mono ?_
    rintro e w' ⟨rfl, hw'⟩
    obtain rfl := hw'.symm
    go_wp2_with fail
    refine (Q2.out _).mono ?_
    rintro e w' ⟨rfl, hw'⟩
    obtain rfl := hw'.symm
    go_wp2_with fail
    go_ret
    exact ⟨by rw [HR.out]; show Ending.returned (.int .i64 (wrap64 (wrap64 (V1 - 1) + b))) = _; congr 2; have := HB.out; unfold wrap64; omega, Below.refl _ _⟩
  · rw [if_neg k0] at hR
    have b0 : (c == 0) = false := beq_eq_false_iff_ne.2 k0
    by_cases k1 : c = 1
    · subst k1
      rw [if_pos rfl] at hR
      have HR := Lib.hid hR
      clear hR a6 a5 k0 b0
      go_enter Tryd.func10, Tryd.ntmps10
      go_wp2_with fail
      refine (C0.out _).mono ?_
      rintro e w' ⟨rfl, hw'⟩
      obtain rfl := hw'.symm
      go_wp2_with fail
      refine (C6.out _).mono ?_
      rintro e w' ⟨rfl, hw'⟩
      obtain rfl := hw'.symm
      go_wp2_with fail
      refine (Q799.out _).mono ?_
      rintro e w' ⟨rfl, hw'⟩
      obtain rfl := hw'.symm
      go_wp2_with fail
      refine (D2.out _).mono ?_
      rintro e w' ⟨rfl, hw'⟩
      obtain rfl := hw'.symm
      go_wp2_with fail
      refine (Q2.out _).mono ?_
      rintro e w' ⟨rfl, hw'⟩
      obtain rfl := hw'.symm
      go_wp2_with fail
      go_ret
      exact ⟨by rw [HR.out]; show Ending.returned (.int .i64 (wrap64 (wrap64 (V2 - 1) + b))) = _; congr 2; have := HB.out; unfold wrap64; omega, Below.refl _ _⟩
    · rw [if_neg k1] at hR
      have b1 : (c == 1) = false := beq_eq_false_iff_ne.2 k1
      by_cases k2 : c = 2
      · subst k2
        rw [if_pos rfl] at hR
        have hz : z = 0 ∨ z = 1 ∨ z = 2 ∨ z = 3 ∨ z = 4 ∨ z = 5 := by omega
        clear a6 a5 k0 b0 k1 b1
        rcases hz with rfl | rfl | rfl | rfl | rfl | rfl
        all_goals
          obtain rfl := hR
          go_enter Tryd.func10, Tryd.ntmps10
          go_wp2_with fail
          refine (C0.out _).mono ?_
          rintro e w' ⟨rfl, hw'⟩
          obtain rfl := hw'.symm
          go_wp2_with fail
          refine (C6.out _).mono ?_
          rintro e w' ⟨rfl, hw'⟩
          obtain rfl := hw'.symm
          go_wp2_with fail
          refine (Q6.out _).mono ?_
          rintro e w' ⟨rfl, hw'⟩
          obtain rfl := hw'.symm
          go_wp2_with fail
          go_ret
          exact ⟨rfl, (Below.refl _ _).alloc (Nat.le_refl _) _⟩
      · rw [if_neg k2] at hR
        have b2 : (c == 2) = false := beq_eq_false_iff_ne.2 k2
        have HR := Lib.hid hR
        clear hR a6 a5 k0 k1 k2
        go_enter Tryd.func10, Tryd.ntmps10
        go_wp2_with fail
        refine (C0.out _).mono ?_
        rintro e w' ⟨rfl, hw'⟩
        obtain rfl := hw'.symm
        go_wp2_with fail
        refine (C6.out _).mono ?_
        rintro e w' ⟨rfl, hw'⟩
        obtain rfl := hw'.symm
        go_wp2_with fail
        go_ret
        exact ⟨by rw [HR.out]; show Ending.returned (.int .i64 (wrap64 (x0 - 146097))) = _; congr 2; have := HB.out; unfold wrap64; omega, Below.refl _ _⟩
end Go.Proofs.YtkenfgifhebnpaaDoor
