import Derived.Test.YtcejokbbiinbkaaDoorJDrawH

section
/- The examples of the chapter hold (lives). -/

namespace Go.Proofs.YtcejokbbiinbkaaDoor
open Go.RowKit
set_option linter.unusedVariables false
set_option maxRecDepth 100000

theorem limN_one : limN 1 = 281474976710656 := by decide
theorem first_one (s : ByteArray) (p : List Int) : First s p 1 0 := ⟨by rw [limN_one]; exact wordN_lt _ _ _, fun j h => absurd h (Nat.not_lt_zero _)⟩
theorem word_t3 : wordN { data := #[116] } [3] 0 < 281474976710655 := by
  have h : decide (wordN { data := #[116] } [3] 0 < 281474976710655) = true := by kernel_rfl
  exact of_decide_eq_true h
theorem first_t3 : First { data := #[116] } [3] 5 0 := ⟨by rw [show limN 5 = 281474976710655 from by decide]; exact word_t3, fun j h => absurd h (Nat.not_lt_zero _)⟩
theorem zeros9 : okDraw { data := #[115] } (List.replicate 9 0) = false := by decide

theorem lNum1 (w : World) (hT : HTab w) : Calls Tryd.prog 18 #[.string { data := #[115] }, .slice (some ⟨w.heap.size, 0, none⟩) 2 2, .int .i64 1] (w.alloc (.cells #[.int .i64 1, .int .i64 2] 3))
    fun e w' => e = .returned (.tuple #[.int .i64 0, .int .i64 0]) ∧ Below w.heap.size w w' := by
  have h := num_at { data := #[115] } (some ⟨w.heap.size, 0, none⟩) 2 [1, 2] 1 0 _ (rd_new w ([1, 2].map iv) 3) (by decide) (by decide) (by decide) (by decide) (by intro n hn; simp at hn; rcases hn with rfl | rfl <;> (constructor <;> decide)) (hT.below ((Below.refl _ _).alloc (Nat.le_refl _) _) (Nat.le_refl _)) (by decide) (by decide) (by decide) (first_one _ _)
  rw [Nat.mod_one] at h
  exact h.mono fun e w' h => ⟨h.1, behind1 h.2 (by simp)⟩
theorem lBetween (w : World) (hT : HTab w) : Calls Tryd.prog 21 #[.string { data := #[115] }, .slice none 0 0, .int .i64 7, .int .i64 7] w
    fun e w' => e = .returned (.tuple #[.int .i64 7, .int .i64 0]) ∧ Below w.heap.size w w' := by
  have h := between_at { data := #[115] } none 0 [] 7 7 1 0 w Rd.nil (by decide) (by decide) (by decide) (by decide) (by intro n hn; cases hn) hT (by decide) (by decide) (by decide) (by decide) (by decide) (by decide) (first_one _ _)
  rw [Nat.mod_one] at h
  exact h
theorem lPick (w : World) (hT : HTab w) : Calls Tryd.prog 23 #[.string { data := #[116] }, .slice (some ⟨w.heap.size, 0, none⟩) 1 1, .slice (some ⟨w.heap.size + 1, 0, none⟩) 3 3] ((w.alloc (.cells #[.int .i64 3] 3)).alloc (.cells #[.int .i64 0, .int .i64 5, .int .i64 0] 3))
    fun e w' => e = .returned (.tuple #[.int .i64 1, .int .i64 0]) ∧ Below w.heap.size w w' := by
  have hb : Below w.heap.size w ((w.alloc (.cells #[.int .i64 3] 3)).alloc (.cells #[.int .i64 0, .int .i64 5, .int .i64 0] 3)) := ((Below.refl _ _).alloc (Nat.le_refl _) _).alloc (by simp) _
  have hr2 := rd_new (w.alloc (.cells #[.int .i64 3] 3)) ([0, 5, 0].map iv) 3
  rw [show (w.alloc (.cells #[.int .i64 3] 3)).heap.size = w.heap.size + 1 by simp] at hr2
  have hlt : wordN { data := #[116] } [3] 0 % 5 < 5 := Nat.mod_lt _ (by decide)
  have h := pick_at { data := #[116] } (some ⟨w.heap.size, 0, none⟩) 1 [3] (some ⟨w.heap.size + 1, 0, none⟩) 3 [0, 5, 0] 5 0 1 _ (rd_alloc_new w ([3].map iv) 3 _) (by decide) (by decide) (by decide) (by decide) (by intro n hn; simp at hn; subst hn; constructor <;> decide) (hT.below hb (Nat.le_refl _)) hr2 (by decide)
    ⟨by decide, by intro x hx; simp at hx; rcases hx with rfl | rfl | rfl <;> decide⟩ (by decide) (by decide) (by decide) first_t3 (by decide) (by intro j hj; obtain rfl : j = 0 := (by omega); show (0 : Int) ≤ _; exact Int.natCast_nonneg _) (by show _ < (5 : Int); exact Int.ofNat_lt.2 hlt)
  exact h.mono fun e w' h => ⟨h.1, hb.trans (h.2.mono hb.size)⟩
theorem lCoin0 (w : World) (hT : HTab w) : Calls Tryd.prog 26 #[.string { data := #[116] }, .slice (some ⟨w.heap.size, 0, none⟩) 1 1, .agg #[.int .i64 0, .int .i64 0]] (w.alloc (.cells #[.int .i64 4] 3))
    fun e w' => e = .returned (.tuple #[.bool false, .int .i64 0]) ∧ Below w.heap.size w w' := by
  have h := coin_at { data := #[116] } (some ⟨w.heap.size, 0, none⟩) 1 [4] 0 0 1 0 _ (rd_new w ([4].map iv) 3) (by decide) (by decide) (by decide) (by decide) (by intro n hn; simp at hn; subst hn; constructor <;> decide) (hT.below ((Below.refl _ _).alloc (Nat.le_refl _) _) (Nat.le_refl _))
    (by constructor <;> decide) (by constructor <;> decide) (by decide) (by decide +kernel) (by decide +kernel) rfl (by decide) (by decide) (by decide) (first_one _ _)
  rw [Nat.mod_one] at h
  exact h.mono fun e w' h => ⟨h.1, behind1 h.2 (by simp)⟩
theorem lCoin1 (w : World) (hT : HTab w) : Calls Tryd.prog 26 #[.string { data := #[116] }, .slice (some ⟨w.heap.size, 0, none⟩) 1 1, .agg #[.int .i64 1, .int .i64 1]] (w.alloc (.cells #[.int .i64 4] 3))
    fun e w' => e = .returned (.tuple #[.bool true, .int .i64 0]) ∧ Below w.heap.size w w' := by
  have h := coin_at { data := #[116] } (some ⟨w.heap.size, 0, none⟩) 1 [4] 1 1 1 0 _ (rd_new w ([4].map iv) 3) (by decide) (by decide) (by decide) (by decide) (by intro n hn; simp at hn; subst hn; constructor <;> decide) (hT.below ((Below.refl _ _).alloc (Nat.le_refl _) _) (Nat.le_refl _))
    (by constructor <;> decide) (by constructor <;> decide) (by decide) (by decide +kernel) (by decide +kernel) rfl (by decide) (by decide) (by decide) (first_one _ _)
  rw [Nat.mod_one] at h
  exact h.mono fun e w' h => ⟨h.1, behind1 h.2 (by simp)⟩
theorem lNum9 (A : Option Addr) (w : World) : Calls Tryd.prog 18 #[.string { data := #[115] }, .slice A 9 9, .int .i64 5] w
    fun e w' => e = .returned (.tuple #[.int .i64 0, .int .i64 1]) ∧ Below w.heap.size w w' :=
  num_bad { data := #[115] } A 9 (List.replicate 9 0) 5 w (by decide) (by decide) (.inl zeros9)
theorem lNum0 (w : World) : Calls Tryd.prog 18 #[.string { data := #[115] }, .slice none 0 0, .int .i64 0] w
    fun e w' => e = .returned (.tuple #[.int .i64 0, .int .i64 5]) ∧ Below w.heap.size w w' :=
  num_bad { data := #[115] } none 0 [] 0 w (by decide) (by decide) (.inr (by decide))

set_option maxHeartbeats 4000000 in
theorem lives_any (w : World) (hT : HTab w) : Calls Tryd.prog 15 #[] w (Tells true w) := by
  have HT := Lib.hid hT
  clear hT
  go_enter Tryd.func15, Tryd.ntmps15
  go_wp2_with fail
  refine (lNum1 w HT.out).mono ?_
  rintro e w1 ⟨rfl, b1⟩
  have B1 := Lib.hid b1
  clear b1
  go_wp2_with fail
  refine (lBetween w1 (HT.out.below B1.out (Nat.le_refl _))).mono ?_
  rintro e w2 ⟨rfl, b2⟩
  have B2 := Lib.hid (B1.out.trans (b2.mono B1.out.size))
  clear b2 B1
  go_wp2_with fail
  refine (lPick w2 (HT.out.below B2.out (Nat.le_refl _))).mono ?_
  rintro e w3 ⟨rfl, b3⟩
  have B3 := Lib.hid (B2.out.trans (b3.mono B2.out.size))
  clear b3 B2
  go_wp2_with fail
  refine (lCoin0 w3 (HT.out.below B3.out (Nat.le_refl _))).mono ?_
  rintro e w4 ⟨rfl, b4⟩
  have B4 := Lib.hid (B3.out.trans (b4.mono B3.out.size))
  clear b4 B3
  go_wp2_with fail
  refine (lCoin1 w4 (HT.out.below B4.out (Nat.le_refl _))).mono ?_
  rintro e w5 ⟨rfl, b5⟩
  have B5 := Lib.hid (B4.out.trans (b5.mono B4.out.size))
  clear b5 B4
  obtain ⟨i0, hi, hz0, hz1, hz2⟩ := info_parts info_i64
  have hmk := run_makeSlice (P := Tryd.prog) w5 22 3 i0 (.int .i64 0) Tryd.underlying22 hi hz0 .i64 .i64 9 9 (by decide) (by decide) (by rw [hz1]; decide) (by rw [hz2]; decide) (by decide)
  obtain ⟨M, hM⟩ : ∃ M, M = madeCells (Value.int .i64 0).cells ((9 : Int).toNat * i0.size) := ⟨_, rfl⟩
  rw [← hM] at hmk
  have b5' : Below w.heap.size w (w5.alloc (.cells M 3)) := B5.out.alloc B5.out.size _
  have B5' := Lib.hid b5'
  clear hM hi hz0 hz1 hz2 b5'
  go_wp2_with fail
  refine (lNum9 _ _).mono ?_
  rintro e w6 ⟨rfl, b6⟩
  have B6 := Lib.hid (B5'.out.trans (b6.mono B5'.out.size))
  clear b6 B5' B5 hmk
  go_wp2_with fail
  refine (lNum0 _).mono ?_
  rintro e w7 ⟨rfl, b7⟩
  have B7 := Lib.hid (B6.out.trans (b7.mono B6.out.size))
  clear b7 B6
  go_wp2_with fail
  go_ret
  exact ⟨rfl, B7.out⟩
end Go.Proofs.YtcejokbbiinbkaaDoor
end

