/- The contract of ratio.Parse. -/
import Derived.Test.YtbkgigbalnmbkaaDoorRatioPk
namespace Go.Proofs.YtbkgigbalnmbkaaDoor
open Go.RowKit
set_option linter.unusedVariables false
set_option maxRecDepth 100000

/-- What Atoi answers. -/
def ReadsAs (l : List UInt8) (w : World) (e : Ending) (w' : World) : Prop := ∃ v er, e = .returned (.tuple #[.int .i64 v, er]) ∧ ((er = .nilIface ∧ Lib.atoiAll l = .ok v ∧ In64 v) ∨ ((∃ t p, er = .iface t p) ∧ ∀ v, Lib.atoiAll l ≠ .ok v)) ∧ Below w.heap.size w w'
theorem atoi_three (l : List UInt8) : (∃ v, Lib.atoiAll l = .ok v) ∨ Lib.atoiAll l = Lib.NumEnd.syntax ∨ Lib.atoiAll l = .range := by
  cases Lib.atoiAll l <;> simp
theorem atoi_any (l : List UInt8) (w : World) (hl : l.length ≤ 140737488351232) (hD : Door w) : Calls Tryd.prog 42 #[.string (bs l)] w (ReadsAs l w) := by
  have hz : (bs l).size ≤ 140737488351232 := by rw [size_bs]; exact hl
  have e1 : (bs l).data.toList = l := sb_bs l
  obtain ⟨-, ⟨t1, p1, h1⟩, ⟨t2, p2, h2⟩⟩ := hD
  rcases atoi_three l with ⟨v, h⟩ | h | h
  · refine (Tryd.strconv_Atoi_ok (bs l) (by omega) v (by rw [e1]; exact h) w).mono ?_
    rintro e w' ⟨rfl, hw⟩
    refine ⟨v, _, rfl, .inl ⟨rfl, h, Lib.atoiAll_bounds h⟩, ?_⟩
    rcases hw with rfl | ⟨t, rfl⟩
    · exact Below.refl _ _
    · exact Lib.bytesWorld_below _ _ _
  · refine (Tryd.strconv_Atoi_syntax_var (bs l) (by omega) (by rw [e1]; exact h) t1 p1 w h1).mono ?_
    rintro e w' ⟨N, rfl, -, -, hb⟩
    exact ⟨_, _, rfl, .inr ⟨⟨_, _, rfl⟩, fun v hv => by rw [h] at hv; cases hv⟩, hb⟩
  · refine (Tryd.strconv_Atoi_range_var (bs l) (by omega) (by rw [e1]; exact h) t2 p2 w h2).mono ?_
    rintro e w' ⟨N, rfl, -, -, hb⟩
    exact ⟨_, _, rfl, .inr ⟨⟨_, _, rfl⟩, fun v hv => by rw [h] at hv; cases hv⟩, hb⟩

theorem bef_len (l : List UInt8) : (Rt.bef l).length ≤ l.length := by unfold Rt.bef; exact (List.takeWhile_sublist _).length_le
theorem sec_len (l : List UInt8) : (Rt.sec l).length ≤ l.length + 1 := by
  rcases Rt.cut_cases l with ⟨-, -, h⟩ | ⟨i, -, -, -, h⟩
  · rw [h]; simp
  · rw [h, List.length_drop]; omega

theorem bs_beq (l : List UInt8) (s : ByteArray) : ((bs l).toList == s.toList) = decide (l = sb s) := by
  rw [Lib.toList_data, Lib.toList_data, Bool.eq_iff_iff]
  simp only [beq_iff_eq, decide_eq_true_iff]
  rw [show (bs l).data.toList = l from sb_bs l]
  exact Iff.rfl

theorem prs_err1 {l : List UInt8} (h : ∀ v, Lib.atoiAll (Rt.bef l) ≠ .ok v) : Rt.prs l = (0, 0, 2) := by
  unfold Rt.prs
  rcases atoi_three (Rt.bef l) with ⟨v, h1⟩ | h1 | h1
  · exact absurd h1 (h v)
  · rw [h1]
  · rw [h1]
theorem prs_err2 {l : List UInt8} (h : ∀ v, Lib.atoiAll (Rt.sec l) ≠ .ok v) : Rt.prs l = (0, 0, 2) := by
  unfold Rt.prs
  rcases atoi_three (Rt.sec l) with ⟨v, h1⟩ | h1 | h1
  · exact absurd h1 (h v)
  · rw [h1]; cases Lib.atoiAll (Rt.bef l) <;> rfl
  · rw [h1]; cases Lib.atoiAll (Rt.bef l) <;> rfl
theorem prs_two {l : List UInt8} {p q : Int} (h1 : Lib.atoiAll (Rt.bef l) = .ok p) (h2 : Lib.atoiAll (Rt.sec l) = .ok q) : Rt.prs l = if Rt.text p q = l then (p, q, 0) else (0, 0, 2) := by
  unfold Rt.prs; rw [h1, h2]

set_option maxHeartbeats 4000000 in
theorem parse_any (s : ByteArray) (w : World) (hs : s.size ≤ 140737488300000) (hD : Door w) :
    Calls Tryd.prog 21 #[.string s] w (Says (T3 (Rt.prs (sb s))) w) := by
  have hcut := fun W => cut_any s W (by omega)
  have ha1 := fun W (h : Door W) => atoi_any (Rt.bef (sb s)) W (by have := bef_len (sb s); rw [sb_len] at this; omega) h
  have ha2 := fun W (h : Door W) => atoi_any (Rt.sec (sb s)) W (by have := sec_len (sb s); rw [sb_len] at this; omega) h
  obtain ⟨t, ht⟩ : ∃ t, t = Rt.prs (sb s) := ⟨_, rfl⟩
  rw [← ht]
  have HT := Lib.hid ht
  have HC := Lib.hid hcut
  have HA := Lib.hid ha1
  have HB := Lib.hid ha2
  have HD := Lib.hid hD
  clear ht hcut ha1 ha2 hD hs
  go_enter Tryd.func21, Tryd.ntmps21
  go_wp2_with fail
  refine (HC.out _).mono ?_
  rintro e w2 ⟨b, f, rfl, hf, hb⟩
  have k0 := (Blk.new w (Rc 0 0) 23).below hb (by simp)
  have hB : Below w.heap.size w w2 := ((Below.refl _ _).alloc (Nat.le_refl _) _).trans (hb.mono (by simp))
  have L := Lib.hid (And.intro k0 hB)
  have HF := Lib.hid hf
  clear k0 hB hb hf HC
  cases f
  · have hsec : Rt.sec (sb s) = [49] := by
      rcases HF.out with h | h
      · exact h.2
      · exact absurd h.1 (by decide)
    have HB1 : Hid (∀ W, Door W → Calls Tryd.prog 42 #[.string ⟨#[49]⟩] W (ReadsAs (Rt.sec (sb s)) W)) := by
      have h := HB.out
      refine Lib.hid ?_
      intro W hW
      have h2 := h W hW
      rw [hsec] at h2 ⊢
      exact h2
    clear HB HF hsec
    go_wp2_with fail
    refine (HA.out _ (HD.out.below L.out.2 (Nat.le_refl _))).mono ?_
    rintro e w3 ⟨v1, er1, rfl, h1, hb⟩
    have L3 := Lib.hid (And.intro (L.out.1.below hb L.out.1.lt) (L.out.2.trans (hb.mono L.out.2.size)))
    have H1 := Lib.hid h1
    clear L hb h1
    go_wp2_with fail
    refine (HB1.out _ (HD.out.below L3.out.2 (Nat.le_refl _))).mono ?_
    rintro e w4 ⟨v2, er2, rfl, h2, hb⟩
    have L4 := Lib.hid (And.intro (L3.out.1.below hb L3.out.1.lt) (L3.out.2.trans (hb.mono L3.out.2.size)))
    clear L3 hb
    have h1 := H1.out
    clear H1
    obtain ⟨⟨c0, c1⟩, f0, f1⟩ := Rc_facts L4.out.1
    have hlt := L4.out.1.lt
    rcases h1 with ⟨rfl, h1, i1⟩ | ⟨⟨t1, p1, rfl⟩, h1⟩
    · rcases h2 with ⟨rfl, h2, i2⟩ | ⟨⟨t2, p2, rfl⟩, h2⟩
      · have R := Lib.hid (And.intro (prs_two h1 h2) (And.intro i1 i2))
        clear h1 h2 i1 i2
        have hbeq := bs_beq (Rt.text v1 v2) s
        obtain ⟨u, hu⟩ : ∃ u, u = bs (Rt.text v1 v2) := ⟨_, rfl⟩
        rw [← hu] at hbeq
        have HU := Lib.hid hu
        clear hu
        by_cases hE : Rt.text v1 v2 = sb s
        · rw [decide_eq_true hE] at hbeq
          have HE := Lib.hid hE
          clear hE
          go_wp2_with fail
          refine (text_any v1 v2 _ R.out.2.1 R.out.2.2 (HD.out.below (L4.out.2.alloc L4.out.2.size _) (Nat.le_refl _))).mono ?_
          rw [← HU.out]
          rintro e w5 ⟨rfl, hb⟩
          have n0 := (Blk.new w4 (Rc v1 v2) 23).below hb (by simp)
          have n1 := (L4.out.1.alloc _).below hb (Nat.lt_of_lt_of_le L4.out.1.lt (by simp))
          have nB := (L4.out.2.alloc L4.out.2.size (.cells (Rc v1 v2).toArray 23)).trans (hb.mono (by have := L4.out.2.size; simp; omega))
          clear c0 c1 f0 f1 hb
          obtain ⟨⟨c0, c1⟩, f0, f1⟩ := Rc_facts n1
          obtain ⟨⟨d0, d1⟩, -, -⟩ := Rc_facts n0
          have M := Lib.hid (And.intro n1 nB)
          clear n0 n1 nB
          go_wp2_with fail
          exact rat_end rfl rfl rfl (Rc_set M.out.1 v1 v2) (below_set2 (c := w.heap.size) M.out.2 (Nat.le_refl _) (.int .i64 v1) (.int .i64 v2)) (by rw [HT.out, R.out.1, if_pos HE.out])
        · rw [decide_eq_false hE] at hbeq
          have HE := Lib.hid hE
          clear hE
          go_wp2_with fail
          refine (text_any v1 v2 _ R.out.2.1 R.out.2.2 (HD.out.below (L4.out.2.alloc L4.out.2.size _) (Nat.le_refl _))).mono ?_
          rw [← HU.out]
          rintro e w5 ⟨rfl, hb⟩
          have n1 := (L4.out.1.alloc _).below hb (Nat.lt_of_lt_of_le L4.out.1.lt (by simp))
          have nB := (L4.out.2.alloc L4.out.2.size (.cells (Rc v1 v2).toArray 23)).trans (hb.mono (by have := L4.out.2.size; simp; omega))
          clear c0 c1 f0 f1 hb
          obtain ⟨⟨c0, c1⟩, f0, f1⟩ := Rc_facts n1
          have M := Lib.hid (And.intro n1 nB)
          clear n1 nB
          go_wp2_with fail
          exact rat_end rfl rfl rfl (Rc_set M.out.1 0 0) (below_set2 (c := w.heap.size) M.out.2 (Nat.le_refl _) (.int .i64 0) (.int .i64 0)) (by rw [HT.out, R.out.1, if_neg HE.out])
      · have R := Lib.hid (prs_err2 h2)
        clear h1 h2 i1
        go_wp2_with fail
        exact rat_end rfl rfl rfl ((Rc_set L4.out.1 0 0).alloc _) ((below_set2 (c := w.heap.size) L4.out.2 (Nat.le_refl _) (.int .i64 0) (.int .i64 0)).alloc (by rw [size_setCell, size_setCell]; exact L4.out.2.size) _) (by rw [HT.out, R.out])
    · have R := Lib.hid (prs_err1 h1)
      clear h1 h2
      go_wp2_with fail
      all_goals exact rat_end rfl rfl rfl ((Rc_set L4.out.1 0 0).alloc _) ((below_set2 (c := w.heap.size) L4.out.2 (Nat.le_refl _) (.int .i64 0) (.int .i64 0)).alloc (by rw [size_setCell, size_setCell]; exact L4.out.2.size) _) (by rw [HT.out, R.out])
  · obtain rfl : b = bs (Rt.sec (sb s)) := by
      rcases HF.out with h | h
      · exact absurd h.1 (by decide)
      · exact h.2
    clear HF
    go_wp2_with fail
    refine (HA.out _ (HD.out.below L.out.2 (Nat.le_refl _))).mono ?_
    rintro e w3 ⟨v1, er1, rfl, h1, hb⟩
    have L3 := Lib.hid (And.intro (L.out.1.below hb L.out.1.lt) (L.out.2.trans (hb.mono L.out.2.size)))
    have H1 := Lib.hid h1
    clear L hb h1
    go_wp2_with fail
    refine (HB.out _ (HD.out.below L3.out.2 (Nat.le_refl _))).mono ?_
    rintro e w4 ⟨v2, er2, rfl, h2, hb⟩
    have L4 := Lib.hid (And.intro (L3.out.1.below hb L3.out.1.lt) (L3.out.2.trans (hb.mono L3.out.2.size)))
    clear L3 hb
    have h1 := H1.out
    clear H1
    obtain ⟨⟨c0, c1⟩, f0, f1⟩ := Rc_facts L4.out.1
    have hlt := L4.out.1.lt
    rcases h1 with ⟨rfl, h1, i1⟩ | ⟨⟨t1, p1, rfl⟩, h1⟩
    · rcases h2 with ⟨rfl, h2, i2⟩ | ⟨⟨t2, p2, rfl⟩, h2⟩
      · have R := Lib.hid (And.intro (prs_two h1 h2) (And.intro i1 i2))
        clear h1 h2 i1 i2
        have hbeq := bs_beq (Rt.text v1 v2) s
        obtain ⟨u, hu⟩ : ∃ u, u = bs (Rt.text v1 v2) := ⟨_, rfl⟩
        rw [← hu] at hbeq
        have HU := Lib.hid hu
        clear hu
        by_cases hE : Rt.text v1 v2 = sb s
        · rw [decide_eq_true hE] at hbeq
          have HE := Lib.hid hE
          clear hE
          go_wp2_with fail
          refine (text_any v1 v2 _ R.out.2.1 R.out.2.2 (HD.out.below (L4.out.2.alloc L4.out.2.size _) (Nat.le_refl _))).mono ?_
          rw [← HU.out]
          rintro e w5 ⟨rfl, hb⟩
          have n0 := (Blk.new w4 (Rc v1 v2) 23).below hb (by simp)
          have n1 := (L4.out.1.alloc _).below hb (Nat.lt_of_lt_of_le L4.out.1.lt (by simp))
          have nB := (L4.out.2.alloc L4.out.2.size (.cells (Rc v1 v2).toArray 23)).trans (hb.mono (by have := L4.out.2.size; simp; omega))
          clear c0 c1 f0 f1 hb
          obtain ⟨⟨c0, c1⟩, f0, f1⟩ := Rc_facts n1
          obtain ⟨⟨d0, d1⟩, -, -⟩ := Rc_facts n0
          have M := Lib.hid (And.intro n1 nB)
          clear n0 n1 nB
          go_wp2_with fail
          exact rat_end rfl rfl rfl (Rc_set M.out.1 v1 v2) (below_set2 (c := w.heap.size) M.out.2 (Nat.le_refl _) (.int .i64 v1) (.int .i64 v2)) (by rw [HT.out, R.out.1, if_pos HE.out])
        · rw [decide_eq_false hE] at hbeq
          have HE := Lib.hid hE
          clear hE
          go_wp2_with fail
          refine (text_any v1 v2 _ R.out.2.1 R.out.2.2 (HD.out.below (L4.out.2.alloc L4.out.2.size _) (Nat.le_refl _))).mono ?_
          rw [← HU.out]
          rintro e w5 ⟨rfl, hb⟩
          have n1 := (L4.out.1.alloc _).below hb (Nat.lt_of_lt_of_le L4.out.1.lt (by simp))
          have nB := (L4.out.2.alloc L4.out.2.size (.cells (Rc v1 v2).toArray 23)).trans (hb.mono (by have := L4.out.2.size; simp; omega))
          clear c0 c1 f0 f1 hb
          obtain ⟨⟨c0, c1⟩, f0, f1⟩ := Rc_facts n1
          have M := Lib.hid (And.intro n1 nB)
          clear n1 nB
          go_wp2_with fail
          exact rat_end rfl rfl rfl (Rc_set M.out.1 0 0) (below_set2 (c := w.heap.size) M.out.2 (Nat.le_refl _) (.int .i64 0) (.int .i64 0)) (by rw [HT.out, R.out.1, if_neg HE.out])
      · have R := Lib.hid (prs_err2 h2)
        clear h1 h2 i1
        go_wp2_with fail
        exact rat_end rfl rfl rfl ((Rc_set L4.out.1 0 0).alloc _) ((below_set2 (c := w.heap.size) L4.out.2 (Nat.le_refl _) (.int .i64 0) (.int .i64 0)).alloc (by rw [size_setCell, size_setCell]; exact L4.out.2.size) _) (by rw [HT.out, R.out])
    · have R := Lib.hid (prs_err1 h1)
      clear h1 h2
      go_wp2_with fail
      all_goals exact rat_end rfl rfl rfl ((Rc_set L4.out.1 0 0).alloc _) ((below_set2 (c := w.heap.size) L4.out.2 (Nat.le_refl _) (.int .i64 0) (.int .i64 0)).alloc (by rw [size_setCell, size_setCell]; exact L4.out.2.size) _) (by rw [HT.out, R.out])
end Go.Proofs.YtbkgigbalnmbkaaDoor
