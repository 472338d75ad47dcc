/- The contracts of ratio.Mul, ratio.Compare and ratio.Floor. -/
import Derived.Test.YtbkgigbalnmbkaaDoorRatioPh
import Derived.Test.YtbkgigbalnmbkaaDoorShelf
namespace Go.Proofs.YtbkgigbalnmbkaaDoor
open Go.RowKit
set_option linter.unusedVariables false
set_option maxRecDepth 100000

theorem mul_reckons {P Q P' Q' : Int} (h : Rt.Ok P Q) (h' : Rt.Ok P' Q') :
    wrap64 (P * P') = P * P' ∧ wrap64 (Rt.opd P Q * Rt.opd P' Q') = Rt.opd P Q * Rt.opd P' Q' ∧ Rt.mk (P * P') (Rt.opd P Q * Rt.opd P' Q') = Rt.mul3 P Q P' Q' := by
  rw [Rt.opd_den h, Rt.opd_den h', Rt.mul_box, Rt.mul3_ok h h']
  have b1 := h.bounds
  have b2 := h'.bounds
  have d1 := h.den_le
  have d2 := h'.den_le
  have p1 := Rt.den_pos Q
  have p2 := Rt.den_pos Q'
  have t1 := Rt.prod_le (a := P) (b := P') (by omega) (by omega)
  have t3 := Rt.prod_le (a := Rt.den Q) (b := Rt.den Q') (by omega) (by omega)
  refine ⟨IntWalk.wrap64_in _ ?_, IntWalk.wrap64_in _ ?_, rfl⟩
  all_goals (clear h h' b1 b2 d1 d2 p1 p2; omega)
theorem cmp_reckons {P Q P' Q' : Int} (h : Rt.Ok P Q) (h' : Rt.Ok P' Q') :
    wrap64 (P * Rt.opd P' Q') = P * Rt.opd P' Q' ∧ wrap64 (P' * Rt.opd P Q) = P' * Rt.opd P Q ∧ Lib.compareInt (P * Rt.opd P' Q') (P' * Rt.opd P Q) = Rt.cmp3 P Q P' Q' := by
  rw [Rt.opd_den h, Rt.opd_den h', Rt.cmp3_ok h h', ← Rt.cmp_val h h']
  have b1 := h.bounds
  have b2 := h'.bounds
  have d1 := h.den_le
  have d2 := h'.den_le
  have p1 := Rt.den_pos Q
  have p2 := Rt.den_pos Q'
  have t1 := Rt.prod_le (a := P) (b := Rt.den Q') (by omega) (by omega)
  have t2 := Rt.prod_le (a := P') (b := Rt.den Q) (by omega) (by omega)
  refine ⟨IntWalk.wrap64_in _ ?_, IntWalk.wrap64_in _ ?_, rfl⟩
  all_goals (clear h h' b1 b2 d1 d2 p1 p2; omega)

set_option maxHeartbeats 4000000 in
theorem mul_any (P Q P' Q' : Int) (w : World) (hp : In64 P) (hq : In64 Q) (hp' : In64 P') (hq' : In64 Q') :
    Calls Tryd.prog 25 #[Rv P Q, Rv P' Q'] w (Says (T3 (Rt.mul3 P Q P' Q')) w) := by
  have h1 := fun W => operands_any P Q P' Q' W hp hq hp' hq'
  have hre := fun (h : Rt.Ok P Q ∧ Rt.Ok P' Q') => mul_reckons h.1 h.2
  obtain ⟨t, ht⟩ : ∃ t, t = Rt.mul3 P Q P' Q' := ⟨_, rfl⟩
  have hno : ¬ (Rt.Ok P Q ∧ Rt.Ok P' Q') → t = (0, 0, 1) := fun h => by rw [ht]; exact if_neg h
  obtain ⟨q, hqq⟩ : ∃ q, q = Rt.opd P Q := ⟨_, rfl⟩
  obtain ⟨q', hqq'⟩ : ∃ q, q = Rt.opd P' Q' := ⟨_, rfl⟩
  rw [← ht]
  rw [← hqq, ← hqq', ← ht] at hre
  rw [← hqq, ← hqq'] at h1
  obtain ⟨z, hz⟩ : ∃ z : Bool, z = decide (Rt.Ok P Q ∧ Rt.Ok P' Q') := ⟨_, rfl⟩
  rw [← hz] at h1
  have hre2 : z = true → _ := fun h => hre (by rw [hz] at h; exact of_decide_eq_true h)
  have hno2 : z = false → t = (0, 0, 1) := fun h => hno (by rw [hz] at h; exact of_decide_eq_false h)
  have H1 := Lib.hid h1
  have HR := Lib.hid hre2
  have HN := Lib.hid hno2
  clear hz hqq hqq' ht hno hre hre2 hno2 h1 hp hq hp' hq'
  show Calls _ _ #[.agg #[.int .i64 P, .int .i64 Q], .agg #[.int .i64 P', .int .i64 Q']] _ _
  go_enter Tryd.func25, Tryd.ntmps25
  go_wp2_with fail
  have hS := three_new w (Rc P Q) (Rc P' Q') (Rc 0 0) 23 23 23
  refine (H1.out _).mono ?_
  rintro e w2 ⟨rfl, hb⟩
  obtain ⟨k0, k1, k2, hB⟩ := hS
  have l0 := k0.below hb k0.lt
  have l1 := k1.below hb k1.lt
  have l2 := k2.below hb k2.lt
  have hB2 := hB.trans (hb.mono hB.size)
  clear k0 k1 k2 hB hb
  obtain ⟨⟨c00, c01⟩, f00, f01⟩ := Rc_facts l0
  obtain ⟨⟨c10, c11⟩, f10, f11⟩ := Rc_facts l1
  obtain ⟨⟨c20, c21⟩, f20, f21⟩ := Rc_facts l2
  have m2 := Rc_other (Rc_other l2 (c := w.heap.size) (by simp) (.int .i64 P) (.int .i64 q)) (c := w.heap.size + 1) (by simp) (.int .i64 P') (.int .i64 q')
  have mB := below_set2 (c := w.heap.size + 1) (below_set2 (c := w.heap.size) hB2 (Nat.le_refl _) (.int .i64 P) (.int .i64 q)) (by simp) (.int .i64 P') (.int .i64 q')
  have L := Lib.hid (And.intro m2 mB)
  clear l0 l1 l2 hB2 m2 mB
  simp only [Rv_def]
  cases z
  · go_wp2_with fail
    exact rat_end rfl rfl rfl (Rc_set L.out.1 0 0) (below_set2 (c := w.heap.size + 2) L.out.2 (by simp) (.int .i64 0) (.int .i64 0)) (HN.out trivial)
  · obtain ⟨r3, r4, r5⟩ := HR.out rfl
    have R5 := Lib.hid r5
    have i1 : In64 (P * P') := by rw [← r3]; exact w64_in _
    have i2 : In64 (q * q') := by rw [← r4]; exact w64_in _
    have HI := Lib.hid (And.intro i1 i2)
    clear r5 i1 i2 HR HN
    go_wp2_with fail
    refine (make_any _ _ _ HI.out.1 HI.out.2).mono ?_
    rw [R5.out]
    rintro e w5 ⟨rfl, hb⟩
    obtain ⟨x, y, e⟩ := t
    have l2 := L.out.1.below hb L.out.1.lt
    have hB2 := L.out.2.trans (hb.mono L.out.2.size)
    clear hb L c00 c01 f00 f01 c10 c11 f10 f11 c20 c21 f20 f21 r3 r4 R5 HI
    obtain ⟨⟨c20, c21⟩, f20, f21⟩ := Rc_facts l2
    have M := Lib.hid (And.intro l2 hB2)
    clear l2 hB2
    simp only [T3, Rv_def]
    go_wp2_with fail
    exact rat_end rfl rfl rfl (Rc_set M.out.1 x y) (below_set2 (c := w.heap.size + 2) M.out.2 (by simp) (.int .i64 x) (.int .i64 y)) rfl

set_option maxHeartbeats 4000000 in
theorem compare_any (P Q P' Q' : Int) (w : World) (hp : In64 P) (hq : In64 Q) (hp' : In64 P') (hq' : In64 Q') :
    Calls Tryd.prog 27 #[Rv P Q, Rv P' Q'] w (Says (.int .i64 (Rt.cmp3 P Q P' Q')) w) := by
  have h1 := fun W => operands_any P Q P' Q' W hp hq hp' hq'
  have hre := fun (h : Rt.Ok P Q ∧ Rt.Ok P' Q') => cmp_reckons h.1 h.2
  obtain ⟨t, ht⟩ : ∃ t, t = Rt.cmp3 P Q P' Q' := ⟨_, rfl⟩
  have hno : ¬ (Rt.Ok P Q ∧ Rt.Ok P' Q') → t = 0 := fun h => by rw [ht]; exact if_neg h
  obtain ⟨q, hqq⟩ : ∃ q, q = Rt.opd P Q := ⟨_, rfl⟩
  obtain ⟨q', hqq'⟩ : ∃ q, q = Rt.opd P' Q' := ⟨_, rfl⟩
  rw [← ht]
  rw [← hqq, ← hqq', ← ht] at hre
  rw [← hqq, ← hqq'] at h1
  obtain ⟨z, hz⟩ : ∃ z : Bool, z = decide (Rt.Ok P Q ∧ Rt.Ok P' Q') := ⟨_, rfl⟩
  rw [← hz] at h1
  have hre2 : z = true → _ := fun h => hre (by rw [hz] at h; exact of_decide_eq_true h)
  have hno2 : z = false → t = 0 := fun h => hno (by rw [hz] at h; exact of_decide_eq_false h)
  have H1 := Lib.hid h1
  have HR := Lib.hid hre2
  have HN := Lib.hid hno2
  clear hz hqq hqq' ht hno hre hre2 hno2 h1 hp hq hp' hq'
  show Calls _ _ #[.agg #[.int .i64 P, .int .i64 Q], .agg #[.int .i64 P', .int .i64 Q']] _ _
  go_enter Tryd.func27, Tryd.ntmps27
  go_wp2_with fail
  have hS := two_new w (Rc P Q) (Rc P' Q') 23 23
  refine (H1.out _).mono ?_
  rintro e w2 ⟨rfl, hb⟩
  obtain ⟨k0, k1, hB⟩ := hS
  have l0 := k0.below hb k0.lt
  have l1 := k1.below hb k1.lt
  have hB2 := hB.trans (hb.mono hB.size)
  clear k0 k1 hB hb
  obtain ⟨⟨c00, c01⟩, f00, f01⟩ := Rc_facts l0
  obtain ⟨⟨c10, c11⟩, f10, f11⟩ := Rc_facts l1
  have L := Lib.hid (below_set2 (c := w.heap.size + 1) (below_set2 (c := w.heap.size) hB2 (Nat.le_refl _) (.int .i64 P) (.int .i64 q)) (by simp) (.int .i64 P') (.int .i64 q'))
  clear l0 l1 hB2
  simp only [Rv_def]
  cases z
  · go_wp2_with fail
    go_ret
    exact ⟨by rw [HN.out trivial]; rfl, L.out⟩
  · obtain ⟨r1, r2, r5⟩ := HR.out rfl
    have R5 := Lib.hid r5
    clear r5 HR HN
    go_wp2_with fail
    refine (Tryd.cmp_Compare_int _ _ _).mono ?_
    rw [R5.out]
    rintro e w5 ⟨rfl, rfl⟩
    go_wp2_with fail
    go_ret
    exact ⟨rfl, L.out⟩

theorem floor_reckons {P Q : Int} (h : Rt.Ok P Q) : 1 ≤ Rt.opd P Q ∧ wrap64 (P.tdiv (Rt.opd P Q)) = P.tdiv (Rt.opd P Q) ∧ wrap64 (P.tdiv (Rt.opd P Q) * Rt.opd P Q) = P.tdiv (Rt.opd P Q) * Rt.opd P Q ∧
    wrap64 (P.tdiv (Rt.opd P Q) - 1) = P.tdiv (Rt.opd P Q) - 1 ∧ (if P < P.tdiv (Rt.opd P Q) * Rt.opd P Q then P.tdiv (Rt.opd P Q) - 1 else P.tdiv (Rt.opd P Q)) = Rt.flo P Q := by
  rw [Rt.opd_den h, Rt.flo_ok h, Rt.tdiv_floor (Rt.den_pos Q)]
  have b1 := h.bounds
  have p1 := Rt.den_pos Q
  have h1 := Int.mul_tdiv_add_tmod P (Rt.den Q)
  have h2 : (P.tmod (Rt.den Q)).natAbs ≤ P.natAbs := by rw [Int.natAbs_tmod]; exact Nat.mod_le _ _
  have h3 : (P.tdiv (Rt.den Q)).natAbs ≤ P.natAbs := by rw [Int.natAbs_tdiv]; exact Nat.div_le_self _ _
  rw [Int.mul_comm] at h1
  generalize P.tdiv (Rt.den Q) * Rt.den Q = k at *
  generalize P.tdiv (Rt.den Q) = d at *
  refine ⟨p1, IntWalk.wrap64_in _ ?_, IntWalk.wrap64_in _ ?_, IntWalk.wrap64_in _ ?_, rfl⟩
  all_goals (clear h; omega)

set_option maxHeartbeats 4000000 in
theorem floor_any (P Q : Int) (w : World) (hp : In64 P) (hq : In64 Q) :
    Calls Tryd.prog 28 #[Rv P Q] w (Says (.int .i64 (Rt.flo P Q)) w) := by
  have h1 := fun W => operand_any P Q W hp hq
  have hre := fun (h : Rt.Ok P Q) => floor_reckons h
  obtain ⟨t, ht⟩ : ∃ t, t = Rt.flo P Q := ⟨_, rfl⟩
  have hno : ¬ Rt.Ok P Q → t = 0 := fun h => by rw [ht]; exact if_neg h
  obtain ⟨q, hqq⟩ : ∃ q, q = Rt.opd P Q := ⟨_, rfl⟩
  rw [← ht]
  rw [← hqq, ← ht] at hre
  rw [← hqq] at h1
  obtain ⟨z, hz⟩ : ∃ z : Bool, z = decide (Rt.Ok P Q) := ⟨_, rfl⟩
  rw [← hz] at h1
  have hre2 : z = true → _ := fun h => hre (by rw [hz] at h; exact of_decide_eq_true h)
  have hno2 : z = false → t = 0 := fun h => hno (by rw [hz] at h; exact of_decide_eq_false h)
  have H1 := Lib.hid h1
  have HR := Lib.hid hre2
  have HN := Lib.hid hno2
  clear hz hqq ht hno hre hre2 hno2 h1 hp hq
  show Calls _ _ #[.agg #[.int .i64 P, .int .i64 Q]] _ _
  go_enter Tryd.func28, Tryd.ntmps28
  go_wp2_with fail
  refine (H1.out _).mono ?_
  rintro e w2 ⟨rfl, hb⟩
  have k0 := Blk.new w (Rc P Q) 23
  have l0 := k0.below hb k0.lt
  have hB2 : Below w.heap.size w w2 := ((Below.refl _ _).alloc (Nat.le_refl _) _).trans (hb.mono (by simp))
  clear k0 hb
  obtain ⟨⟨c00, c01⟩, f00, f01⟩ := Rc_facts l0
  have L := Lib.hid (below_set2 (c := w.heap.size) hB2 (Nat.le_refl _) (.int .i64 P) (.int .i64 q))
  clear l0 hB2
  simp only [Rv_def]
  cases z
  · go_wp2_with fail
    go_ret
    exact ⟨by rw [HN.out trivial]; rfl, L.out⟩
  · obtain ⟨r0, r1, r2, r3, r5⟩ := HR.out rfl
    have R5 := Lib.hid r5
    clear r5 HR HN
    have hq0 : ¬ q = 0 := by omega
    go_wp2_with fail
    all_goals (go_ret; refine ⟨congrArg Ending.returned (congrArg (Value.int IntKind.i64) ?_), L.out⟩; rw [← R5.out]; go_light; clear R5 H1 L c00 c01 f00 f01; first | rw [if_pos (by omega)]; omega | rw [if_neg (by omega)]; omega)
end Go.Proofs.YtbkgigbalnmbkaaDoor
