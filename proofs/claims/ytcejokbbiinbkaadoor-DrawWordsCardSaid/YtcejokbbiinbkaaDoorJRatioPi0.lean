import Derived.Shelf.Small.Wraps
import Derived.Test.YtcejokbbiinbkaaDoorProg
import Derived.Test.YtcejokbbiinbkaaDoorJRatioPg

section
/- The library's contracts that this seat's proofs use, at its program: written by the guide's own commands (lay-shelf, lay-plain). -/


namespace Go.Proofs
open Go.Shelf
def Tryd.lays122_ren : Go.Shelf.Ren := ⟨fun | 122 => 65 | 215 => 72 | n => n, fun | 3 => 3 | 4 => 4 | n => n, fun | n => n⟩
theorem Tryd.lays122 : Go.Proofs.Lays.n122 Tryd.prog Tryd.lays122_ren := {
  mixed := by kernel_rfl
  f122 := Tryd.func65.trans (congrArg some (by kernel_rfl))
  f215 := Tryd.func72.trans (congrArg some (by kernel_rfl))
  t3 := Tryd.underlying3
  a3 := Tryd.isAgg3
  z3 := Tryd.sizeOf3
  v3 := Tryd.zeroValue3
  t4 := Tryd.underlying4
  a4 := Tryd.isAgg4
  z4 := Tryd.sizeOf4
  v4 := Tryd.zeroValue4 }
open Go.RowKit in
/-- cmp.Compare at int: "Compare returns -1 if x is less than y, 0 if x equals y, +1 if x is greater than y.": IT RETURNS 'Lib.compareInt x y'; the world is as it was. (LAID: no walk: one application.) -/
theorem Tryd.cmp_Compare_int (x y : Int) (w : World) :
    Calls Tryd.prog 65 #[.int .i64 x, .int .i64 y] w fun e w' => e = .returned (.int .i64 (Lib.compareInt x y)) ∧ w' = w := Any.cmp_Compare_int Tryd.lays122 x y w
end Go.Proofs
end

section
/- The contract of ratio.Compare. -/


namespace Go.Proofs.YtcejokbbiinbkaaDoor
open Go.RowKit
set_option linter.unusedVariables false
set_option maxRecDepth 100000

theorem cmp_reckons {P Q P' Q' : Int} (h : Rt.Ok P Q) (h' : Rt.Ok P' Q') :
    wrap64 (P * Rt.opd P' Q') = P * Rt.opd P' Q' ∧ wrap64 (P' * Rt.opd P Q) = P' * Rt.opd P Q ∧ Lib.compareInt (P * Rt.opd P' Q') (P' * Rt.opd P Q) = Rt.cmp3 P Q P' Q' := by
  rw [Rt.opd_den h, Rt.opd_den h', Rt.cmp3_ok h h', ← Rt.cmp_val h h']
  have b1 := h.bounds
  have b2 := h'.bounds
  have d1 := h.den_le
  have d2 := h'.den_le
  have p1 := Rt.den_pos Q
  have p2 := Rt.den_pos Q'
  have t1 := Rt.prod_le (a := P) (b := Rt.den Q') (by omega) (by omega)
  have t2 := Rt.prod_le (a := P') (b := Rt.den Q) (by omega) (by omega)
  refine ⟨IntWalk.wrap64_in _ ?_, IntWalk.wrap64_in _ ?_, rfl⟩
  all_goals (clear h h' b1 b2 d1 d2 p1 p2; omega)

set_option maxHeartbeats 4000000 in
theorem compare_any (P Q P' Q' : Int) (w : World) (hp : In64 P) (hq : In64 Q) (hp' : In64 P') (hq' : In64 Q') :
    Calls Tryd.prog 58 #[Rv P Q, Rv P' Q'] w (Says (.int .i64 (Rt.cmp3 P Q P' Q')) w) := by
  have h1 := fun W => operands_any P Q P' Q' W hp hq hp' hq'
  have hre := fun (h : Rt.Ok P Q ∧ Rt.Ok P' Q') => cmp_reckons h.1 h.2
  obtain ⟨t, ht⟩ : ∃ t, t = Rt.cmp3 P Q P' Q' := ⟨_, rfl⟩
  have hno : ¬ (Rt.Ok P Q ∧ Rt.Ok P' Q') → t = 0 := fun h => by rw [ht]; exact if_neg h
  obtain ⟨q, hqq⟩ : ∃ q, q = Rt.opd P Q := ⟨_, rfl⟩
  obtain ⟨q', hqq'⟩ : ∃ q, q = Rt.opd P' Q' := ⟨_, rfl⟩
  rw [← ht]
  rw [← hqq, ← hqq', ← ht] at hre
  rw [← hqq, ← hqq'] at h1
  obtain ⟨z, hz⟩ : ∃ z : Bool, z = decide (Rt.Ok P Q ∧ Rt.Ok P' Q') := ⟨_, rfl⟩
  rw [← hz] at h1
  have hre2 : z = true → _ := fun h => hre (by rw [hz] at h; exact of_decide_eq_true h)
  have hno2 : z = false → t = 0 := fun h => hno (by rw [hz] at h; exact of_decide_eq_false h)
  have H1 := Lib.hid h1
  have HR := Lib.hid hre2
  have HN := Lib.hid hno2
  clear hz hqq hqq' ht hno hre hre2 hno2 h1 hp hq hp' hq'
  show Calls _ _ #[.agg #[.int .i64 P, .int .i64 Q], .agg #[.int .i64 P', .int .i64 Q']] _ _
  go_enter Tryd.func58, Tryd.ntmps58
  go_wp2_with fail
  have hS := two_new w (Rc P Q) (Rc P' Q') 47 47
  refine (H1.out _).mono ?_
  rintro e w2 ⟨rfl, hb⟩
  obtain ⟨k0, k1, hB⟩ := hS
  have l0 := k0.below hb k0.lt
  have l1 := k1.below hb k1.lt
  have hB2 := hB.trans (hb.mono hB.size)
  clear k0 k1 hB hb
  obtain ⟨⟨c00, c01⟩, f00, f01⟩ := Rc_facts l0
  obtain ⟨⟨c10, c11⟩, f10, f11⟩ := Rc_facts l1
  have L := Lib.hid (below_set2 (c := w.heap.size + 1) (below_set2 (c := w.heap.size) hB2 (Nat.le_refl _) (.int .i64 P) (.int .i64 q)) (by simp) (.int .i64 P') (.int .i64 q'))
  clear l0 l1 hB2
  simp only [Rv_def]
  cases z
  · go_wp2_with fail
    go_ret
    exact ⟨by rw [HN.out trivial]; rfl, L.out⟩
  · obtain ⟨r1, r2, r5⟩ := HR.out rfl
    have R5 := Lib.hid r5
    clear r5 HR HN
    go_wp2_with fail
    refine (Tryd.cmp_Compare_int _ _ _).mono ?_
    rw [R5.out]
    rintro e w5 ⟨rfl, rfl⟩
    go_wp2_with fail
    go_ret
    exact ⟨rfl, L.out⟩

end Go.Proofs.YtcejokbbiinbkaaDoor
end

