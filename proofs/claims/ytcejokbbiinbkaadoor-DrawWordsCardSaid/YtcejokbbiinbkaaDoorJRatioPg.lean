import Derived.Test.YtcejokbbiinbkaaDoorJRatioPf

section
/- The contract of ratio.operands. -/

namespace Go.Proofs.YtcejokbbiinbkaaDoor
open Go.RowKit
set_option linter.unusedVariables false
set_option maxRecDepth 100000

section
variable {w : World} {X Y Z U : List Value} {t : TypeId}
theorem blk_new1 (w : World) (X Y : List Value) (t u : TypeId) : Blk ((w.alloc (.cells X.toArray t)).alloc (.cells Y.toArray u)) (w.heap.size + 1) Y u := (two_new w X Y t u).2.1
theorem blk_new2 (w : World) (X Y Z : List Value) (t u v : TypeId) : Blk (((w.alloc (.cells X.toArray t)).alloc (.cells Y.toArray u)).alloc (.cells Z.toArray v)) (w.heap.size + 2) Z v := by
  have h := blk_new1 (w.alloc (.cells X.toArray t)) Y Z u v
  simpa using h
theorem blk_new3 (w : World) (X Y Z U : List Value) (t u v s : TypeId) : Blk ((((w.alloc (.cells X.toArray t)).alloc (.cells Y.toArray u)).alloc (.cells Z.toArray v)).alloc (.cells U.toArray s)) (w.heap.size + 3) U s := by
  have h := blk_new2 (w.alloc (.cells X.toArray t)) Y Z U u v s
  simpa using h
theorem three_new (w : World) (X Y Z : List Value) (t u v : TypeId) : Blk (((w.alloc (.cells X.toArray t)).alloc (.cells Y.toArray u)).alloc (.cells Z.toArray v)) w.heap.size X t ∧
    Blk (((w.alloc (.cells X.toArray t)).alloc (.cells Y.toArray u)).alloc (.cells Z.toArray v)) (w.heap.size + 1) Y u ∧ Blk (((w.alloc (.cells X.toArray t)).alloc (.cells Y.toArray u)).alloc (.cells Z.toArray v)) (w.heap.size + 2) Z v ∧
    Below w.heap.size w (((w.alloc (.cells X.toArray t)).alloc (.cells Y.toArray u)).alloc (.cells Z.toArray v)) := by
  obtain ⟨h1, h2, h3⟩ := two_new w X Y t u
  exact ⟨h1.alloc _, h2.alloc _, blk_new2 w X Y Z t u v, h3.alloc h3.size _⟩
theorem four_new (w : World) (X Y Z U : List Value) (t u v s : TypeId) : Blk ((((w.alloc (.cells X.toArray t)).alloc (.cells Y.toArray u)).alloc (.cells Z.toArray v)).alloc (.cells U.toArray s)) w.heap.size X t ∧
    Blk ((((w.alloc (.cells X.toArray t)).alloc (.cells Y.toArray u)).alloc (.cells Z.toArray v)).alloc (.cells U.toArray s)) (w.heap.size + 1) Y u ∧
    Blk ((((w.alloc (.cells X.toArray t)).alloc (.cells Y.toArray u)).alloc (.cells Z.toArray v)).alloc (.cells U.toArray s)) (w.heap.size + 2) Z v ∧
    Blk ((((w.alloc (.cells X.toArray t)).alloc (.cells Y.toArray u)).alloc (.cells Z.toArray v)).alloc (.cells U.toArray s)) (w.heap.size + 3) U s ∧
    Below w.heap.size w ((((w.alloc (.cells X.toArray t)).alloc (.cells Y.toArray u)).alloc (.cells Z.toArray v)).alloc (.cells U.toArray s)) := by
  obtain ⟨h1, h2, h3, h4⟩ := three_new w X Y Z t u v
  exact ⟨h1.alloc _, h2.alloc _, h3.alloc _, blk_new3 w X Y Z U t u v s, h4.alloc h4.size _⟩
end

theorem Rc_facts {W : World} {b : Nat} {x y : Int} (h : Blk W b (Rc x y) 47) : (W.cell? ⟨b, 0, none⟩ = some (.int .i64 x) ∧ W.cell? ⟨b, 1, none⟩ = some (.int .i64 y)) ∧ W.frozen? ⟨b, 0, none⟩ = false ∧ W.frozen? ⟨b, 1, none⟩ = false :=
  ⟨⟨h.cell 0 _ rfl, h.cell 1 _ rfl⟩, h.frozen 0, h.frozen 1⟩
/-- A fraction is written over another one. -/
theorem Rc_set {W : World} {b : Nat} {x y : Int} (h : Blk W b (Rc x y) 47) (x' y' : Int) : Blk ((W.setCell ⟨b, 0, none⟩ (.int .i64 x')).setCell ⟨b, 1, none⟩ (.int .i64 y')) b (Rc x' y') 47 := (h.set 0 _).set 1 _
theorem Rc_other {W : World} {b c : Nat} {x y : Int} (h : Blk W b (Rc x y) 47) (hn : b ≠ c) (u v : Value) : Blk ((W.setCell ⟨c, 0, none⟩ u).setCell ⟨c, 1, none⟩ v) b (Rc x y) 47 := (h.other _ _ hn).other _ _ hn
theorem below_set2 {B c : Nat} {w W : World} (h : Below B w W) (hc : B ≤ c) (u v : Value) : Below B w ((W.setCell ⟨c, 0, none⟩ u).setCell ⟨c, 1, none⟩ v) := (h.setCell hc _).setCell hc _
theorem Rv_def (P Q : Int) : Rv P Q = .agg #[.int .i64 P, .int .i64 Q] := rfl

theorem results_cells_tmp {fn : Func} {p q u : Tmp} (h : fn.results = #[.cell p 47, .cell q 47, .tmp u]) (tmps : Array Value) (W : World) (g k : Nat) (x y x' y' : Int)
    (hp : tmps.getD p undef = .pointer (some ⟨g, 0, none⟩)) (hq : tmps.getD q undef = .pointer (some ⟨k, 0, none⟩)) (hg : Blk W g (Rc x y) 47) (hk : Blk W k (Rc x' y') 47) :
    (results fn tmps).run Tryd.prog W = .ok (.tuple #[Rv x y, Rv x' y', tmps.getD u undef]) W := by
  have e1 := run_loadVar_row (P := Tryd.prog) W g 47 47 (Rc x y).toArray (0, 0) _ hg Tryd.underlying47 rfl (by kernel_rfl)
  have e2 := run_loadVar_row (P := Tryd.prog) W k 47 47 (Rc x' y').toArray (0, 0) _ hk Tryd.underlying47 rfl (by kernel_rfl)
  rw [Array.getD_eq_getD_getElem?] at hp hq
  simp only [results, h]
  simp [Sem.run_bind, Result.andThen, hp, hq, asAddr, e1, e2]
  exact ⟨rfl, rfl⟩
theorem rat2_ends {fn : Func} {p q u : Tmp} {tmps : Array Value} {w W : World} {g k : Nat} {x y x' y' : Int} {v : Value} (h : fn.results = #[.cell p 47, .cell q 47, .tmp u])
    (hp : tmps.getD p undef = .pointer (some ⟨g, 0, none⟩)) (hq : tmps.getD q undef = .pointer (some ⟨k, 0, none⟩)) (hu : tmps.getD u undef = v) (hg : Blk W g (Rc x y) 47) (hk : Blk W k (Rc x' y') 47) (hb : Below w.heap.size w W) :
    bodyPost Tryd.prog fn (Says (.tuple #[Rv x y, Rv x' y', v]) w) .ret { tmps := tmps, defers := [] } W :=
  bodyPost_ret (results_cells_tmp h tmps W g k x y x' y' hp hq hg hk) rfl ⟨by rw [hu], hb⟩

set_option maxHeartbeats 4000000 in
theorem operands_any (P Q P' Q' : Int) (w : World) (hp : In64 P) (hq : In64 Q) (hp' : In64 P') (hq' : In64 Q') :
    Calls Tryd.prog 64 #[Rv P Q, Rv P' Q'] w (Says (.tuple #[Rv P (Rt.opd P Q), Rv P' (Rt.opd P' Q'), .bool (decide (Rt.Ok P Q ∧ Rt.Ok P' Q'))]) w) := by
  have h1 := fun W => operand_any P Q W hp hq
  have h2 := fun W => operand_any P' Q' W hp' hq'
  obtain ⟨z, hz⟩ : ∃ z : Bool, z = decide (Rt.Ok P Q) := ⟨_, rfl⟩
  obtain ⟨z', hz'⟩ : ∃ z : Bool, z = decide (Rt.Ok P' Q') := ⟨_, rfl⟩
  obtain ⟨q, hqq⟩ : ∃ q, q = Rt.opd P Q := ⟨_, rfl⟩
  obtain ⟨q', hqq'⟩ : ∃ q, q = Rt.opd P' Q' := ⟨_, rfl⟩
  have hd : decide (Rt.Ok P Q ∧ Rt.Ok P' Q') = (z && z') := by rw [hz, hz']; by_cases a : Rt.Ok P Q <;> by_cases b : Rt.Ok P' Q' <;> simp [a, b]
  rw [hd, ← hqq, ← hqq']
  rw [← hz, ← hqq] at h1
  rw [← hz', ← hqq'] at h2
  have H1 := Lib.hid h1
  have H2 := Lib.hid h2
  clear hz hz' hqq hqq' hd h1 h2 hp hq hp' hq'
  show Calls _ _ #[.agg #[.int .i64 P, .int .i64 Q], .agg #[.int .i64 P', .int .i64 Q']] _ _
  go_enter Tryd.func64, Tryd.ntmps64
  go_wp2_with fail
  have hS := four_new w (Rc P Q) (Rc P' Q') (Rc 0 0) (Rc 0 0) 47 47 47 47
  refine (H1.out _).mono ?_
  rintro e w2 ⟨rfl, hb⟩
  obtain ⟨k0, k1, k2, k3, hB⟩ := hS
  have l0 := k0.below hb k0.lt
  have l1 := k1.below hb k1.lt
  have l2 := k2.below hb k2.lt
  have l3 := k3.below hb k3.lt
  have hB2 := hB.trans (hb.mono hB.size)
  clear k0 k1 k2 k3 hB hb
  obtain ⟨⟨c00, c01⟩, f00, f01⟩ := Rc_facts l0
  obtain ⟨⟨c10, c11⟩, f10, f11⟩ := Rc_facts l1
  have L := Lib.hid (And.intro (Rc_set l0 P q) (And.intro (Rc_other l1 (c := w.heap.size) (by simp) (.int .i64 P) (.int .i64 q)) (And.intro (Rc_other l2 (c := w.heap.size) (by simp) (.int .i64 P) (.int .i64 q)) (And.intro (Rc_other l3 (c := w.heap.size) (by simp) (.int .i64 P) (.int .i64 q)) (below_set2 (c := w.heap.size) hB2 (Nat.le_refl _) (.int .i64 P) (.int .i64 q))))))
  clear l0 l1 l2 l3 hB2
  simp only [Rv_def]
  go_wp2_with fail
  refine (H2.out _).mono ?_
  rintro e w4 ⟨rfl, hb⟩
  obtain ⟨k0, k1, k2, k3, hB⟩ := L.out
  have l0 := k0.below hb k0.lt
  have l1 := k1.below hb k1.lt
  have l2 := k2.below hb k2.lt
  have l3 := k3.below hb k3.lt
  have hB2 := hB.trans (hb.mono hB.size)
  clear k0 k1 k2 k3 hB hb L c00 c01 f00 f01 c10 c11 f10 f11
  obtain ⟨⟨c10, c11⟩, f10, f11⟩ := Rc_facts l1
  have L := Lib.hid (And.intro (Rc_other l0 (c := w.heap.size + 1) (by simp) (.int .i64 P') (.int .i64 q')) (And.intro (Rc_set l1 P' q') (And.intro (Rc_other l2 (c := w.heap.size + 1) (by simp) (.int .i64 P') (.int .i64 q')) (And.intro (Rc_other l3 (c := w.heap.size + 1) (by simp) (.int .i64 P') (.int .i64 q')) (below_set2 (c := w.heap.size + 1) hB2 (by simp) (.int .i64 P') (.int .i64 q'))))))
  clear l0 l1 l2 l3 hB2
  simp only [Rv_def]
  go_wp2_with fail
  obtain ⟨W5, hW5⟩ : ∃ W5, W5 = (w4.setCell ⟨w.heap.size + 1, 0, none⟩ (.int .i64 P')).setCell ⟨w.heap.size + 1, 1, none⟩ (.int .i64 q') := ⟨_, rfl⟩
  rw [← hW5] at L ⊢
  clear hW5 c10 c11 f10 f11
  obtain ⟨⟨c00, c01⟩, f00, f01⟩ := Rc_facts L.out.1
  obtain ⟨⟨c10, c11⟩, f10, f11⟩ := Rc_facts L.out.2.1
  obtain ⟨⟨c20, c21⟩, f20, f21⟩ := Rc_facts L.out.2.2.1
  obtain ⟨⟨c30, c31⟩, f30, f31⟩ := Rc_facts L.out.2.2.2.1
  have N := Lib.hid (And.intro ((Rc_other (Rc_set L.out.2.2.1 P q) (c := w.heap.size + 3) (by simp) (.int .i64 P') (.int .i64 q')).drew) (And.intro ((Rc_set (Rc_other L.out.2.2.2.1 (c := w.heap.size + 2) (by simp) (.int .i64 P) (.int .i64 q)) P' q').drew)
    (below_drewN (below_set2 (c := w.heap.size + 3) (below_set2 (c := w.heap.size + 2) L.out.2.2.2.2 (by simp) (.int .i64 P) (.int .i64 q)) (by simp) (.int .i64 P') (.int .i64 q')) 1)))
  clear L
  cases z
  all_goals (go_region; go_wp2_with fail; exact rat2_ends rfl rfl rfl rfl N.out.1 N.out.2.1 N.out.2.2)
end Go.Proofs.YtcejokbbiinbkaaDoor
end

