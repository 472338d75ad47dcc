import Derived.Test.YtcejokbbiinbkaaDoorJRatioPe

section
/- The contract of ratio.operand. -/

namespace Go.Proofs.YtcejokbbiinbkaaDoor
open Go.RowKit
set_option linter.unusedVariables false
set_option maxRecDepth 100000

/-- A fraction's cells. -/
def Rc (P Q : Int) : List Value := [.int .i64 P, .int .i64 Q]
theorem load_rat (W : World) (b : Nat) (P Q : Int) (h : Blk W b (Rc P Q) 47) : (Instr.loadAt 47 (.pointer (some ⟨b, 0, none⟩))).run Tryd.prog W = .ok (Rv P Q) W :=
  run_loadAt_mid (P := Tryd.prog) W b 0 47 (Rc P Q) _ h.range Tryd.underlying47 rfl (by kernel_rfl)

/-- The end of a function that answers a fraction in memory and something else. -/
theorem rat_ends {fn : Func} {p u : Tmp} {tmps : Array Value} {w W : World} {g : Nat} {x y : Int} {v : Value} (hr : fn.results = #[.cell p 47, .tmp u])
    (hp : tmps.getD p undef = .pointer (some ⟨g, 0, none⟩)) (hu : tmps.getD u undef = v) (hk : Blk W g (Rc x y) 47) (hb : Below w.heap.size w W) :
    bodyPost Tryd.prog fn (Says (.tuple #[Rv x y, v]) w) .ret { tmps := tmps, defers := [] } W := by
  refine bodyPost_ret (results_cell_row_tmp hr tmps W g 47 #[.int .i64 x, .int .i64 y] (0, 0) _ hp hk Tryd.underlying47 rfl (size_rat _ _)) rfl ⟨?_, hb⟩
  rw [hu]; rfl
theorem two_new (w : World) (X Y : List Value) (t u : TypeId) : Blk ((w.alloc (.cells X.toArray t)).alloc (.cells Y.toArray u)) w.heap.size X t ∧ Blk ((w.alloc (.cells X.toArray t)).alloc (.cells Y.toArray u)) (w.heap.size + 1) Y u ∧
    Below w.heap.size w ((w.alloc (.cells X.toArray t)).alloc (.cells Y.toArray u)) := by
  refine ⟨(Blk.new w _ _).alloc _, ?_, ((Below.refl _ _).alloc (Nat.le_refl _) _).alloc (by simp) _⟩
  have h := Blk.new (w.alloc (.cells X.toArray t)) Y u
  simpa using h

set_option maxHeartbeats 4000000 in
theorem operand_any (P Q : Int) (w : World) (hp : In64 P) (hq : In64 Q) :
    Calls Tryd.prog 71 #[Rv P Q] w (Says (.tuple #[Rv P (Rt.opd P Q), .bool (decide (Rt.Ok P Q))]) w) := by
  have hV := fun W => valid_any P (Rt.opd P Q) W hp (by unfold Rt.opd; split; exact ⟨by decide, by decide⟩; exact hq)
  rw [show decide (Rt.Ok P (Rt.opd P Q)) = decide (Rt.Ok P Q) from decide_eq_decide.2 Rt.opd_ok] at hV
  obtain ⟨z, hz⟩ : ∃ z : Bool, z = decide (Rt.Ok P Q) := ⟨_, rfl⟩
  rw [← hz] at hV ⊢
  clear hz hp hq
  obtain ⟨q, hq⟩ : ∃ q, q = Rt.opd P Q := ⟨_, rfl⟩
  rw [← hq] at hV ⊢
  have HV := Lib.hid hV
  have HQ := Lib.hid hq
  clear hV hq
  show Calls _ _ #[.agg #[.int .i64 P, .int .i64 Q]] _ _
  by_cases h0 : P = 0 ∧ Q = 0
  · obtain ⟨rfl, rfl⟩ := h0
    obtain rfl : q = 1 := HQ.out
    go_enter Tryd.func71, Tryd.ntmps71
    go_wp2_with fail
    have H := Lib.hid (two_new w (Rc 0 1) (Rc 0 0) 47 47)
    refine wp_region_list [8, 9, 10] [.is (Rv 0 1), .is (Rv 0 1), .is (.bool z)] (by kernel_rfl) (by kernel_rfl) ?_ ?_
    · intro i hi b w' hb hd hx o ho
      match i, hi with
      | 0, _ =>
        obtain rfl := Option.some.inj ho
        have e : b.tmps.getD 1 undef = .pointer (some ⟨w.heap.size, 0, none⟩) := hx 1 rfl
        have hr := load_rat w' w.heap.size 0 1 (H.out.1.below hb H.out.1.lt)
        rw [← e] at hr
        exact runs_value rfl hr ⟨rfl, Below.refl _ _⟩
      | 1, _ =>
        obtain rfl := Option.some.inj ho
        have e : b.tmps.getD 1 undef = .pointer (some ⟨w.heap.size, 0, none⟩) := hx 1 rfl
        have hr := load_rat w' w.heap.size 0 1 (H.out.1.below hb H.out.1.lt)
        rw [← e] at hr
        exact runs_value rfl hr ⟨rfl, Below.refl _ _⟩
      | 2, _ =>
        obtain rfl := Option.some.inj ho
        have e : b.tmps.getD 9 undef = Rv 0 1 := hd 1 (by kernel_rfl) (by decide)
        refine runs_call rfl (fun _ _ => rfl) ?_
        show Calls _ _ #[b.tmps.getD 9 undef] w' _
        rw [e]
        exact (HV.out w').mono fun e w'' h => ⟨_, h.1, rfl, h.2⟩
    · intro vals w' hb hf
      have e0 : vals 0 = Rv 0 1 := hf 0 (by decide)
      have e2 : vals 2 = .bool z := hf 2 (by decide)
      simp only [puts, List.length_cons, List.length_nil, Nat.zero_add, Nat.reduceAdd, List.drop_succ_cons, List.drop_zero, e0, e2]
      clear e0 e2 hf
      have hk := H.out.2.1.below hb H.out.2.1.lt
      have hB := H.out.2.2.trans (hb.mono H.out.2.2.size)
      have hc0 := hk.cell 0 _ rfl
      have hc1 := hk.cell 1 _ rfl
      have hf0 := hk.frozen 0
      have hf1 := hk.frozen 1
      have HK := Lib.hid hk
      have HB := Lib.hid hB
      clear hk hB hb H
      go_frame
      unfold Rv
      go_wp2_with fail
      exact rat_ends rfl rfl rfl ((HK.out.set 0 _).set 1 _) ((HB.out.setCell (by simp) _).setCell (by simp) _)
  · obtain rfl : q = Q := by rw [HQ.out]; exact if_neg h0
    by_cases hP : P = 0
    · subst hP
      have hQ : ¬ q = 0 := fun h => h0 ⟨rfl, h⟩
      clear h0
      go_enter Tryd.func71, Tryd.ntmps71
      go_wp2_with fail
      have H := Lib.hid (two_new w (Rc 0 q) (Rc 0 0) 47 47)
      refine wp_region_list [8, 9, 10] [.is (Rv 0 q), .is (Rv 0 q), .is (.bool z)] (by kernel_rfl) (by kernel_rfl) ?_ ?_
      · intro i hi b w' hb hd hx o ho
        match i, hi with
        | 0, _ =>
          obtain rfl := Option.some.inj ho
          have e : b.tmps.getD 1 undef = .pointer (some ⟨w.heap.size, 0, none⟩) := hx 1 rfl
          have hr := load_rat w' w.heap.size 0 q (H.out.1.below hb H.out.1.lt)
          rw [← e] at hr
          exact runs_value rfl hr ⟨rfl, Below.refl _ _⟩
        | 1, _ =>
          obtain rfl := Option.some.inj ho
          have e : b.tmps.getD 1 undef = .pointer (some ⟨w.heap.size, 0, none⟩) := hx 1 rfl
          have hr := load_rat w' w.heap.size 0 q (H.out.1.below hb H.out.1.lt)
          rw [← e] at hr
          exact runs_value rfl hr ⟨rfl, Below.refl _ _⟩
        | 2, _ =>
          obtain rfl := Option.some.inj ho
          have e : b.tmps.getD 9 undef = Rv 0 q := hd 1 (by kernel_rfl) (by decide)
          refine runs_call rfl (fun _ _ => rfl) ?_
          show Calls _ _ #[b.tmps.getD 9 undef] w' _
          rw [e]
          exact (HV.out w').mono fun e w'' h => ⟨_, h.1, rfl, h.2⟩
      · intro vals w' hb hf
        have e0 : vals 0 = Rv 0 q := hf 0 (by decide)
        have e2 : vals 2 = .bool z := hf 2 (by decide)
        simp only [puts, List.length_cons, List.length_nil, Nat.zero_add, Nat.reduceAdd, List.drop_succ_cons, List.drop_zero, e0, e2]
        clear e0 e2 hf
        have hk := H.out.2.1.below hb H.out.2.1.lt
        have hB := H.out.2.2.trans (hb.mono H.out.2.2.size)
        have hc0 := hk.cell 0 _ rfl
        have hc1 := hk.cell 1 _ rfl
        have hf0 := hk.frozen 0
        have hf1 := hk.frozen 1
        have HK := Lib.hid hk
        have HB := Lib.hid hB
        clear hk hB hb H
        go_frame
        unfold Rv
        go_wp2_with fail
        exact rat_ends rfl rfl rfl ((HK.out.set 0 _).set 1 _) ((HB.out.setCell (by simp) _).setCell (by simp) _)
    · clear h0
      go_enter Tryd.func71, Tryd.ntmps71
      go_wp2_with fail
      have H := Lib.hid (two_new w (Rc P q) (Rc 0 0) 47 47)
      refine wp_region_list [8, 9, 10] [.is (Rv P q), .is (Rv P q), .is (.bool z)] (by kernel_rfl) (by kernel_rfl) ?_ ?_
      · intro i hi b w' hb hd hx o ho
        match i, hi with
        | 0, _ =>
          obtain rfl := Option.some.inj ho
          have e : b.tmps.getD 1 undef = .pointer (some ⟨w.heap.size, 0, none⟩) := hx 1 rfl
          have hr := load_rat w' w.heap.size P q (H.out.1.below hb H.out.1.lt)
          rw [← e] at hr
          exact runs_value rfl hr ⟨rfl, Below.refl _ _⟩
        | 1, _ =>
          obtain rfl := Option.some.inj ho
          have e : b.tmps.getD 1 undef = .pointer (some ⟨w.heap.size, 0, none⟩) := hx 1 rfl
          have hr := load_rat w' w.heap.size P q (H.out.1.below hb H.out.1.lt)
          rw [← e] at hr
          exact runs_value rfl hr ⟨rfl, Below.refl _ _⟩
        | 2, _ =>
          obtain rfl := Option.some.inj ho
          have e : b.tmps.getD 9 undef = Rv P q := hd 1 (by kernel_rfl) (by decide)
          refine runs_call rfl (fun _ _ => rfl) ?_
          show Calls _ _ #[b.tmps.getD 9 undef] w' _
          rw [e]
          exact (HV.out w').mono fun e w'' h => ⟨_, h.1, rfl, h.2⟩
      · intro vals w' hb hf
        have e0 : vals 0 = Rv P q := hf 0 (by decide)
        have e2 : vals 2 = .bool z := hf 2 (by decide)
        simp only [puts, List.length_cons, List.length_nil, Nat.zero_add, Nat.reduceAdd, List.drop_succ_cons, List.drop_zero, e0, e2]
        clear e0 e2 hf
        have hk := H.out.2.1.below hb H.out.2.1.lt
        have hB := H.out.2.2.trans (hb.mono H.out.2.2.size)
        have hc0 := hk.cell 0 _ rfl
        have hc1 := hk.cell 1 _ rfl
        have hf0 := hk.frozen 0
        have hf1 := hk.frozen 1
        have HK := Lib.hid hk
        have HB := Lib.hid hB
        clear hk hB hb H
        go_frame
        unfold Rv
        go_wp2_with fail
        exact rat_ends rfl rfl rfl ((HK.out.set 0 _).set 1 _) ((HB.out.setCell (by simp) _).setCell (by simp) _)
end Go.Proofs.YtcejokbbiinbkaaDoor
end

