/- The contract of dioramalaw04.three. -/
import Derived.Test.YtbkgigbalnmbkaaDoorRatioPo
import Derived.Test.YtbkgigbalnmbkaaDoorRatioPf
import Derived.Test.YtbkgigbalnmbkaaDoorFactsO
namespace Go.Proofs.YtbkgigbalnmbkaaDoor
open Go.RowKit
set_option linter.unusedVariables false
set_option maxRecDepth 100000

/-- Three valid fractions. -/
def Any3 (w : World) (e : Ending) (w' : World) : Prop := ∃ P1 Q1 P2 Q2 P3 Q3, e = .returned (.tuple #[Rv P1 Q1, Rv P2 Q2, Rv P3 Q3]) ∧ Rt.Ok P1 Q1 ∧ Rt.Ok P2 Q2 ∧ Rt.Ok P3 Q3 ∧ Below w.heap.size w w'

theorem results_three {fn : Func} {p q r : Tmp} (h : fn.results = #[.cell p 23, .cell q 23, .cell r 23]) (tmps : Array Value) (W : World) (g k l : Nat) (x y x' y' x2 y2 : Int)
    (hp : tmps.getD p undef = .pointer (some ⟨g, 0, none⟩)) (hq : tmps.getD q undef = .pointer (some ⟨k, 0, none⟩)) (hr : tmps.getD r undef = .pointer (some ⟨l, 0, none⟩)) (hg : Blk W g (Rc x y) 23) (hk : Blk W k (Rc x' y') 23) (hl : Blk W l (Rc x2 y2) 23) :
    (results fn tmps).run Tryd.prog W = .ok (.tuple #[Rv x y, Rv x' y', Rv x2 y2]) W := by
  have e1 := run_loadVar_row (P := Tryd.prog) W g 23 23 (Rc x y).toArray (0, 0) _ hg Tryd.underlying23 rfl (by kernel_rfl)
  have e2 := run_loadVar_row (P := Tryd.prog) W k 23 23 (Rc x' y').toArray (0, 0) _ hk Tryd.underlying23 rfl (by kernel_rfl)
  have e3 := run_loadVar_row (P := Tryd.prog) W l 23 23 (Rc x2 y2).toArray (0, 0) _ hl Tryd.underlying23 rfl (by kernel_rfl)
  rw [Array.getD_eq_getD_getElem?] at hp hq hr
  simp only [results, h]
  simp [Sem.run_bind, Result.andThen, hp, hq, hr, asAddr, e1, e2, e3]
  exact ⟨rfl, rfl, rfl⟩

set_option maxHeartbeats 4000000 in
theorem three_any (A : Option Addr) (c : Nat) (l : List Int) (w : World) (hl : l.length ≤ 9223372036854775807) (hc : l.length ≤ c) (hr : Rd w w.heap.size A (l.map iv)) (hn : ∀ n ∈ l, In64 n) :
    Calls Tryd.prog 23 #[.slice A l.length c] w (Any3 w) := by
  have ha := fun W i k (h : Below w.heap.size w W) (hi : In64 i) (hk : In64 k) => at_any A c l i k W hl hc ((hr.below h).more h.size) hn hi hk
  obtain ⟨n, hnl⟩ : ∃ n, n = l.length := ⟨_, rfl⟩
  obtain ⟨v, hv⟩ : ∃ v : Int → Int → Int, v = fun i k => atv l i k := ⟨_, rfl⟩
  have hva : ∀ i k, In64 k → In64 (v i k) := fun i k h => by rw [hv]; exact atv_in h
  have ha2 : ∀ W i k, Below w.heap.size w W → In64 i → In64 k → Calls Tryd.prog 16 #[.slice A n c, .int .i64 i, .int .i64 k] W fun e w' => e = .returned (.int .i64 (v i k)) ∧ w' = W := fun W i k h hi hk => by
    rw [hnl, hv]; exact ha W i k h hi hk
  rw [← hnl]
  have HA := Lib.hid ha2
  have HV := Lib.hid hva
  clear ha ha2 hva hv hnl hl hc hr hn
  go_enter Tryd.func23, Tryd.ntmps23
  go_wp2_with fail
  have hS := three_new w (Rc 0 0) (Rc 0 0) (Rc 0 0) 23 23 23
  have H := Lib.hid hS
  clear hS
  refine (HA.out _ 0 1600 H.out.2.2.2 ⟨by decide, by decide⟩ ⟨by decide, by decide⟩).mono ?_
  rintro e w' ⟨rfl, rfl⟩
  go_wp2_with fail
  refine (HA.out _ 1 120 H.out.2.2.2 ⟨by decide, by decide⟩ ⟨by decide, by decide⟩).mono ?_
  rintro e w' ⟨rfl, rfl⟩
  go_wp2_with fail
  refine (some_any _ _ _ (HV.out _ _ ⟨by decide, by decide⟩) (HV.out _ _ ⟨by decide, by decide⟩)).mono ?_
  rintro e w2 ⟨P1, Q1, rfl, ho1, hb⟩
  have L := Lib.hid (And.intro (H.out.1.below hb H.out.1.lt) (And.intro (H.out.2.1.below hb H.out.2.1.lt) (And.intro (H.out.2.2.1.below hb H.out.2.2.1.lt) (H.out.2.2.2.trans (hb.mono H.out.2.2.2.size)))))
  have M := Lib.hid (And.intro (Blk.new w2 (Rc P1 Q1) 23) (And.intro (L.out.1.alloc (.cells (Rc P1 Q1).toArray 23)) (And.intro (L.out.2.1.alloc (.cells (Rc P1 Q1).toArray 23)) (And.intro (L.out.2.2.1.alloc (.cells (Rc P1 Q1).toArray 23)) (L.out.2.2.2.alloc L.out.2.2.2.size (.cells (Rc P1 Q1).toArray 23))))))
  have HO1 := Lib.hid ho1
  have HQ0 := Lib.hid L.out.2.2.1.lt
  clear H hb L ho1
  simp only [Rv_def]
  go_wp2_with fail
  refine (HA.out _ 2 1600 M.out.2.2.2.2 ⟨by decide, by decide⟩ ⟨by decide, by decide⟩).mono ?_
  rintro e w' ⟨rfl, rfl⟩
  go_wp2_with fail
  refine (HA.out _ 3 120 M.out.2.2.2.2 ⟨by decide, by decide⟩ ⟨by decide, by decide⟩).mono ?_
  rintro e w' ⟨rfl, rfl⟩
  go_wp2_with fail
  refine (some_any _ _ _ (HV.out _ _ ⟨by decide, by decide⟩) (HV.out _ _ ⟨by decide, by decide⟩)).mono ?_
  rintro e w3 ⟨P2, Q2, rfl, ho2, hb⟩
  have hB := M.out.2.2.2.2.trans (hb.mono M.out.2.2.2.2.size)
  have N := Lib.hid (And.intro (Blk.new w3 (Rc P2 Q2) 23) (And.intro ((M.out.1.below hb M.out.1.lt).alloc (.cells (Rc P2 Q2).toArray 23)) (And.intro ((M.out.2.1.below hb M.out.2.1.lt).alloc (.cells (Rc P2 Q2).toArray 23))
    (And.intro ((M.out.2.2.1.below hb M.out.2.2.1.lt).alloc (.cells (Rc P2 Q2).toArray 23)) (And.intro ((M.out.2.2.2.1.below hb M.out.2.2.2.1.lt).alloc (.cells (Rc P2 Q2).toArray 23)) (hB.alloc hB.size (.cells (Rc P2 Q2).toArray 23)))))))
  have HO2 := Lib.hid ho2
  have hq2 := (M.out.2.2.2.1.below hb M.out.2.2.2.1.lt).lt
  have hq3 := HQ0.out
  clear HQ0
  clear M hb hB ho2
  generalize w2.heap.size = b1 at *
  simp only [Rv_def]
  go_wp2_with fail
  obtain ⟨W, hW⟩ : ∃ W, W = w3.alloc (.cells (Rc P2 Q2).toArray 23) := ⟨_, rfl⟩
  rw [show w3.alloc (.cells #[.int .i64 P2, .int .i64 Q2] 23) = W from hW.symm]
  rw [← hW] at N
  clear hW
  generalize w3.heap.size = b2 at *
  have hq1 := N.out.2.1.lt
  have HQ := Lib.hid (And.intro hq2 hq3)
  clear hq1 hq2 hq3
  refine wp_region_listX [17, 18, 19, 20, 21, 22, 23, 1000007] (fun d _ w' => Blk w' b1 (Rc P1 Q1) 23 ∧ Blk w' b2 (Rc P2 Q2) 23 ∧ Blk w' w.heap.size (if d 7 = true then Rc P1 Q1 else Rc 0 0) 23 ∧ Blk w' (w.heap.size + 1) (Rc 0 0) 23 ∧ Blk w' (w.heap.size + 2) (Rc 0 0) 23 ∧ Below w.heap.size w w') (fun _ _ => True)
    [fun x _ => x = Rv P1 Q1, fun x _ => x = Rv P2 Q2, fun x _ => x = .slice A n c, fun x _ => x = .int .i64 (v 4 1600), fun x _ => x = .slice A n c, fun x _ => x = .int .i64 (v 5 120), fun x _ => ∃ P Q, x = Rv P Q ∧ Rt.Ok P Q, fun _ _ => True]
    (by intro f hf v w w' h _; simp only [List.mem_cons, List.not_mem_nil, or_false] at hf; rcases hf with rfl | rfl | rfl | rfl | rfl | rfl | rfl | rfl <;> exact h)
    (fun _ => ⟨N.out.2.1.drew, N.out.1.drew, N.out.2.2.1.drew, N.out.2.2.2.1.drew, N.out.2.2.2.2.1.drew, below_drewN N.out.2.2.2.2.2 1⟩) (by kernel_rfl) (by kernel_rfl) ?_ ?_
  · intro z hz d vs b w' hJ hu hd _ hx o ho
    match z, hz with
    | 0, _ =>
      obtain rfl := Option.some.inj ho
      have e : b.tmps.getD 5 undef = .pointer (some ⟨b1, 0, none⟩) := hx 5 rfl
      have hr := load_rat w' b1 P1 Q1 hJ.1
      rw [← e] at hr
      exact runs_value rfl hr ⟨rfl, trivial, hJ⟩
    | 1, _ =>
      obtain rfl := Option.some.inj ho
      have e : b.tmps.getD 6 undef = .pointer (some ⟨b2, 0, none⟩) := hx 6 rfl
      have hr := load_rat w' b2 P2 Q2 hJ.2.1
      rw [← e] at hr
      exact runs_value rfl hr ⟨rfl, trivial, hJ⟩
    | 2, _ =>
      obtain rfl := Option.some.inj ho
      exact ⟨hx 0 rfl, trivial, hJ⟩
    | 3, _ =>
      obtain rfl := Option.some.inj ho
      have e : b.tmps.getD 19 undef = .slice A n c := (hd 2 (by kernel_rfl) (by decide)).2 (by decide)
      refine runs_call rfl (fun _ _ => rfl) ?_
      show Calls _ _ #[b.tmps.getD 19 undef, .int .i64 4, .int .i64 1600] w' _
      rw [e]
      refine (HA.out w' 4 1600 hJ.2.2.2.2.2 ⟨by decide, by decide⟩ ⟨by decide, by decide⟩).mono ?_
      rintro e w2 ⟨rfl, rfl⟩
      exact ⟨_, rfl, rfl, trivial, hJ⟩
    | 4, _ =>
      obtain rfl := Option.some.inj ho
      exact ⟨hx 0 rfl, trivial, hJ⟩
    | 5, _ =>
      obtain rfl := Option.some.inj ho
      have e : b.tmps.getD 21 undef = .slice A n c := (hd 4 (by kernel_rfl) (by decide)).2 (by decide)
      refine runs_call rfl (fun _ _ => rfl) ?_
      show Calls _ _ #[b.tmps.getD 21 undef, .int .i64 5, .int .i64 120] w' _
      rw [e]
      refine (HA.out w' 5 120 hJ.2.2.2.2.2 ⟨by decide, by decide⟩ ⟨by decide, by decide⟩).mono ?_
      rintro e w2 ⟨rfl, rfl⟩
      exact ⟨_, rfl, rfl, trivial, hJ⟩
    | 6, _ =>
      obtain rfl := Option.some.inj ho
      have e1 : b.tmps.getD 20 undef = .int .i64 (v 4 1600) := (hd 3 (by kernel_rfl) (by decide)).2 (by decide)
      have e2 : b.tmps.getD 22 undef = .int .i64 (v 5 120) := (hd 5 (by kernel_rfl) (by decide)).2 (by decide)
      refine runs_call rfl (fun _ _ => rfl) ?_
      show Calls _ _ #[b.tmps.getD 20 undef, b.tmps.getD 22 undef] w' _
      rw [e1, e2]
      refine (some_any _ _ w' (HV.out _ _ ⟨by decide, by decide⟩) (HV.out _ _ ⟨by decide, by decide⟩)).mono ?_
      rintro e w2 ⟨P3, Q3, rfl, ho3, hb⟩
      exact ⟨_, rfl, ⟨P3, Q3, rfl, ho3⟩, trivial, hJ.1.below hb hJ.1.lt, hJ.2.1.below hb hJ.2.1.lt, hJ.2.2.1.below hb hJ.2.2.1.lt, hJ.2.2.2.1.below hb hJ.2.2.2.1.lt, hJ.2.2.2.2.1.below hb hJ.2.2.2.2.1.lt, hJ.2.2.2.2.2.trans (hb.mono hJ.2.2.2.2.2.size)⟩
    | 7, _ =>
      obtain rfl := Option.some.inj ho
      have hu : d 7 = false := hu
      have e0 : b.tmps.getD 17 undef = Rv P1 Q1 := (hd 0 (by kernel_rfl) (by decide)).2 (by decide)
      have e6 : b.tmps.getD 2 undef = .pointer (some ⟨w.heap.size, 0, none⟩) := hx 2 rfl
      have hz8 := hJ.2.2.1
      rw [hu] at hz8
      have hz8 : Blk w' w.heap.size (Rc 0 0) 23 := hz8
      have hr := run_storeAt_mid (P := Tryd.prog) w' w.heap.size 0 23 (Rc P1 Q1).toArray (hz8.there 0 _ (Nat.le_refl 2)) (by kernel_rfl) (by simp [Rc, Value.oneCell'])
      rw [show (Value.agg (Rc P1 Q1).toArray) = b.tmps.getD 17 undef from e0.symm, ← e6] at hr
      have hq := HQ.out
      refine runs_unit rfl hr ⟨trivial, trivial, Blk.outside _ _ _ _ hJ.1 (by omega), Blk.outside _ _ _ _ hJ.2.1 (by omega), hz8.whole (Rc P1 Q1) rfl, Blk.outside _ _ _ _ hJ.2.2.2.1 (by omega), Blk.outside _ _ _ _ hJ.2.2.2.2.1 (by omega), below_setCells _ (Nat.le_refl _) _ _ _ hJ.2.2.2.2.2⟩
  · intro d vals w' hJ hall hf
    have e0 : vals 0 = Rv P1 Q1 := hf 0 (by decide)
    have e1 : vals 1 = Rv P2 Q2 := hf 1 (by decide)
    obtain ⟨P3, Q3, e6, ho3⟩ : ∃ P Q, vals 6 = Rv P Q ∧ Rt.Ok P Q := hf 6 (by decide)
    simp only [puts, List.length_cons, List.length_nil, Nat.zero_add, Nat.reduceAdd, List.drop_succ_cons, List.drop_zero, e0, e1, e6]
    have d1 := hJ.2.2.1
    rw [hall 7 (by decide)] at d1
    have d1 : Blk w' w.heap.size (Rc P1 Q1) 23 := d1
    obtain ⟨⟨c10, c11⟩, f10, f11⟩ := Rc_facts hJ.2.2.2.1
    obtain ⟨⟨c20, c21⟩, f20, f21⟩ := Rc_facts hJ.2.2.2.2.1
    have m1 := Rc_other (Rc_other d1 (c := w.heap.size + 1) (by simp) (.int .i64 P2) (.int .i64 Q2)) (c := w.heap.size + 2) (by simp) (.int .i64 P3) (.int .i64 Q3)
    have m2 := Rc_other (Rc_set hJ.2.2.2.1 P2 Q2) (c := w.heap.size + 2) (by simp) (.int .i64 P3) (.int .i64 Q3)
    have m3 := Rc_set (Rc_other hJ.2.2.2.2.1 (c := w.heap.size + 1) (by simp) (.int .i64 P2) (.int .i64 Q2)) P3 Q3
    have mB := below_set2 (c := w.heap.size + 2) (below_set2 (c := w.heap.size + 1) hJ.2.2.2.2.2 (by simp) (.int .i64 P2) (.int .i64 Q2)) (by simp) (.int .i64 P3) (.int .i64 Q3)
    have K := Lib.hid (And.intro m1 (And.intro m2 (And.intro m3 mB)))
    have HO3 := Lib.hid ho3
    clear e0 e1 e6 d1 m1 m2 m3 mB hJ hall hf ho3
    simp only [Rv_def]
    go_frame
    go_wp2_with fail
    exact bodyPost_ret (results_three rfl _ _ w.heap.size (w.heap.size + 1) (w.heap.size + 2) P1 Q1 P2 Q2 P3 Q3 rfl rfl rfl K.out.1 K.out.2.1 K.out.2.2.1) rfl ⟨P1, Q1, P2, Q2, P3, Q3, rfl, HO1.out, HO2.out, HO3.out, K.out.2.2.2⟩
end Go.Proofs.YtbkgigbalnmbkaaDoor
