import Derived.Deep.LoopGhost
import Derived.Test.YtjdidnonfmdfmaaDoorJSplitPb

section
/- split: the way down to a part. -/


namespace Go.Proofs.YtjdidnonfmdfmaaDoor
open Go.RowKit
set_option linter.unusedVariables false
set_option maxRecDepth 100000

/-- A node's four numbers. -/
structure NodeQ where
  f : Int
  n : Int
  b : Int
  t : Int
def NodeQ.v (q : NodeQ) : Value := nd q.f q.n q.b q.t
def NodeQ.c (q : NodeQ) : List Value := Nc q.f q.n q.b q.t
/-- One step of the way: the halves, and which of them is wanted. -/
def StepQ (S : Value) (H : FuncId) (d : Value) (w : World) (q q' : NodeQ) : Prop :=
  ∃ (l r : NodeQ) (c : Bool), (∀ W, Below w.heap.size w W → Calls Tryd.prog 43 #[S, q.v] W fun e w' => e = .returned (.tuple #[l.v, r.v]) ∧ Below W.heap.size W w') ∧
    (∀ W, Below w.heap.size w W → Calls Tryd.prog H #[r.v, d] W fun e w' => e = .returned (.bool c) ∧ Below W.heap.size W w') ∧ q' = if c then r else l

theorem two_new2 (w : World) (X Y : List Value) (t u : TypeId) : Blk ((w.alloc (.cells X.toArray t)).alloc (.cells Y.toArray u)) w.heap.size X t ∧ Blk ((w.alloc (.cells X.toArray t)).alloc (.cells Y.toArray u)) (w.heap.size + 1) Y u ∧
    Below w.heap.size w ((w.alloc (.cells X.toArray t)).alloc (.cells Y.toArray u)) := by
  refine ⟨(Blk.new w _ _).alloc _, ?_, ((Below.refl _ _).alloc (Nat.le_refl _) _).alloc (by simp) _⟩
  have h := Blk.new (w.alloc (.cells X.toArray t)) Y u
  simpa using h

set_option maxHeartbeats 8000000 in
theorem down_any (s : ByteArray) (A : Option Addr) (len cap : Nat) (T N lo hi : Int) (H : FuncId) (d : Value) (K : Nat) (q : Nat → NodeQ) (w : World) (hcf : ∀ (args : Array Value) (W : World), (callFunc H args).run Tryd.prog W = .ok (.enter H args) W)
    (h0 : q 0 = ⟨0, N, 0, T⟩) (h1 : ∀ i, i < K → 1 < (q i).n) (hK : ¬ 1 < (q K).n) (hS : ∀ i, i < K → StepQ (spl s A len cap T N lo hi) H d w (q i) (q (i + 1))) :
    Calls Tryd.prog 33 #[spl s A len cap T N lo hi, .func (.func H) #[] #[d]] w fun e w' => e = .returned (q K).v ∧ Below w.heap.size w w' := by
  have cR := fun W => root_any s A len cap T N lo hi W
  simp only [spl_def, nd_def] at cR
  have CR := Lib.hid cR
  have HS := Lib.hid (And.intro h0 (And.intro h1 (And.intro hK (And.intro hS hcf))))
  obtain ⟨ans, hans⟩ : ∃ a, a = (q K).v := ⟨_, rfl⟩
  rw [← hans]
  have HA := Lib.hid hans
  rw [spl_def]
  clear cR h0 h1 hK hS hcf hans
  go_enter Tryd.func33, Tryd.ntmps33
  go_wp2_with fail
  have g := two_new2 w (Sc s A len cap T N lo hi) (Nc 0 0 0 0) 28 59
  have hg := Lib.hid g
  clear g
  unfold Sc Nc at hg
  refine (CR.out _).mono ?_
  rintro e w3 ⟨rfl, hb3⟩
  have HB := Lib.hid (And.intro (hg.out.1.below hb3 hg.out.1.lt) (And.intro (hg.out.2.1.below hb3 hg.out.2.1.lt) (hg.out.2.2.trans (hb3.mono hg.out.2.2.size))))
  clear hb3 CR
  go_wp2_with fail
  obtain ⟨W4, hW4⟩ : ∃ W, W = w3.alloc (.cells #[.int .i64 0, .int .i64 N, .int .i64 0, .int .i64 T] 59) := ⟨_, rfl⟩
  have hB4 : Blk W4 w3.heap.size (q 0).c 59 := by rw [HS.out.1, hW4]; exact Blk.new w3 (Nc 0 N 0 T) _
  have hb4 : Below w3.heap.size w3 W4 := by rw [hW4]; exact (Below.refl _ _).alloc (Nat.le_refl _) _
  have hlt := HB.out.1.lt
  have hlt2 := HB.out.2.1.lt
  have HB4 := Lib.hid (And.intro hB4 (And.intro (HB.out.1.below hb4 hlt) (And.intro (HB.out.2.1.below hb4 hlt2) (HB.out.2.2.trans (hb4.mono HB.out.2.2.size)))))
  rw [← hW4]
  clear hW4 hB4 hb4 HB hg
  go_loopg [6] (K - 0) (fun k z wr => ∃ j : Nat, j ≤ K ∧ k = K - j ∧ Blk wr w3.heap.size (q j).c 59 ∧ Blk wr w.heap.size (Sc s A len cap T N lo hi) 28 ∧ Blk wr (w.heap.size + 1) (Nc 0 0 0 0) 59 ∧ Below w.heap.size w wr)
  case atStart => exact ⟨0, Nat.zero_le _, rfl, HB4.out.1, HB4.out.2.1, HB4.out.2.2.1, HB4.out.2.2.2⟩
  case round =>
    clear HB4
    obtain ⟨j, hj, hgk, hA, hSb, hR, hb⟩ := hrel
    have HG := Lib.hid hgk
    clear hgk
    have hstep := HS.out.2.2.2.1 j
    have hone := HS.out.2.1 j
    have hlast := HS.out.2.2.1
    obtain ⟨qj, hqj⟩ : ∃ x, x = q j := ⟨_, rfl⟩
    rw [← hqj] at hA hone hstep
    by_cases hlt : j < K
    · obtain ⟨l, r, c, hH, hW, hq⟩ := hstep hlt
      have h1 := hone hlt
      obtain ⟨f, n, b, t⟩ := qj
      obtain ⟨lf, ln, lb, lt⟩ := l
      obtain ⟨rf, rn, rb, rt⟩ := r
      simp only [NodeQ.v, NodeQ.c, nd_def, spl_def] at hA hH hW h1
      have hHH := Lib.hid (hH wr hb)
      have HW := Lib.hid (And.intro hW hq)
      have a0 := hA.cell 0 _ rfl
      have a1 := hA.cell 1 _ rfl
      have a2 := hA.cell 2 _ rfl
      have a3 := hA.cell 3 _ rfl
      have s0 := hSb.cell 0 _ rfl
      have s1 := hSb.cell 1 _ rfl
      have s2 := hSb.cell 2 _ rfl
      have s3 := hSb.cell 3 _ rfl
      have s4 := hSb.cell 4 _ rfl
      have s5 := hSb.cell 5 _ rfl
      have HM := Lib.hid (And.intro hA (And.intro hSb (And.intro hR hb)))
      clear hA hSb hR hb hH hW hq hone hstep hlast hqj
      go_wp2_with fail
      refine hHH.out.mono ?_
      rintro e w5 ⟨rfl, hb5⟩
      have j0 := HM.out.1.below hb5 HM.out.1.lt
      have j1 := HM.out.2.1.below hb5 HM.out.2.1.lt
      have j2 := HM.out.2.2.1.below hb5 HM.out.2.2.1.lt
      have hb6 := HM.out.2.2.2.trans (hb5.mono HM.out.2.2.2.size)
      have hlt6 := j0.lt
      have d0 := j0.cell 0 _ rfl
      have d1 := j0.cell 1 _ rfl
      have d2 := j0.cell 2 _ rfl
      have d3 := j0.cell 3 _ rfl
      have f0 := j0.frozen 0
      have f1 := j0.frozen 1
      have f2 := j0.frozen 2
      have f3 := j0.frozen 3
      have HM6 := Lib.hid (And.intro j0 (And.intro j1 (And.intro j2 hb6)))
      have HC := fun W => HS.out.2.2.2.2 #[.agg #[.int .i64 rf, .int .i64 rn, .int .i64 rb, .int .i64 rt], d] W
      clear hb5 j0 j1 j2 hb6 hHH a0 a1 a2 a3 s0 s1 s2 s3 s4 s5 HM
      go_wp2_with fail
      obtain ⟨W7, hW7⟩ : ∃ W, W = (((((w5.setCell ⟨w3.heap.size, 0, none⟩ (.int .i64 lf)).setCell ⟨w3.heap.size, 1, none⟩ (.int .i64 ln)).setCell ⟨w3.heap.size, 2, none⟩ (.int .i64 lb)).setCell ⟨w3.heap.size, 3, none⟩ (.int .i64 lt)).alloc (.cells #[.int .i64 lf, .int .i64 ln, .int .i64 lb, .int .i64 lt] 59)).alloc (.cells #[.int .i64 rf, .int .i64 rn, .int .i64 rb, .int .i64 rt] 59) := ⟨_, rfl⟩
      have hsz : (((((w5.setCell ⟨w3.heap.size, 0, none⟩ (.int .i64 lf)).setCell ⟨w3.heap.size, 1, none⟩ (.int .i64 ln)).setCell ⟨w3.heap.size, 2, none⟩ (.int .i64 lb)).setCell ⟨w3.heap.size, 3, none⟩ (.int .i64 lt))).heap.size = w5.heap.size := by simp
      have g7 := two_new2 (((((w5.setCell ⟨w3.heap.size, 0, none⟩ (.int .i64 lf)).setCell ⟨w3.heap.size, 1, none⟩ (.int .i64 ln)).setCell ⟨w3.heap.size, 2, none⟩ (.int .i64 lb)).setCell ⟨w3.heap.size, 3, none⟩ (.int .i64 lt))) (Nc lf ln lb lt) (Nc rf rn rb rt) 59 59
      rw [hsz] at g7
      have hW8 : W7 = ((((((w5.setCell ⟨w3.heap.size, 0, none⟩ (.int .i64 lf)).setCell ⟨w3.heap.size, 1, none⟩ (.int .i64 ln)).setCell ⟨w3.heap.size, 2, none⟩ (.int .i64 lb)).setCell ⟨w3.heap.size, 3, none⟩ (.int .i64 lt))).alloc (.cells (Nc lf ln lb lt).toArray 59)).alloc (.cells (Nc rf rn rb rt).toArray 59) := hW7
      rw [← hW8] at g7
      have j0 := (Nc_set HM6.out.1 rfl (.int .i64 lf) (.int .i64 ln) (.int .i64 lb) (.int .i64 lt)).below g7.2.2 hlt6
      have j1 := (Nc_other HM6.out.2.1 (show w.heap.size ≠ w3.heap.size by omega) (.int .i64 lf) (.int .i64 ln) (.int .i64 lb) (.int .i64 lt)).below g7.2.2 HM6.out.2.1.lt
      have j2 := (Nc_other HM6.out.2.2.1 (show w.heap.size + 1 ≠ w3.heap.size by omega) (.int .i64 lf) (.int .i64 ln) (.int .i64 lb) (.int .i64 lt)).below g7.2.2 HM6.out.2.2.1.lt
      have hb7 := (Nc_below HM6.out.2.2.2 (show w.heap.size ≤ w3.heap.size by omega) (.int .i64 lf) (.int .i64 ln) (.int .i64 lb) (.int .i64 lt)).trans (g7.2.2.mono HM6.out.2.2.2.size)
      rw [← hW7]
      have HM7 := Lib.hid (And.intro j0 (And.intro j1 (And.intro j2 (And.intro hb7 g7.2.1))))
      clear hW7 hW8 hsz g7 j0 j1 j2 hb7 d0 d1 d2 d3 f0 f1 f2 f3 HM6 HC
      refine (HW.out.1 _ HM7.out.2.2.2.1).mono ?_
      rintro e w8 ⟨rfl, hb8⟩
      have j0 := HM7.out.1.below hb8 HM7.out.1.lt
      have j1 := HM7.out.2.1.below hb8 HM7.out.2.1.lt
      have j2 := HM7.out.2.2.1.below hb8 HM7.out.2.2.1.lt
      have j3 := HM7.out.2.2.2.2.below hb8 HM7.out.2.2.2.2.lt
      have hb9 := HM7.out.2.2.2.1.trans (hb8.mono HM7.out.2.2.2.1.size)
      have hq := HW.out.2
      cases c with
      | false =>
        rw [if_neg (by decide)] at hq
        have HN := Lib.hid (And.intro j0 (And.intro j1 (And.intro j2 (And.intro hb9 hq))))
        clear j0 j1 j2 j3 hb9 hq hb8
        go_wp2_with fail
        go_roundg (K - (j + 1))
        case measure => have := HG.out; omega
        case rel => exact ⟨j + 1, by omega, rfl, by rw [HN.out.2.2.2.2]; exact HN.out.1, HN.out.2.1, HN.out.2.2.1, HN.out.2.2.2.1⟩
      | true =>
        rw [if_pos rfl] at hq
        have d0 := j0.cell 0 _ rfl
        have d1 := j0.cell 1 _ rfl
        have d2 := j0.cell 2 _ rfl
        have d3 := j0.cell 3 _ rfl
        have f0 := j0.frozen 0
        have f1 := j0.frozen 1
        have f2 := j0.frozen 2
        have f3 := j0.frozen 3
        have r0 := j3.cell 0 _ rfl
        have r1 := j3.cell 1 _ rfl
        have r2 := j3.cell 2 _ rfl
        have r3 := j3.cell 3 _ rfl
        have HN := Lib.hid (And.intro (Nc_set j0 rfl (.int .i64 rf) (.int .i64 rn) (.int .i64 rb) (.int .i64 rt)) (And.intro (Nc_other j1 (show w.heap.size ≠ w3.heap.size by omega) (.int .i64 rf) (.int .i64 rn) (.int .i64 rb) (.int .i64 rt))
          (And.intro (Nc_other j2 (show w.heap.size + 1 ≠ w3.heap.size by omega) (.int .i64 rf) (.int .i64 rn) (.int .i64 rb) (.int .i64 rt)) (And.intro (Nc_below hb9 (show w.heap.size ≤ w3.heap.size by omega) (.int .i64 rf) (.int .i64 rn) (.int .i64 rb) (.int .i64 rt)) hq))))
        clear j0 j1 j2 j3 hb9 hq hb8
        go_wp2_with fail
        go_roundg (K - (j + 1))
        case measure => have := HG.out; omega
        case rel => exact ⟨j + 1, by omega, rfl, by rw [HN.out.2.2.2.2]; exact HN.out.1, HN.out.2.1, HN.out.2.2.1, HN.out.2.2.2.1⟩
    · obtain rfl : j = K := by omega
      rw [← hqj] at hlast
      obtain ⟨f, n, b, t⟩ := qj
      have hans : ans = nd f n b t := by rw [HA.out, ← hqj]; rfl
      subst hans
      simp only [NodeQ.c] at hA hlast
      have a0 := hA.cell 0 _ rfl
      have a1 := hA.cell 1 _ rfl
      have a2 := hA.cell 2 _ rfl
      have a3 := hA.cell 3 _ rfl
      have f0 := hR.frozen 0
      have f1 := hR.frozen 1
      have f2 := hR.frozen 2
      have f3 := hR.frozen 3
      have r0 := hR.cell 0 _ rfl
      have r1 := hR.cell 1 _ rfl
      have r2 := hR.cell 2 _ rfl
      have r3 := hR.cell 3 _ rfl
      have HN := Lib.hid (And.intro (Nc_set hR rfl (.int .i64 f) (.int .i64 n) (.int .i64 b) (.int .i64 t)) (Nc_below hb (show w.heap.size ≤ w.heap.size + 1 by omega) (.int .i64 f) (.int .i64 n) (.int .i64 b) (.int .i64 t)))
      clear hA hSb hR hb hqj hstep hone hlt HG HS HA
      go_wp2_with fail
      exact bodyPost_ret (results_cell_row rfl _ _ (w.heap.size + 1) 59 #[.int .i64 f, .int .i64 n, .int .i64 b, .int .i64 t] (0, 0) _ rfl HN.out.1 Tryd.underlying59 rfl (by kernel_rfl)) rfl ⟨rfl, HN.out.2⟩
end Go.Proofs.YtjdidnonfmdfmaaDoor
end

