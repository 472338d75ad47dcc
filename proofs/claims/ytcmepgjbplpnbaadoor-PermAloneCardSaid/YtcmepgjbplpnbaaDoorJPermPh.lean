import Derived.Test.YtcmepgjbplpnbaaDoorJPermPg

section
/- perm: All. -/

namespace Go.Proofs.YtcmepgjbplpnbaaDoor
open Go.RowKit Go.Shelf
set_option linter.unusedVariables false
set_option maxRecDepth 100000
attribute [local go_sem] Oper.semAt_some

theorem three_boxes (w : World) (v1 v2 v3 : Value) (t1 t2 t3 : TypeId) : Blk (((w.alloc (.cells #[v1] t1)).alloc (.cells #[v2] t2)).alloc (.cells #[v3] t3)) w.heap.size [v1] t1 ∧ Blk (((w.alloc (.cells #[v1] t1)).alloc (.cells #[v2] t2)).alloc (.cells #[v3] t3)) (w.heap.size + 1) [v2] t2 ∧
    Blk (((w.alloc (.cells #[v1] t1)).alloc (.cells #[v2] t2)).alloc (.cells #[v3] t3)) (w.heap.size + 2) [v3] t3 ∧ Below w.heap.size w (((w.alloc (.cells #[v1] t1)).alloc (.cells #[v2] t2)).alloc (.cells #[v3] t3)) := by
  obtain ⟨h1, h2, h3⟩ := two_boxes w v1 v2 t1 t2
  have k := Blk.new ((w.alloc (.cells #[v1] t1)).alloc (.cells #[v2] t2)) [v3] t3
  simp only [World.size_alloc] at k
  exact ⟨h1.alloc _, h2.alloc _, k, h3.alloc (by simp; omega) _⟩
set_option maxHeartbeats 1000000 in
theorem places_any (s : ByteArray) (A : Option Addr) (cap : Nat) (p : List Int) (n : Nat) (w : World) (h : PSrc s A cap p w) :
    Calls Tryd.prog 35 #[.string s, .slice A p.length cap, .int .i64 n] w fun e w' =>
      e = .returned (.func (.func 46) #[] #[.pointer (some ⟨w.heap.size + 2, 0, none⟩), .pointer (some ⟨w.heap.size, 0, none⟩), .pointer (some ⟨w.heap.size + 1, 0, none⟩)]) ∧ Seeded s A cap p w.heap.size (w.heap.size + 1) w' ∧ Blk w' (w.heap.size + 2) [.int .i64 n] 3 ∧ Below w.heap.size w w' := by
  have hmf : ∀ (fn : Fn) (first cap : Array Value) (w : World), (Instr.makeFunc fn first cap).run Tryd.prog w = .ok (.func fn first cap) w := fun _ _ _ _ => rfl
  have hk := three_boxes w (.string s) (.slice A p.length cap) (.int .i64 n) 9 22 3
  have HK := Lib.hid (And.intro hk h)
  obtain ⟨N, hN⟩ : ∃ N, N = p.length := ⟨_, rfl⟩
  have HN := Lib.hid hN
  rw [← hN]
  clear hk h hN
  go_enter Tryd.func35, Tryd.ntmps35
  go_wp2_with fail
  go_ret
  refine ⟨rfl, ?_, ?_, ?_⟩
  · rw [HN.out]
    exact ⟨HK.out.1.1, HK.out.1.2.1, HK.out.2.below HK.out.1.2.2.2⟩
  · rw [HN.out]
    exact HK.out.1.2.2.1
  · rw [HN.out]
    exact HK.out.1.2.2.2
theorem KUp.alloc {B : Nat} (W : World) (o : Obj) : KUp B W (W.alloc o) := ⟨by simp, fun k o' _ hk _ => (Below.heap_alloc W o k (Array.getElem?_eq_some_iff.1 hk).1).trans hk⟩
theorem KUp.cell {B : Nat} (W : World) (a : Addr) (v : Value) (h : a.block < B) : KUp B W (W.setCell a v) := ⟨by rw [size_setCell]; exact Nat.le_refl _, fun k o hB hk _ => (heap_setCell_other W a k v (by omega)).trans hk⟩
theorem Blk.grown2 {W W' : World} {row : Option Nat} {b : Nat} {vs : List Value} {t : TypeId} (h : Blk W b vs t) (hg : W.grownBy W' row) (hr : ∀ r, row = some r → ∃ o : Obj, W.heap[r]? = some o ∧ o.isCells = false) : Blk W' b vs t :=
  (hg.block b h.lt (fun e => by
    obtain ⟨o, ho, hc⟩ := hr b e.symm
    rw [show W.heap[b]? = _ from h] at ho
    cases ho
    cases hc)).trans h
/-- The row of all places, while it grows. -/
structure Grows (g ba c : Nat) (w : World) (pre : List Int) (W : World) : Prop where
  v : Blk W ba [.slice (some ⟨g, 0, none⟩) pre.length c] 22
  row : Room W g c pre
  bel : Below w.heap.size w W
theorem Grows.push {g ba c : Nat} {w : World} {pre : List Int} {W : World} (h : Grows g ba c w pre W) (x : Int) (hl : pre.length + 1 ≤ c) (h1 : ba ≠ g) (h2 : w.heap.size ≤ g) (h3 : w.heap.size ≤ ba) (o : Obj) :
    Grows g ba c w (pre ++ [x]) (((W.alloc o).setCell ⟨g, pre.length, none⟩ (iv x)).setCell ⟨ba, 0, none⟩ (.slice (some ⟨g, 0, none⟩) (pre.length + 1) c)) := by
  have hp := (h.row.alloc o).push x hl
  refine ⟨?_, hp.other _ _ (Ne.symm h1), ((h.bel.alloc h.bel.size o).setCell h2 _).setCell h3 _⟩
  rw [List.length_append]
  exact ((h.v.alloc o).other _ _ h1).set 0 _
theorem grows_own (g ba c : Nat) (w : World) (B : Nat) (hB : w.heap.size ≤ B) : OwnFrom B (Grows g ba c w) := fun pre W W' row h hg hr =>
  ⟨h.v.grown2 hg (fun r e => (hr r e).2), ⟨h.row.1, h.row.2.grown2 hg (fun r e => (hr r e).2)⟩, h.bel.grown hg h.bel.size (fun r e => Nat.le_trans hB (hr r e).1)⟩
theorem grows_row {g ba c : Nat} {w : World} {L : List Int} {W : World} (h : Grows g ba c w L W) (hg : w.heap.size ≤ g) (hc : c ≤ 65536) : W.ownsRow w.heap.size 3 1 (.slice (some ⟨g, 0, none⟩) L.length c) L.length (L.map iv) := by
  refine ⟨by simp, .inr ⟨g, c, _, rfl, hg, h.row.2, h.row.1, by unfold maxLen; omega, ?_, ?_⟩⟩
  · have := h.row.1
    simp
    omega
  · rw [Nat.mul_one, List.take_append_of_le_length (by simp), List.take_of_length_le (by simp)]
theorem wpListIn_append_room1 {F : Fence} {n : Nat} {ops : Array Oper} {rest : List Oper} {o : Oper} {a : Act} {Q : Exit → Act → World → Prop} (w : World) (hgd : o.guard = none) (s x : Operand)
    (ho : o.op = .call { callee := .builtin .append, args := #[s, x], argTypes := #[22, 22] }) (g c : Nat) (L : List Int) (z : Int) (V : Nat) (k : Nat) (hk : k = L.length)
    (hs : a.eval s = .slice (some ⟨g, 0, none⟩) k c) (hx : a.eval x = .slice (some ⟨V, 0, none⟩) 1 1) (h : Room w g c L) (hl : L.length + 1 ≤ c) (hv : w.cell? ⟨V, 0, none⟩ = some (iv z))
    (hq : wpListIn F n Tryd.prog ops Q rest (a.put o.dst (.slice (some ⟨g, 0, none⟩) (k + 1) c)) (w.setCell ⟨g, k, none⟩ (iv z))) : wpListIn F n Tryd.prog ops Q (o :: rest) a w := by
  subst hk
  have hrun := run_room w g c L z V o.type h hl hv
  refine wpListIn_plain hgd fun K hK => ?_
  unfold Oper.wpIn
  refine ⟨?_, ?_⟩
  · simp [Oper.about, ho, resolve, Target.leads, Sem.run_pure]
  · rw [Oper.semAt_plain F _ _ (by rw [ho]; intro c hc'; cases hc')]
    simp [execOp, ho, resolve, invoke, builtin, hs, hx, hrun, Result.andThen]
    exact hK _ _ hq

set_option maxHeartbeats 4000000 in
theorem permAll_ok (s : ByteArray) (A : Option Addr) (cap : Nat) (p : List Int) (n : Nat) (w : World) (h : PSrc s A cap p w) (h1 : s.size ≤ 32) (h2 : p.length ≤ 8) (h3 : n ≤ 65536) :
    Calls Tryd.prog 17 #[.string s, .slice A p.length cap, .int .i64 n] w (GivesI (allS s p n) 0 w) := by
  have cE := exceeds_any s A cap p.length n w (by omega) (by omega)
  rw [decide_eq_false (by omega)] at cE
  have hmk := make_room w n (n : Int) rfl h3
  obtain ⟨W0, hW0⟩ : ∃ W0, W0 = (w.alloc (.cells (List.replicate n (Value.int .i64 0)).toArray 3)).alloc (.cells #[.slice (some ⟨w.heap.size, 0, none⟩) 0 n] 22) := ⟨_, rfl⟩
  have hW1 : W0 = (w.alloc (.cells (Array.replicate n (Value.int .i64 0)) 3)).alloc (.cells #[.slice (some ⟨w.heap.size, 0, none⟩) 0 n] 22) := by rw [hW0]; simp
  have hsz : W0.heap.size = w.heap.size + 2 := by rw [hW0]; simp
  have hb0 : Below w.heap.size w W0 := by rw [hW0]; exact ((Below.refl _ _).alloc (Nat.le_refl _) _).alloc (by simp) _
  have hG : Grows w.heap.size (w.heap.size + 1) n w [] W0 := by
    have k0 := Room.new w n
    have k1 := Blk.new (w.alloc (.cells (List.replicate n (Value.int .i64 0)).toArray 3)) [.slice (some ⟨w.heap.size, 0, none⟩) 0 n] 22
    simp only [World.size_alloc] at k1
    refine ⟨?_, ?_, hb0⟩ <;> rw [hW0]
    · exact k1
    · exact k0.alloc _
  have cP := places_any s A cap p n W0 (h.below hb0)
  rw [hsz] at cP
  obtain ⟨N, hN⟩ : ∃ N, N = p.length := ⟨_, rfl⟩
  rw [← hN] at cE cP ⊢
  have CE := Lib.hid cE
  have CP := Lib.hid cP
  have HG := Lib.hid hG
  have HW := Lib.hid (And.intro hW1 hsz)
  have hni : ¬ (n : Int) < 0 := by omega
  clear cE cP hG hW0 hW1 hN h hb0 h1 h2 hsz
  refine (callsIn_wide (n := 5)).1 ?_
  refine callsIn_of_wp_marks Tryd.func17 rfl trivial ?_ rfl
  simp only [Tryd.ntmps17, List.size_toArray, List.length_cons, List.length_nil, Nat.reduceAdd, Nat.reduceSub, Array.replicate_succ, Array.replicate_zero, List.push_toArray, List.append_toArray, List.nil_append, List.cons_append]
  gi_wp2
  refine ⟨trivial, (callsIn_wide.2 CE.out).mono ?_⟩
  rintro e w1 ⟨rfl, rfl⟩
  gi_wp2
  rw [← HW.out.1]
  refine ⟨trivial, (callsIn_wide.2 CP.out).mono ?_⟩
  rintro e W1 ⟨rfl, hS, hn, hb1⟩
  clear hmk
  have hb1s := hb1.size
  have hG1 : Grows w1.heap.size (w1.heap.size + 1) n w1 [] W1 :=
    ⟨HG.out.v.below hb1 (by omega), ⟨HG.out.row.1, HG.out.row.2.below hb1 (by omega)⟩, HG.out.bel.trans (hb1.mono (by omega))⟩
  have hW1s : w1.heap.size + 2 ≤ W1.heap.size := by have := HW.out.2; omega
  have hps := places1_stops 4 (by omega) s A cap p n (w1.heap.size + 2 + 2) (w1.heap.size + 2) (w1.heap.size + 2 + 1) (w1.heap.size + 2) W1 hS hn h3 (by omega) hW1s
  clear hS hn hb1 hb1s
  gi_wp2
  refine wpIn_rangeFunc_ownF rfl (by omega) (gf := 46) (lb := #[.pointer (some ⟨w1.heap.size + 2 + 2, 0, none⟩), .pointer (some ⟨w1.heap.size + 2, 0, none⟩), .pointer (some ⟨w1.heap.size + 2 + 1, 0, none⟩)]) rfl trivial (enters_of Tryd.func46 (by kernel_rfl) rfl) hps
    KUp.trans (fun W l o o' hl h hc hw => KUp.put W l o o' (Nat.le_refl l) h hc hw) (Below.refl _ _) (fun _ => rfl)
    (Grows w1.heap.size (w1.heap.size + 1) n w1) (fun _ _ _ => False) (grows_own _ _ _ _ _ (by omega)) (fun _ _ _ _ _ hs _ _ => hs) hG1
    (fun x => { tmps := #[.string s, .slice A N cap, .int .i64 n, undef, undef, undef, .slice none 0 0, .int .i64 0, .pointer (some ⟨w1.heap.size + 1, 0, none⟩), .int .i64 x, .bool false, .string s, .slice A N cap, .int .i64 n, .bool false, .bool (decide ((n : Int) < 0)), .int .i64 n, .bool (decide ((n : Int) < 0)), .int .i64 n,
      .slice (some ⟨w1.heap.size, 0, none⟩) 0 n, .string s, .slice A N cap, .int .i64 n, .func (.func 46) #[] #[.pointer (some ⟨w1.heap.size + 2 + 2, 0, none⟩), .pointer (some ⟨w1.heap.size + 2, 0, none⟩), .pointer (some ⟨w1.heap.size + 2 + 1, 0, none⟩)], .int .i64 x, undef, undef, undef, undef, undef], defers := [] }) ?assign ?body ?done ?stop
  case assign =>
    intro l x W K hK
    gi_wp2
    exact hK
  case body =>
    rintro l pre x W hg hlt
    have c8 := hg.v.cell 0 _ rfl
    have hg2 := hg.push x (by omega) (by omega) (Nat.le_refl _) (by omega) (.cells #[.int .i64 x] 3)
    have HG2 := Lib.hid (And.intro hg hg2)
    have hrow := hg.row.alloc (.cells #[.int .i64 x] 3)
    have hcv := (Blk.new W [.int .i64 x] 3).cell 0 _ rfl
    have hv3 := ((hg.v.alloc (.cells #[.int .i64 x] 3)).other ⟨w1.heap.size, pre.length, none⟩ (iv x) (by show w1.heap.size + 1 ≠ w1.heap.size; omega))
    have c9 := hv3.cell 0 _ rfl
    have f9 := hv3.frozen 0
    have HR := Lib.hid (And.intro hrow hcv)
    clear hg hg2 hv3 hrow hcv
    gi_wp2_with (gi_at_builtin; refine wpListIn_append_room1 _ rfl (.tmp 25) (.tmp 27) rfl w1.heap.size n pre x W.heap.size pre.length rfl rfl rfl HR.out.1 (by omega) HR.out.2 ?_)
    exact ⟨((KeepsOthers.alloc _ _).trans (KeepsOthers.setCell _ _ _)).trans (KeepsOthers.setCell _ _ _),
      ((KUp.alloc _ _).trans (KUp.cell _ _ _ (by show w1.heap.size < w1.heap.size + 2; omega))).trans (KUp.cell _ _ _ (by show w1.heap.size + 1 < w1.heap.size + 2; omega)), HG2.out.2⟩
  case done =>
    rintro D xs W hD rfl hg hdf
    have c8 := hg.v.cell 0 _ rfl
    have hr := grows_row hg (Nat.le_refl _) h3
    have HD := Lib.hid (And.intro hr (And.intro hg.bel hD))
    clear hr hg hD
    gi_wp2
    refine ⟨by simp, .inl ⟨_, _, rfl, run_takeDeferred hdf, ?_⟩⟩
    refine ⟨_, results_tmp2 rfl _ _ _, ?_⟩
    refine ⟨_, rfl, ownsRow_putObj HD.out.1 _ hdf rfl, HD.out.2.1.grown (grownBy_putObj' W D _) HD.out.2.1.size (fun r e => by cases e; have := HD.out.2.2; omega)⟩
  case stop =>
    rintro D c pre W _ _ h _
    exact h.elim
end Go.Proofs.YtcmepgjbplpnbaaDoor
end

