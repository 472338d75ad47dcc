import Derived.Test.YtkelfcgomeojeaaDoorJSignPn

section
/- The closure of climb, above the leaves: its two calls of itself, in a region that draws its order. -/

namespace Go.Proofs.YtkelfcgomeojeaaDoor
open Go.RowKit
set_option linter.unusedVariables false
set_option maxRecDepth 100000

theorem run_sub1 (w : World) (m l : Nat) (h : m = l + 1) (hm : m ≤ 1000000) (x y : Operand) : (do eqGuard BinOp.sub 3 x y (.int .i64 m) (.int .i64 1); binOp BinOp.sub 3 (.int .i64 m) (.int .i64 1)).run Tryd.prog w = .ok (.int .i64 (l : Int)) w := by
  subst h
  go_simp
  rw [IntKind.wrap_i64]
  omega
theorem run_dbl (w : World) (k : Nat) (hk : k ≤ 1000000) (x y : Operand) : (do eqGuard BinOp.mul 3 x y (.int .i64 2) (.int .i64 k); binOp BinOp.mul 3 (.int .i64 2) (.int .i64 k)).run Tryd.prog w = .ok (.int .i64 ((2 * k : Nat) : Int)) w := by
  go_simp
  rw [IntKind.wrap_i64]
  omega
theorem run_add1 (w : World) (k : Nat) (hk : k ≤ 10000000) (x y : Operand) : (do eqGuard BinOp.add 3 x y (.int .i64 k) (.int .i64 1); binOp BinOp.add 3 (.int .i64 k) (.int .i64 1)).run Tryd.prog w = .ok (.int .i64 ((k + 1 : Nat) : Int)) w := by
  go_simp
  rw [IntKind.wrap_i64]
  omega
theorem CQ.put {e : Env} (hok : e.Ok) {n : Nat} {q : List UInt8} {W : World} (h : CQ e n q W) (n' : Nat) : CQ e n' q (W.setCell ⟨e.bp, 0, none⟩ (.slice (some ⟨e.bq, 0, none⟩) n' (e.h * 16))) :=
  ⟨h.cs.other _ _ hok.s.1, h.ct.other _ _ hok.t.1, h.cr.other _ _ hok.r.1, h.cn.other _ _ hok.n.1, h.ci.other _ _ hok.i.1, h.cp.set 0 _, h.cq.other _ _ (fun hh => hok.pq hh.symm), h.bel.setCell (by exact hok.base.1) _⟩
theorem Rel.put (e : Env) (W : World) (v : Value) : Rel e W (W.setCell ⟨e.bp, 0, none⟩ v) :=
  ⟨by rw [size_setCell]; exact Nat.le_refl _, fun b _ h1 _ => heap_setCell_other W ⟨e.bp, 0, none⟩ b v h1⟩
/-- A variable of a digest, made since W. -/
def isVar (e : Env) (W : World) (Z : List Value) (v : Value) (w : World) : Prop := ∃ b, v = .pointer (some ⟨b, 0, none⟩) ∧ W.heap.size ≤ b ∧ b ≠ e.bp ∧ b ≠ e.bq ∧ Blk w b Z 23
theorem isVar.lasts {e : Env} {W : World} {Z : List Value} {v : Value} {w w' : World} (h : isVar e W Z v w) (hr : Rel e w w') : isVar e W Z v w' := by
  obtain ⟨b, h1, h2, h3, h4, h5⟩ := h
  exact ⟨b, h1, h2, h3, h4, h5.rel hr h3 h4⟩
/-- While the two halves come up: the state of the path follows what is done; the two variables are apart. -/
structure Halves (e : Env) (W : World) (p p1 p2 : List UInt8) (d : Nat → Bool) (vals : Nat → Value) (w : World) : Prop where
  st : CQ e (if d 12 = true then p2 else if d 5 = true then p1 else p).length (if d 12 = true then p2 else if d 5 = true then p1 else p) w
  rel : Rel e W w
  ord : d 12 = true → d 5 = true
  apart : d 13 = true → d 14 = true → vals 13 ≠ vals 14
theorem Halves.keep {e : Env} {W : World} {p p1 p2 : List UInt8} {d : Nat → Bool} {vals : Nat → Value} {w : World} (h : Halves e W p p1 p2 d vals w) (i : Nat) (v : Value) (hi : i ≠ 5 ∧ i ≠ 12 ∧ i ≠ 13 ∧ i ≠ 14) :
    Halves e W p p1 p2 (fun j => if j = i then true else d j) (fun j => if j = i then v else vals j) w := by
  have e5 : (if (5 : Nat) = i then true else d 5) = d 5 := if_neg (by omega)
  have e12 : (if (12 : Nat) = i then true else d 12) = d 12 := if_neg (by omega)
  have e13 : (if (13 : Nat) = i then true else d 13) = d 13 := if_neg (by omega)
  have e14 : (if (14 : Nat) = i then true else d 14) = d 14 := if_neg (by omega)
  have v13 : (if (13 : Nat) = i then v else vals 13) = vals 13 := if_neg (by omega)
  have v14 : (if (14 : Nat) = i then v else vals 14) = vals 14 := if_neg (by omega)
  exact ⟨by simp only [e5, e12]; exact h.st, h.rel, by simp only [e5, e12]; exact h.ord, by simp only [e13, e14, v13, v14]; exact h.apart⟩

set_option maxHeartbeats 8000000 in
theorem clo_succ (e : Env) (hok : e.Ok) (hT : HTab e.w0) (m l k : Nat) (hm : m = l + 1) (p : List UInt8) (W : World) (hl : m ≤ 6) (hk : k ≤ 100000) (hi : e.i ≤ 1000000) (hC : CQ e p.length p W)
    (room : p.length + (way (sb e.s) e.i m k).length ≤ e.h * 16)
    (ih : ∀ (k' : Nat) (p' : List UInt8) (W' : World), (k' = 2 * k ∨ k' = 2 * k + 1) → CQ e p'.length p' W' → p'.length + (way (sb e.s) e.i l k').length ≤ e.h * 16 → CloSpec e l k' p' W') : CloSpec e m k p W := by
  unfold CloSpec
  obtain ⟨hzd, -⟩ := zero_of_info dig_zero
  obtain ⟨Zd, hZd⟩ : ∃ Zd, Zd = (H.zeros 16).map bv := ⟨_, rfl⟩
  rw [← hZd] at hzd
  have lZd : Zd.length = 16 := by rw [hZd, List.length_map, H.zeros_len]
  obtain ⟨a, ha⟩ : ∃ a, a = Sg.tree (sb e.s) l (2 * k) := ⟨_, rfl⟩
  obtain ⟨b, hb⟩ : ∃ b, b = Sg.tree (sb e.s) l (2 * k + 1) := ⟨_, rfl⟩
  obtain ⟨A, hA⟩ : ∃ A, A = a.map bv := ⟨_, rfl⟩
  obtain ⟨B, hB⟩ : ∃ B, B = b.map bv := ⟨_, rfl⟩
  obtain ⟨G, hG⟩ : ∃ G, G = (Sg.tree (sb e.s) m k).map bv := ⟨_, rfl⟩
  have la : a.length = 16 := by rw [ha, tree_len]
  have lb : b.length = 16 := by rw [hb, tree_len]
  have lA : A.length = 16 := by rw [hA, List.length_map, la]
  have lB : B.length = 16 := by rw [hB, List.length_map, lb]
  have lG : G.length = 16 := by rw [hG, List.length_map, tree_len]
  have hGab : G = (Sg.node a b).map bv := by rw [hG, hm, ha, hb]; rfl
  have yA := size_dig lA
  have yB := size_dig lB
  have yG := size_dig lG
  have oA : A.toArray.all (·.oneCell') = true := all_oneCell_toArray (by rw [hA]; exact bytes_one _)
  have oB : B.toArray.all (·.oneCell') = true := all_oneCell_toArray (by rw [hB]; exact bytes_one _)
  have oG : G.toArray.all (·.oneCell') = true := all_oneCell_toArray (by rw [hG]; exact bytes_one _)
  obtain ⟨p1, hp1⟩ : ∃ p1, p1 = p ++ way (sb e.s) e.i l (2 * k) := ⟨_, rfl⟩
  obtain ⟨p2, hp2⟩ : ∃ p2, p2 = p1 ++ way (sb e.s) e.i l (2 * k + 1) := ⟨_, rfl⟩
  obtain ⟨p3, hp3⟩ : ∃ p3, p3 = p ++ way (sb e.s) e.i m k := ⟨_, rfl⟩
  have hp3' : p3 = if e.i / 2 ^ m = k then p2 ++ (if e.i / 2 ^ l % 2 = 1 then a else b) else p2 := by
    by_cases h : e.i / 2 ^ m = k
    · rw [if_pos h, hp3, hp2, hp1, hm, way_on _ _ _ _ (by rw [← hm]; exact h), ha, hb]
      rw [← List.append_assoc, ← List.append_assoc]
      congr 1
      split <;> rfl
    · obtain ⟨w1, w2, w3⟩ := way_off (sb e.s) e.i l k (by rw [← hm]; exact h)
      rw [if_neg h, hp3, hp2, hp1, w2, w3, hm, w1]
      simp
  have hl3 : p3.length ≤ e.h * 16 := by rw [hp3, List.length_append]; exact room
  have hl2 : p2.length ≤ p3.length := by rw [hp3']; split <;> simp
  have hl1 : p1.length ≤ p2.length := by rw [hp2, List.length_append]; omega
  have c1 := fun (W' : World) (h : CQ e p.length p W') => ih (2 * k) p W' (.inl rfl) h (by rw [← List.length_append, ← hp1]; omega)
  have c2 := fun (W' : World) (h : CQ e p1.length p1 W') => ih (2 * k + 1) p1 W' (.inr rfl) h (by rw [← List.length_append, ← hp2]; omega)
  unfold CloSpec at c1 c2
  rw [← hp1, ← ha, ← hA] at c1
  rw [← hp2, ← hb, ← hB] at c2
  rw [← hp3, ← hG]
  obtain ⟨W1, hW1⟩ : ∃ W1, W1 = W.alloc (.cells Zd.toArray 23) := ⟨_, rfl⟩
  have hb1 : Below W.heap.size W W1 := by rw [hW1]; exact (Below.refl _ _).alloc (Nat.le_refl _) _
  have hk1 : Blk W1 W.heap.size Zd 23 := by rw [hW1]; exact Blk.new W _ _
  have hlt := hC.lt
  have hC1 := hC.step hlt hok hb1
  have hm0 : ((m : Int) == 0) = false := by simp; omega
  have HM := Lib.hid (And.intro hm hl)
  have C1 := Lib.hid c1
  have C2 := Lib.hid c2
  have HW1 := Lib.hid hW1
  have K1 := Lib.hid (And.intro hk1 (And.intro hb1 (And.intro hC1 hlt)))
  have HA := Lib.hid (And.intro hA (And.intro la (And.intro lA oA)))
  have HB := Lib.hid (And.intro hB (And.intro lb (And.intro lB oB)))
  have HG := Lib.hid (And.intro hGab (And.intro lG oG))
  have YA := Lib.hid yA
  have YB := Lib.hid yB
  have YG := Lib.hid yG
  have LZ := Lib.hid lZd
  have HP := Lib.hid (And.intro hp3' (And.intro hl3 hl2))
  have HOK := Lib.hid hok
  have HT := Lib.hid hT
  clear c1 c2 hW1 hk1 hb1 hC hlt hC1 hA la lA oA hB lb lB oB hG hGab lG oG yA yB yG lZd hp3 hp3' hl3 hl2 hl1 hp1 hp2 ha hb hZd hok hT ih room hm hl
  unfold Env.args
  go_enter Tryd.func43, Tryd.ntmps43
  go_wp2_with fail
  rw [← HW1.out]
  try go_frame
  refine wp_region_statelist [20, 21, 22, 23, 24, 25, 26, 27, 28, 29, 30, 31, 32, 10, 11] (Halves e W1 p p1 p2) (Rel e) [fun v _ => v = e.fv, fun v _ => v = .int .i64 m, fun v _ => v = .int .i64 l, fun v _ => v = .int .i64 k, fun v _ => v = .int .i64 ((2 * k : Nat) : Int), fun v _ => v = .agg A.toArray, fun v _ => v = e.fv, fun v _ => v = .int .i64 m, fun v _ => v = .int .i64 l, fun v _ => v = .int .i64 k, fun v _ => v = .int .i64 ((2 * k : Nat) : Int), fun v _ => v = .int .i64 ((2 * k + 1 : Nat) : Int), fun v _ => v = .agg B.toArray, isVar e W1 Zd, isVar e W1 Zd]
    (by
      intro f hf v w w' h hr
      simp only [List.mem_cons, List.not_mem_nil, or_false] at hf
      rcases hf with rfl | rfl | rfl | rfl | rfl | rfl | rfl | rfl | rfl | rfl | rfl | rfl | rfl | rfl | rfl <;> first | exact h | exact isVar.lasts h hr)
    (fun vals => ⟨by simpa using K1.out.2.2.1.drew, Rel.refl e W1, by simp, by simp⟩) (by kernel_rfl) (by kernel_rfl) ?_ ?_
  · intro z hz d vs b' w' hJ hu hd hall hx o ho
    have hbp := K1.out.2.2.1.cp.lt
    have hbq := K1.out.2.2.1.cq.lt
    match z, hz with
    | 0, _ =>
      obtain rfl := Option.some.inj ho
      have e4 : b'.tmps.getD 4 undef = .pointer (some ⟨e.bn, 0, none⟩) := hx 4 rfl
      have hr := load_func w' e.bn e.fv hJ.st.cn
      rw [← e4] at hr
      exact runs_value rfl hr ⟨rfl, Rel.refl _ _, hJ.keep 0 _ (by decide)⟩
    | 1, _ =>
      obtain rfl := Option.some.inj ho
      exact ⟨hx 0 rfl, Rel.refl _ _, hJ.keep 1 _ (by decide)⟩
    | 2, _ =>
      obtain rfl := Option.some.inj ho
      have e0 : b'.tmps.getD 21 undef = .int .i64 m := (hd 1 (by kernel_rfl) (by decide)).2
      have hr := run_sub1 w' m l HM.out.1 (by have := HM.out.2; omega) (.tmp 21) (.const (.int .i64 1))
      rw [← e0] at hr
      exact runs_value rfl hr ⟨rfl, Rel.refl _ _, hJ.keep 2 _ (by decide)⟩
    | 3, _ =>
      obtain rfl := Option.some.inj ho
      exact ⟨hx 1 rfl, Rel.refl _ _, hJ.keep 3 _ (by decide)⟩
    | 4, _ =>
      obtain rfl := Option.some.inj ho
      have e0 : b'.tmps.getD 23 undef = .int .i64 k := (hd 3 (by kernel_rfl) (by decide)).2
      have hr := run_dbl w' k (by omega) (.const (.int .i64 2)) (.tmp 23)
      rw [← e0] at hr
      exact runs_value rfl hr ⟨rfl, Rel.refl _ _, hJ.keep 4 _ (by decide)⟩
    | 5, _ =>
      obtain rfl := Option.some.inj ho
      have hu : d 5 = false := hu
      have h12 : d 12 = false := by cases h : d 12 with
        | false => rfl
        | true => have := hJ.ord h; rw [hu] at this; cases this
      have e0 : b'.tmps.getD 20 undef = e.fv := (hd 0 (by kernel_rfl) (by decide)).2
      have e1 : b'.tmps.getD 22 undef = .int .i64 l := (hd 2 (by kernel_rfl) (by decide)).2
      have e2 : b'.tmps.getD 24 undef = .int .i64 ((2 * k : Nat) : Int) := (hd 4 (by kernel_rfl) (by decide)).2
      have hst := hJ.st
      rw [h12, hu] at hst
      refine runs_clo rfl (fun _ _ => rfl) e0 ?_
      show Calls _ _ (#[b'.tmps.getD 22 undef, b'.tmps.getD 24 undef] ++ e.caps) w' _
      rw [e1, e2]
      refine (C1.out w' hst).mono fun x w'' h => ⟨_, h.1, rfl, h.2.2, ?_, hJ.rel.trans h.2.2, fun _ => rfl, hJ.apart⟩
      have h12' : (if (12 : Nat) = 5 then true else d 12) = false := h12
      simp only [h12']
      exact h.2.1
    | 6, _ =>
      obtain rfl := Option.some.inj ho
      have e4 : b'.tmps.getD 4 undef = .pointer (some ⟨e.bn, 0, none⟩) := hx 4 rfl
      have hr := load_func w' e.bn e.fv hJ.st.cn
      rw [← e4] at hr
      exact runs_value rfl hr ⟨rfl, Rel.refl _ _, hJ.keep 6 _ (by decide)⟩
    | 7, _ =>
      obtain rfl := Option.some.inj ho
      exact ⟨hx 0 rfl, Rel.refl _ _, hJ.keep 7 _ (by decide)⟩
    | 8, _ =>
      obtain rfl := Option.some.inj ho
      have e0 : b'.tmps.getD 27 undef = .int .i64 m := (hd 7 (by kernel_rfl) (by decide)).2
      have hr := run_sub1 w' m l HM.out.1 (by have := HM.out.2; omega) (.tmp 27) (.const (.int .i64 1))
      rw [← e0] at hr
      exact runs_value rfl hr ⟨rfl, Rel.refl _ _, hJ.keep 8 _ (by decide)⟩
    | 9, _ =>
      obtain rfl := Option.some.inj ho
      exact ⟨hx 1 rfl, Rel.refl _ _, hJ.keep 9 _ (by decide)⟩
    | 10, _ =>
      obtain rfl := Option.some.inj ho
      have e0 : b'.tmps.getD 29 undef = .int .i64 k := (hd 9 (by kernel_rfl) (by decide)).2
      have hr := run_dbl w' k (by omega) (.const (.int .i64 2)) (.tmp 29)
      rw [← e0] at hr
      exact runs_value rfl hr ⟨rfl, Rel.refl _ _, hJ.keep 10 _ (by decide)⟩
    | 11, _ =>
      obtain rfl := Option.some.inj ho
      have e0 : b'.tmps.getD 30 undef = .int .i64 ((2 * k : Nat) : Int) := (hd 10 (by kernel_rfl) (by decide)).2
      have hr := run_add1 w' (2 * k) (by omega) (.tmp 30) (.const (.int .i64 1))
      rw [← e0] at hr
      exact runs_value rfl hr ⟨rfl, Rel.refl _ _, hJ.keep 11 _ (by decide)⟩
    | 12, _ =>
      obtain rfl := Option.some.inj ho
      have hu : d 12 = false := hu
      have h5 : d 5 = true := (hd 5 (by kernel_rfl) (by decide)).1
      have e0 : b'.tmps.getD 26 undef = e.fv := (hd 6 (by kernel_rfl) (by decide)).2
      have e1 : b'.tmps.getD 28 undef = .int .i64 l := (hd 8 (by kernel_rfl) (by decide)).2
      have e2 : b'.tmps.getD 31 undef = .int .i64 ((2 * k + 1 : Nat) : Int) := (hd 11 (by kernel_rfl) (by decide)).2
      have hst := hJ.st
      rw [hu, h5] at hst
      refine runs_clo rfl (fun _ _ => rfl) e0 ?_
      show Calls _ _ (#[b'.tmps.getD 28 undef, b'.tmps.getD 31 undef] ++ e.caps) w' _
      rw [e1, e2]
      exact (C2.out w' hst).mono fun x w'' h => ⟨_, h.1, rfl, h.2.2, h.2.1, hJ.rel.trans h.2.2, fun _ => h5, hJ.apart⟩
    | 13, _ =>
      obtain rfl := Option.some.inj ho
      have hbel : Below w'.heap.size w' (w'.alloc (.cells Zd.toArray 23)) := (Below.refl _ _).alloc (Nat.le_refl _) _
      refine runs_value rfl (run_alloc_row hzd w') ⟨⟨_, rfl, hJ.rel.1, by have := hJ.rel.1; omega, by have := hJ.rel.1; omega, Blk.new w' Zd _⟩, Rel.of hbel, hJ.st.step hJ.st.lt HOK.out hbel, hJ.rel.trans (Rel.of hbel), hJ.ord, fun _ h14 => ?_⟩
      obtain ⟨b2, h1, -, -, -, h2⟩ := hall 14 (by decide) h14
      have := h2.lt
      show (Value.pointer (some ⟨w'.heap.size, 0, none⟩)) ≠ vs 14
      rw [h1]
      intro he
      injection he with he
      injection he with he
      injection he with he
      omega
    | 14, _ =>
      obtain rfl := Option.some.inj ho
      have hbel : Below w'.heap.size w' (w'.alloc (.cells Zd.toArray 23)) := (Below.refl _ _).alloc (Nat.le_refl _) _
      refine runs_value rfl (run_alloc_row hzd w') ⟨⟨_, rfl, hJ.rel.1, by have := hJ.rel.1; omega, by have := hJ.rel.1; omega, Blk.new w' Zd _⟩, Rel.of hbel, hJ.st.step hJ.st.lt HOK.out hbel, hJ.rel.trans (Rel.of hbel), hJ.ord, fun h13 _ => ?_⟩
      obtain ⟨b2, h1, -, -, -, h2⟩ := hall 13 (by decide) h13
      have := h2.lt
      show vs 13 ≠ (Value.pointer (some ⟨w'.heap.size, 0, none⟩))
      rw [h1]
      intro he
      injection he with he
      injection he with he
      injection he with he
      omega
  · intro d vals w' hJ hall hf
    have e5 : vals 5 = .agg A.toArray := hf 5 (by decide)
    have e12 : vals 12 = .agg B.toArray := hf 12 (by decide)
    obtain ⟨V, e13, hV1, hVp, hVq, hVb⟩ := hf 13 (by decide)
    obtain ⟨U, e14, hU1, hUp, hUq, hUb⟩ := hf 14 (by decide)
    have hne : V ≠ U := fun h => hJ.apart (hall 13 (by decide)) (hall 14 (by decide)) (by rw [e13, e14, h])
    have hst := hJ.st
    rw [hall 12 (by decide)] at hst
    have hst : CQ e p2.length p2 w' := hst
    simp only [puts, List.length_cons, List.length_nil, Nat.zero_add, Nat.reduceAdd, List.drop_succ_cons, List.drop_zero, e5, e12, e13, e14]
    have hlt := K1.out.2.2.2
    have hNW := K1.out.1.lt
    have hN2 := K1.out.1.rel hJ.rel (by have := hlt.p; omega) (by have := hlt.q; omega)
    obtain ⟨W2, hW2⟩ : ∃ W2, W2 = (w'.setCells V 0 A).setCells U 0 B := ⟨_, rfl⟩
    have s1 : Blk (w'.setCells V 0 A) V A 23 := hVb.whole A (by rw [HA.out.2.2.1, LZ.out])
    have s2 : Blk (w'.setCells V 0 A) U Zd 23 := Blk.outside _ _ _ _ hUb (fun h => hne h.symm)
    have s3 : Blk W2 V A 23 := by rw [hW2]; exact Blk.outside _ _ _ _ s1 hne
    have s4 : Blk W2 U B 23 := by rw [hW2]; exact s2.whole B (by rw [HB.out.2.2.1, LZ.out])
    have s5 : Blk W2 W.heap.size Zd 23 := by rw [hW2]; exact Blk.outside _ _ _ _ (Blk.outside _ _ _ _ hN2 (by omega)) (by omega)
    have hb2 : Below W.heap.size w' W2 := by rw [hW2]; exact below_setCells _ (by omega) _ _ _ (below_setCells _ (by omega) _ _ _ (Below.refl _ _))
    have hst2 := hst.step hlt HOK.out hb2
    have hrel2 : Rel e W W2 := ((Rel.of (e := e) K1.out.2.1).trans hJ.rel).then hb2
    have t1 : w'.there V 0 A.toArray.size := hVb.there 0 _ (by rw [List.size_toArray, HA.out.2.2.1, LZ.out]; omega)
    have t2 : (w'.setCells V 0 A).there U 0 B.toArray.size := s2.there 0 _ (by rw [List.size_toArray, HB.out.2.2.1, LZ.out]; omega)
    have g5 : W2.cell? ⟨e.bi, 0, none⟩ = some (.int .i64 (e.i : Int)) := hst2.ci.cell 0 _ rfl
    have hsh : (e.i : Int) / 2 ^ m = ((e.i / 2 ^ m : Nat) : Int) := by simp
    have hsh2 : (e.i : Int) / 2 ^ l = ((e.i / 2 ^ l : Nat) : Int) := by simp
    have hme : (m : Int) = (l : Int) + 1 := by have := HM.out.1; omega
    have T1 := Lib.hid t1
    have T2 := Lib.hid t2
    have HW2 := Lib.hid hW2
    have S := Lib.hid (And.intro s3 (And.intro s4 (And.intro s5 (And.intro hst2 hrel2))))
    have HVU := Lib.hid (And.intro hV1 (And.intro hU1 hne))
    have HSH := Lib.hid (And.intro hsh hsh2)
    have HME := Lib.hid hme
    have HLT := Lib.hid hlt
    have HNW := Lib.hid (show W.heap.size ≤ W1.heap.size from K1.out.2.1.size)
    have hm63 : m < 63 := by have := HM.out.2; omega
    have hl63 : l < 63 := by have := HM.out; omega
    have oA := HA.out.2.2.2
    have oB := HB.out.2.2.2
    clear e5 e12 e13 e14 hV1 hVp hVq hVb hU1 hUp hUq hUb hne hst hlt hNW hN2 hW2 s1 s2 s3 s4 s5 hb2 hst2 hrel2 t1 t2 hsh hsh2 hme hJ hall hf C1 C2 K1 HW1
    clear hst
    obtain ⟨hm, -⟩ := HM.out
    subst hm
    have hl1 : ((l + 1 : Nat) : Int) = (l : Int) + 1 := by omega
    rw [hl1]
    have HVU3 := Lib.hid (show W.heap.size ≤ V ∧ W.heap.size ≤ U from ⟨by have := HVU.out.1; have := HNW.out; omega, by have := HVU.out.2.1; have := HNW.out; omega⟩)
    have HVU2 := Lib.hid (show W.heap.size ≤ W2.heap.size from by have := S.out.2.2.1.lt; omega)
    by_cases hw : e.i / 2 ^ (l + 1) = k
    · have hq : ((k : Int) == (e.i : Int) / 2 ^ (l + 1)) = true := by rw [HSH.out.1, hw]; simp
      obtain ⟨W3, hW3, m1, m2, m3⟩ := row_new W2 23 16 Zd B LZ.out HB.out.2.2.1
      have hst3 := S.out.2.2.2.1.step S.out.2.2.2.1.lt HOK.out m3
      have hrel3 := S.out.2.2.2.2.trans (Rel.of (e := e) m3)
      have g6 : W3.cell? ⟨e.bi, 0, none⟩ = some (.int .i64 (e.i : Int)) := hst3.ci.cell 0 _ rfl
      have HW3 := Lib.hid hW3
      have M1 := Lib.hid m1
      have S3 := Lib.hid (And.intro m2 (And.intro (S.out.1.below m3 S.out.1.lt) (And.intro (S.out.2.1.below m3 S.out.2.1.lt) (And.intro (S.out.2.2.1.below m3 S.out.2.2.1.lt) (And.intro hst3 hrel3)))))
      clear hW3 m1 m2 m3 hst3 hrel3
      by_cases hodd : e.i / 2 ^ l % 2 = 1
      · have ho2 : ((e.i : Int) / 2 ^ l).tmod 2 = 1 := by
          rw [HSH.out.2]
          show ((e.i / 2 ^ l % 2 : Nat) : Int) = 1
          rw [hodd]
          rfl
        have HODD := Lib.hid (show (if e.i / 2 ^ l % 2 = 1 then a else b) = a from if_pos hodd)
        have HROOM := Lib.hid (show p2.length + 16 ≤ e.h * 16 from by have h := HP.out.2.1; rw [HP.out.1, if_pos hw, HODD.out, List.length_append, HA.out.2.1] at h; exact h)
        obtain ⟨W4, hW4⟩ : ∃ W4, W4 = W3.setCells W2.heap.size 0 A := ⟨_, rfl⟩
        have tt : W3.there W2.heap.size 0 A.toArray.size := S3.out.1.there 0 _ (by rw [List.size_toArray, HA.out.2.2.1, HB.out.2.2.1]; omega)
        have x4 : Blk W4 W2.heap.size A 23 := by rw [hW4]; exact S3.out.1.whole A (by rw [HA.out.2.2.1, HB.out.2.2.1])
        have hb4 : Below W2.heap.size W3 W4 := by rw [hW4]; exact below_setCells _ (Nat.le_refl _) _ _ _ (Below.refl _ _)
        have S4 := Lib.hid (And.intro x4 (And.intro (S3.out.2.1.below hb4 S.out.1.lt) (And.intro (S3.out.2.2.1.below hb4 S.out.2.1.lt) (And.intro (S3.out.2.2.2.1.below hb4 S.out.2.2.1.lt) (And.intro (S3.out.2.2.2.2.1.step S.out.2.2.2.1.lt HOK.out hb4) (S3.out.2.2.2.2.2.then (hb4.mono HVU2.out)))))))
        have HW4 := Lib.hid hW4
        have TT := Lib.hid tt
        clear hW4 tt x4 hb4
        go_frame
        go_wp2_with (first | (refine wpList_store_mid rfl 23 (.tmp 10) (.tmp 25) rfl V 0 A.toArray rfl rfl T1.out YA.out oA ?_) | (refine wpList_store_mid rfl 23 (.tmp 11) (.tmp 32) rfl U 0 B.toArray rfl rfl T2.out YB.out oB ?_; rw [← HW2.out]) | (refine wpList_load_row rfl 23 (.tmp 11) rfl U rfl _ B.toArray (0, 0) _ S.out.2.1 Tryd.underlying23 rfl YB.out ?_) | (refine wpList_store_mid rfl 23 (.tmp 12) (.tmp 38) rfl W2.heap.size 0 B.toArray rfl rfl M1.out YB.out oB ?_; rw [← HW3.out]) |
          (refine wpList_load_row rfl 23 (.tmp 10) rfl V rfl _ A.toArray (0, 0) _ S3.out.2.1 Tryd.underlying23 rfl YA.out ?_) | (refine wpList_store_mid rfl 23 (.tmp 12) (.tmp 45) rfl W2.heap.size 0 A.toArray rfl rfl TT.out YA.out oA ?_; rw [← HW4.out]))
        try go_frame
        refine wp_region_statelist [46, 47, 48] (fun d _ w => CQ e p2.length (if d 2 = true then p2 ++ a else p2) w ∧ Rel e W4 w ∧ Blk w W2.heap.size A 23) (fun _ _ => True) [fun v _ => v = .slice (some ⟨e.bq, 0, none⟩) p2.length (e.h * 16), fun v _ => v = .slice (some ⟨W2.heap.size, 0, none⟩) 16 16, fun v _ => v = .slice (some ⟨e.bq, 0, none⟩) (p2 ++ a).length (e.h * 16)]
          (by intro f hf v w w' h _; simp only [List.mem_cons, List.not_mem_nil, or_false] at hf; rcases hf with rfl | rfl | rfl <;> exact h) (fun _ => ⟨S4.out.2.2.2.2.1.drew, Rel.refl e W4, S4.out.1.drew⟩) (by kernel_rfl) (by kernel_rfl) ?_ ?_
        · intro z hz d vs b' w8 hJ hu hd _ hx op ho
          match z, hz with
          | 0, _ =>
            obtain rfl := Option.some.inj ho
            have e6 : b'.tmps.getD 6 undef = .pointer (some ⟨e.bp, 0, none⟩) := hx 6 rfl
            have hr := load_path w8 e.bp _ hJ.1.cp
            rw [← e6] at hr
            exact runs_value rfl hr ⟨rfl, trivial, hJ⟩
          | 1, _ =>
            obtain rfl := Option.some.inj ho
            have e6 : b'.tmps.getD 12 undef = .pointer (some ⟨W2.heap.size, 0, none⟩) := hx 12 rfl
            have hr := slice_b16 w8 W2.heap.size
            rw [← e6] at hr
            exact runs_value rfl hr ⟨rfl, trivial, hJ⟩
          | 2, _ =>
            obtain rfl := Option.some.inj ho
            have hu : d 2 = false := hu
            have e1 : b'.tmps.getD 46 undef = .slice (some ⟨e.bq, 0, none⟩) p2.length (e.h * 16) := (hd 0 (by kernel_rfl) (by decide)).2
            have e2 : b'.tmps.getD 47 undef = .slice (some ⟨W2.heap.size, 0, none⟩) 16 16 := (hd 1 (by kernel_rfl) (by decide)).2
            have hc := hJ.1
            rw [hu] at hc
            have hsrc := hJ.2.2
            rw [HA.out.1] at hsrc
            obtain ⟨w9, h1, h2, h3⟩ := run_path e HOK.out w8 p2 a W2.heap.size 51 hc hsrc HA.out.2.1 HROOM.out
            rw [← e1, ← e2] at h1
            exact runs_value (X := Builtin.append_ #[51, 51] 51 #[b'.tmps.getD 46 undef, b'.tmps.getD 47 undef]) (by unfold execOp; simp [resolve, invoke, builtin, Act.eval]) h1 ⟨rfl, trivial, h2, hJ.2.1.trans h3, hJ.2.2.rel h3 (by have := HLT.out.p; have := HVU2.out; omega) (by have := HLT.out.q; have := HVU2.out; omega)⟩
        · intro d8 vals8 w8 hJ hall hf
          have e8 : vals8 2 = .slice (some ⟨e.bq, 0, none⟩) (p2 ++ a).length (e.h * 16) := hf 2 (by decide)
          have hc := hJ.1
          rw [hall 2 (by decide)] at hc
          have hc : CQ e p2.length (p2 ++ a) w8 := hc
          have hp3 : p3 = p2 ++ a := by rw [HP.out.1, if_pos hw, HODD.out]
          rw [← hp3] at hc e8
          simp only [puts, List.length_cons, List.length_nil, Nat.zero_add, Nat.reduceAdd, List.drop_succ_cons, List.drop_zero, e8]
          have g7 : w8.cell? ⟨e.bp, 0, none⟩ = some (.slice (some ⟨e.bq, 0, none⟩) p2.length (e.h * 16)) := hc.cp.cell 0 _ rfl
          have f7 : w8.frozen? ⟨e.bp, 0, none⟩ = false := hc.cp.frozen 0
          obtain ⟨n3, hn3⟩ : ∃ n3, n3 = p3.length := ⟨_, rfl⟩
          obtain ⟨n2, hn2⟩ : ∃ n2, n2 = p2.length := ⟨_, rfl⟩
          rw [← hn2] at g7
          obtain ⟨W9, hW9⟩ : ∃ W9, W9 = w8.setCell ⟨e.bp, 0, none⟩ (.slice (some ⟨e.bq, 0, none⟩) p3.length (e.h * 16)) := ⟨_, rfl⟩
          have hr8 : Rel e W4 W9 := by rw [hW9]; exact hJ.2.1.trans (Rel.put e w8 _)
          have hc9 : CQ e p3.length p3 W9 := by rw [hW9]; exact hc.put HOK.out _
          have hnb : ∀ b, W.heap.size ≤ b → b ≠ e.bp ∧ b ≠ e.bq := fun b hb => ⟨by have := HLT.out.p; omega, by have := HLT.out.q; omega⟩
          have S9 := Lib.hid (And.intro (S4.out.2.1.rel hr8 (hnb V HVU3.out.1).1 (hnb V HVU3.out.1).2) (And.intro (S4.out.2.2.1.rel hr8 (hnb U HVU3.out.2).1 (hnb U HVU3.out.2).2) (And.intro (S4.out.2.2.2.1.rel hr8 (hnb _ (Nat.le_refl _)).1 (hnb _ (Nat.le_refl _)).2) (And.intro hc9 (S4.out.2.2.2.2.2.trans hr8)))))
          rw [← hn3] at hW9 ⊢
          have HW9 := Lib.hid hW9
          clear e8 hc hp3 hr8 hc9 hnb hJ hall hf hn3 hn2 hW9
          have cN := nodeOf_any a b W9 HA.out.2.1 HB.out.2.1 (HT.out.below S9.out.2.2.2.1.bel (Nat.le_refl _))
          rw [← HA.out.1, ← HB.out.1, ← HG.out.1] at cN
          have CN := Lib.hid cN
          clear cN
          go_frame
          go_wp2_with (first | (rw [← HW9.out]; first | (refine wpList_load_row rfl 23 (.tmp 10) rfl V rfl _ A.toArray (0, 0) _ S9.out.1 Tryd.underlying23 rfl YA.out ?_) | (refine wpList_load_row rfl 23 (.tmp 11) rfl U rfl _ B.toArray (0, 0) _ S9.out.2.1 Tryd.underlying23 rfl YB.out ?_)) | (refine wpList_load_row rfl 23 (.tmp 10) rfl V rfl _ A.toArray (0, 0) _ S9.out.1 Tryd.underlying23 rfl YA.out ?_) | (refine wpList_load_row rfl 23 (.tmp 11) rfl U rfl _ B.toArray (0, 0) _ S9.out.2.1 Tryd.underlying23 rfl YB.out ?_))
          refine CN.out.mono ?_
          rintro x w9 ⟨rfl, hb9⟩
          have n9 := S9.out.2.2.1.below hb9 S9.out.2.2.1.lt
          have t9 : w9.there W.heap.size 0 G.toArray.size := n9.there 0 _ (by rw [List.size_toArray, HG.out.2.1, LZ.out]; omega)
          have d9 := n9.whole G (by rw [HG.out.2.1, LZ.out])
          have b9 : Below W.heap.size w9 (w9.setCells W.heap.size 0 G) := below_setCells _ (Nat.le_refl _) _ _ _ (Below.refl _ _)
          have c9 := (S9.out.2.2.2.1.step S9.out.2.2.2.1.lt HOK.out hb9).step HLT.out HOK.out b9
          have r9 := (S9.out.2.2.2.2.trans (Rel.of (e := e) hb9)).then b9
          have T9 := Lib.hid t9
          have D9 := Lib.hid d9
          have R9 := Lib.hid (And.intro c9 r9)
          have oG := HG.out.2.2
          clear hb9 n9 t9 d9 b9 c9 r9 CN
          go_wp2_with (refine wpList_store_mid rfl 23 (.tmp 9) (.tmp 51) rfl W.heap.size 0 G.toArray rfl rfl T9.out YG.out oG ?_)
          refine bodyPost_ret (results_cell_row rfl _ _ W.heap.size 23 _ (0, 0) _ rfl D9.out Tryd.underlying23 rfl YG.out) rfl ⟨rfl, R9.out⟩
      · have ho2 : ((e.i : Int) / 2 ^ l).tmod 2 = 0 := by
          rw [HSH.out.2]
          show ((e.i / 2 ^ l % 2 : Nat) : Int) = 0
          rw [show e.i / 2 ^ l % 2 = 0 by omega]
          rfl
        have HODD := Lib.hid (show (if e.i / 2 ^ l % 2 = 1 then a else b) = b from if_neg hodd)
        have HROOM := Lib.hid (show p2.length + 16 ≤ e.h * 16 from by have h := HP.out.2.1; rw [HP.out.1, if_pos hw, HODD.out, List.length_append, HB.out.2.1] at h; exact h)
        have S4 := S3
        go_frame
        go_wp2_with (first | (refine wpList_store_mid rfl 23 (.tmp 10) (.tmp 25) rfl V 0 A.toArray rfl rfl T1.out YA.out oA ?_) | (refine wpList_store_mid rfl 23 (.tmp 11) (.tmp 32) rfl U 0 B.toArray rfl rfl T2.out YB.out oB ?_; rw [← HW2.out]) | (refine wpList_load_row rfl 23 (.tmp 11) rfl U rfl _ B.toArray (0, 0) _ S.out.2.1 Tryd.underlying23 rfl YB.out ?_) | (refine wpList_store_mid rfl 23 (.tmp 12) (.tmp 38) rfl W2.heap.size 0 B.toArray rfl rfl M1.out YB.out oB ?_; rw [← HW3.out]))
        try go_frame
        refine wp_region_statelist [46, 47, 48] (fun d _ w => CQ e p2.length (if d 2 = true then p2 ++ b else p2) w ∧ Rel e W3 w ∧ Blk w W2.heap.size B 23) (fun _ _ => True) [fun v _ => v = .slice (some ⟨e.bq, 0, none⟩) p2.length (e.h * 16), fun v _ => v = .slice (some ⟨W2.heap.size, 0, none⟩) 16 16, fun v _ => v = .slice (some ⟨e.bq, 0, none⟩) (p2 ++ b).length (e.h * 16)]
          (by intro f hf v w w' h _; simp only [List.mem_cons, List.not_mem_nil, or_false] at hf; rcases hf with rfl | rfl | rfl <;> exact h) (fun _ => ⟨S4.out.2.2.2.2.1.drew, Rel.refl e W3, S4.out.1.drew⟩) (by kernel_rfl) (by kernel_rfl) ?_ ?_
        · intro z hz d vs b' w8 hJ hu hd _ hx op ho
          match z, hz with
          | 0, _ =>
            obtain rfl := Option.some.inj ho
            have e6 : b'.tmps.getD 6 undef = .pointer (some ⟨e.bp, 0, none⟩) := hx 6 rfl
            have hr := load_path w8 e.bp _ hJ.1.cp
            rw [← e6] at hr
            exact runs_value rfl hr ⟨rfl, trivial, hJ⟩
          | 1, _ =>
            obtain rfl := Option.some.inj ho
            have e6 : b'.tmps.getD 12 undef = .pointer (some ⟨W2.heap.size, 0, none⟩) := hx 12 rfl
            have hr := slice_b16 w8 W2.heap.size
            rw [← e6] at hr
            exact runs_value rfl hr ⟨rfl, trivial, hJ⟩
          | 2, _ =>
            obtain rfl := Option.some.inj ho
            have hu : d 2 = false := hu
            have e1 : b'.tmps.getD 46 undef = .slice (some ⟨e.bq, 0, none⟩) p2.length (e.h * 16) := (hd 0 (by kernel_rfl) (by decide)).2
            have e2 : b'.tmps.getD 47 undef = .slice (some ⟨W2.heap.size, 0, none⟩) 16 16 := (hd 1 (by kernel_rfl) (by decide)).2
            have hc := hJ.1
            rw [hu] at hc
            have hsrc := hJ.2.2
            rw [HB.out.1] at hsrc
            obtain ⟨w9, h1, h2, h3⟩ := run_path e HOK.out w8 p2 b W2.heap.size 51 hc hsrc HB.out.2.1 HROOM.out
            rw [← e1, ← e2] at h1
            exact runs_value (X := Builtin.append_ #[51, 51] 51 #[b'.tmps.getD 46 undef, b'.tmps.getD 47 undef]) (by unfold execOp; simp [resolve, invoke, builtin, Act.eval]) h1 ⟨rfl, trivial, h2, hJ.2.1.trans h3, hJ.2.2.rel h3 (by have := HLT.out.p; have := HVU2.out; omega) (by have := HLT.out.q; have := HVU2.out; omega)⟩
        · intro d8 vals8 w8 hJ hall hf
          have e8 : vals8 2 = .slice (some ⟨e.bq, 0, none⟩) (p2 ++ b).length (e.h * 16) := hf 2 (by decide)
          have hc := hJ.1
          rw [hall 2 (by decide)] at hc
          have hc : CQ e p2.length (p2 ++ b) w8 := hc
          have hp3 : p3 = p2 ++ b := by rw [HP.out.1, if_pos hw, HODD.out]
          rw [← hp3] at hc e8
          simp only [puts, List.length_cons, List.length_nil, Nat.zero_add, Nat.reduceAdd, List.drop_succ_cons, List.drop_zero, e8]
          have g7 : w8.cell? ⟨e.bp, 0, none⟩ = some (.slice (some ⟨e.bq, 0, none⟩) p2.length (e.h * 16)) := hc.cp.cell 0 _ rfl
          have f7 : w8.frozen? ⟨e.bp, 0, none⟩ = false := hc.cp.frozen 0
          obtain ⟨n3, hn3⟩ : ∃ n3, n3 = p3.length := ⟨_, rfl⟩
          obtain ⟨n2, hn2⟩ : ∃ n2, n2 = p2.length := ⟨_, rfl⟩
          rw [← hn2] at g7
          obtain ⟨W9, hW9⟩ : ∃ W9, W9 = w8.setCell ⟨e.bp, 0, none⟩ (.slice (some ⟨e.bq, 0, none⟩) p3.length (e.h * 16)) := ⟨_, rfl⟩
          have hr8 : Rel e W3 W9 := by rw [hW9]; exact hJ.2.1.trans (Rel.put e w8 _)
          have hc9 : CQ e p3.length p3 W9 := by rw [hW9]; exact hc.put HOK.out _
          have hnb : ∀ b, W.heap.size ≤ b → b ≠ e.bp ∧ b ≠ e.bq := fun b hb => ⟨by have := HLT.out.p; omega, by have := HLT.out.q; omega⟩
          have S9 := Lib.hid (And.intro (S4.out.2.1.rel hr8 (hnb V HVU3.out.1).1 (hnb V HVU3.out.1).2) (And.intro (S4.out.2.2.1.rel hr8 (hnb U HVU3.out.2).1 (hnb U HVU3.out.2).2) (And.intro (S4.out.2.2.2.1.rel hr8 (hnb _ (Nat.le_refl _)).1 (hnb _ (Nat.le_refl _)).2) (And.intro hc9 (S4.out.2.2.2.2.2.trans hr8)))))
          rw [← hn3] at hW9 ⊢
          have HW9 := Lib.hid hW9
          clear e8 hc hp3 hr8 hc9 hnb hJ hall hf hn3 hn2 hW9
          have cN := nodeOf_any a b W9 HA.out.2.1 HB.out.2.1 (HT.out.below S9.out.2.2.2.1.bel (Nat.le_refl _))
          rw [← HA.out.1, ← HB.out.1, ← HG.out.1] at cN
          have CN := Lib.hid cN
          clear cN
          go_frame
          go_wp2_with (first | (rw [← HW9.out]; first | (refine wpList_load_row rfl 23 (.tmp 10) rfl V rfl _ A.toArray (0, 0) _ S9.out.1 Tryd.underlying23 rfl YA.out ?_) | (refine wpList_load_row rfl 23 (.tmp 11) rfl U rfl _ B.toArray (0, 0) _ S9.out.2.1 Tryd.underlying23 rfl YB.out ?_)) | (refine wpList_load_row rfl 23 (.tmp 10) rfl V rfl _ A.toArray (0, 0) _ S9.out.1 Tryd.underlying23 rfl YA.out ?_) | (refine wpList_load_row rfl 23 (.tmp 11) rfl U rfl _ B.toArray (0, 0) _ S9.out.2.1 Tryd.underlying23 rfl YB.out ?_))
          refine CN.out.mono ?_
          rintro x w9 ⟨rfl, hb9⟩
          have n9 := S9.out.2.2.1.below hb9 S9.out.2.2.1.lt
          have t9 : w9.there W.heap.size 0 G.toArray.size := n9.there 0 _ (by rw [List.size_toArray, HG.out.2.1, LZ.out]; omega)
          have d9 := n9.whole G (by rw [HG.out.2.1, LZ.out])
          have b9 : Below W.heap.size w9 (w9.setCells W.heap.size 0 G) := below_setCells _ (Nat.le_refl _) _ _ _ (Below.refl _ _)
          have c9 := (S9.out.2.2.2.1.step S9.out.2.2.2.1.lt HOK.out hb9).step HLT.out HOK.out b9
          have r9 := (S9.out.2.2.2.2.trans (Rel.of (e := e) hb9)).then b9
          have T9 := Lib.hid t9
          have D9 := Lib.hid d9
          have R9 := Lib.hid (And.intro c9 r9)
          have oG := HG.out.2.2
          clear hb9 n9 t9 d9 b9 c9 r9 CN
          go_wp2_with (refine wpList_store_mid rfl 23 (.tmp 9) (.tmp 51) rfl W.heap.size 0 G.toArray rfl rfl T9.out YG.out oG ?_)
          refine bodyPost_ret (results_cell_row rfl _ _ W.heap.size 23 _ (0, 0) _ rfl D9.out Tryd.underlying23 rfl YG.out) rfl ⟨rfl, R9.out⟩
    · have hq : ((k : Int) == (e.i : Int) / 2 ^ (l + 1)) = false := by
        rw [HSH.out.1]
        exact beq_eq_false_iff_ne.2 (fun h => hw (Int.ofNat.inj h).symm)
      have hp3 : p3 = p2 := by rw [HP.out.1, if_neg hw]
      have S9 := Lib.hid (And.intro S.out.1 (And.intro S.out.2.1 (And.intro S.out.2.2.1 (And.intro (show CQ e p3.length p3 W2 by rw [hp3]; exact S.out.2.2.2.1) S.out.2.2.2.2))))
      clear hp3
      have cN := nodeOf_any a b W2 HA.out.2.1 HB.out.2.1 (HT.out.below S9.out.2.2.2.1.bel (Nat.le_refl _))
      rw [← HA.out.1, ← HB.out.1, ← HG.out.1] at cN
      have CN := Lib.hid cN
      clear cN
      go_frame
      go_wp2_with (first | (refine wpList_store_mid rfl 23 (.tmp 10) (.tmp 25) rfl V 0 A.toArray rfl rfl T1.out YA.out oA ?_) | (refine wpList_store_mid rfl 23 (.tmp 11) (.tmp 32) rfl U 0 B.toArray rfl rfl T2.out YB.out oB ?_; rw [← HW2.out]) | (refine wpList_load_row rfl 23 (.tmp 10) rfl V rfl _ A.toArray (0, 0) _ S9.out.1 Tryd.underlying23 rfl YA.out ?_) | (refine wpList_load_row rfl 23 (.tmp 11) rfl U rfl _ B.toArray (0, 0) _ S9.out.2.1 Tryd.underlying23 rfl YB.out ?_))
      refine CN.out.mono ?_
      rintro x w9 ⟨rfl, hb9⟩
      have n9 := S9.out.2.2.1.below hb9 S9.out.2.2.1.lt
      have t9 : w9.there W.heap.size 0 G.toArray.size := n9.there 0 _ (by rw [List.size_toArray, HG.out.2.1, LZ.out]; omega)
      have d9 := n9.whole G (by rw [HG.out.2.1, LZ.out])
      have b9 : Below W.heap.size w9 (w9.setCells W.heap.size 0 G) := below_setCells _ (Nat.le_refl _) _ _ _ (Below.refl _ _)
      have c9 := (S9.out.2.2.2.1.step S9.out.2.2.2.1.lt HOK.out hb9).step HLT.out HOK.out b9
      have r9 := (S9.out.2.2.2.2.trans (Rel.of (e := e) hb9)).then b9
      have T9 := Lib.hid t9
      have D9 := Lib.hid d9
      have R9 := Lib.hid (And.intro c9 r9)
      have oG := HG.out.2.2
      clear hb9 n9 t9 d9 b9 c9 r9 CN
      go_wp2_with (refine wpList_store_mid rfl 23 (.tmp 9) (.tmp 51) rfl W.heap.size 0 G.toArray rfl rfl T9.out YG.out oG ?_)
      refine bodyPost_ret (results_cell_row rfl _ _ W.heap.size 23 _ (0, 0) _ rfl D9.out Tryd.underlying23 rfl YG.out) rfl ⟨rfl, R9.out⟩
end Go.Proofs.YtkelfcgomeojeaaDoor
end

