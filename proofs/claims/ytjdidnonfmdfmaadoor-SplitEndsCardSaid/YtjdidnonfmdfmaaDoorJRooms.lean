import Derived.Laws.MakeOwn
import Derived.Laws.OwnMore
import Derived.ArgAppend
import Derived.RangeFuncNested
import Derived.RangeFuncBound
import Derived.RangeFuncCalls
import Derived.RangeFuncLeaves
import Derived.RangeFuncFrom
import Derived.RangeFuncKeeps
import Derived.Shelf.Abstract
import Derived.Shelf.RegionOpen
import Derived.WalkKit
import Derived.OwnWalkIn
import Derived.TacticsInMore
import Derived.LoopNIn
import Derived.LoopIn
import Derived.Test.YtjdidnonfmdfmaaDoorJDrawA
import Derived.Test.YtjdidnonfmdfmaaDoorJFacts
import Derived.Test.YtjdidnonfmdfmaaDoorJHashBlk

section
/- Rows of ints with room: made whole, written from their head; a row that grows while an iterator goes round. -/



















namespace Go.Proofs.YtjdidnonfmdfmaaDoor
open Go.RowKit Go.Shelf
set_option linter.unusedVariables false
set_option maxRecDepth 100000
attribute [local go_sem] Oper.semAt_some

/-! ### A row of c ints, of which the first are written -/
def Room (w : World) (g c : Nat) (L : List Int) : Prop := L.length ≤ c ∧ Blk w g (L.map iv ++ List.replicate (c - L.length) (.int .i64 0)) 3
theorem make_room (w : World) (c : Nat) (z : Int) (hz : z = (c : Int)) (hc : c ≤ 65536) : (Instr.makeSlice 22 (.int .i64 0) (.int .i64 z)).run Tryd.prog w = .ok (.slice (some ⟨w.heap.size, 0, none⟩) 0 c) (w.alloc (.cells (List.replicate c (Value.int .i64 0)).toArray 3)) := by
  subst hz
  obtain ⟨i0, hi, hz0, hz1, hz2⟩ := info_parts info_i64
  have hmk := run_makeSlice (P := Tryd.prog) w 22 3 i0 (.int .i64 0) Tryd.underlying22 hi hz0 .i64 .i64 0 (c : Int) (by omega) (by omega) (by rw [hz1]; omega) (by rw [hz2]; omega) (by omega)
  rw [hz1, Int.toNat_natCast, Nat.mul_one] at hmk
  have hmc : madeCells (Value.int .i64 0).cells c = (List.replicate c (Value.int .i64 0)).toArray := by
    apply Array.toList_inj.1
    rw [show (Value.int .i64 0).cells = #[Value.int .i64 0] from rfl, toList_madeCells_one]
  rw [hmc] at hmk
  exact hmk
theorem Room.new (w : World) (c : Nat) : Room (w.alloc (.cells (List.replicate c (Value.int .i64 0)).toArray 3)) w.heap.size c [] := ⟨Nat.zero_le _, Blk.new w _ _⟩
theorem Room.below {w w' : World} {g c : Nat} {L : List Int} (h : Room w g c L) (hb : Below w.heap.size w w') : Room w' g c L := ⟨h.1, h.2.below hb h.2.lt⟩
theorem Room.other {w : World} {g c : Nat} {L : List Int} (h : Room w g c L) (a : Addr) (v : Value) (hn : g ≠ a.block) : Room (w.setCell a v) g c L := ⟨h.1, h.2.other a v hn⟩
theorem Room.alloc {w : World} {g c : Nat} {L : List Int} (h : Room w g c L) (o : Obj) : Room (w.alloc o) g c L := ⟨h.1, h.2.alloc o⟩
theorem Room.push {w : World} {g c : Nat} {L : List Int} (h : Room w g c L) (z : Int) (hl : L.length + 1 ≤ c) : Room (w.setCell ⟨g, L.length, none⟩ (iv z)) g c (L ++ [z]) := by
  refine ⟨by simp; omega, ?_⟩
  have := h.2.set L.length (iv z)
  rw [fill_set (L.map iv) L.length c _ _ (by simp) (by omega)] at this
  simpa using this
theorem Room.at {w : World} {g c : Nat} {L : List Int} (h : Room w g c L) (j : Nat) (z : Int) (hz : L[j]? = some z) : w.cell? ⟨g, j, none⟩ = some (iv z) := by
  refine h.2.cell j _ ?_
  rw [List.getElem?_append_left (by have := (List.getElem?_eq_some_iff.1 hz).1; simpa using this), List.getElem?_map, hz]
  rfl
theorem run_room (w : World) (g c : Nat) (L : List Int) (z : Int) (V : Nat) (ty : TypeId) (h : Room w g c L) (hl : L.length + 1 ≤ c) (hv : w.cell? ⟨V, 0, none⟩ = some (iv z)) :
    (Builtin.append_ #[22, 22] ty #[.slice (some ⟨g, 0, none⟩) L.length c, .slice (some ⟨V, 0, none⟩) 1 1]).run Tryd.prog w = .ok (.slice (some ⟨g, 0, none⟩) (L.length + 1) c) (w.setCell ⟨g, L.length, none⟩ (iv z)) := by
  obtain ⟨i0, hi, hz0, hz1, hz2⟩ := info_parts info_i64
  have hr := run_append_room_cells (P := Tryd.prog) w 22 ty 3 i0 Tryd.underlying22 hi g 0 L.length c ⟨V, 0, none⟩ 1 1 [iv z] (by rw [hz1]; rfl) (fun j u hu => by
      have hj : j = 0 := by have := (List.getElem?_eq_some_iff.1 hu).1; simp at this; exact this
      subst hj
      obtain rfl : u = iv z := (Option.some.inj hu).symm
      rw [Addr.add_mid]
      exact hv) (ints_one [z]) hl
    (fun j hj => by
      obtain rfl : j = 0 := by simp at hj; exact hj
      rw [hz1, Nat.mul_one, Nat.zero_add, Nat.add_zero, h.2.cell _ _ (fill_at (L.map iv) L.length c (.int .i64 0) (by simp) (by omega))]
      rfl) (fun j hj => h.2.frozen _)
  rw [hz1, Nat.mul_one, Nat.zero_add] at hr
  exact hr
theorem wpList_append_room1 {ops : Array Oper} {rest : List Oper} {o : Oper} {a : Act} {Q : Exit → Act → World → Prop} (w : World) (hgd : o.guard = none) (s x : Operand)
    (ho : o.op = .call { callee := .builtin .append, args := #[s, x], argTypes := #[22, 22] }) (g c : Nat) (L : List Int) (z : Int) (V : Nat) (k : Nat) (hk : k = L.length)
    (hs : a.eval s = .slice (some ⟨g, 0, none⟩) k c) (hx : a.eval x = .slice (some ⟨V, 0, none⟩) 1 1) (h : Room w g c L) (hl : L.length + 1 ≤ c) (hv : w.cell? ⟨V, 0, none⟩ = some (iv z))
    (hq : wpList Tryd.prog ops Q rest (a.put o.dst (.slice (some ⟨g, 0, none⟩) (k + 1) c)) (w.setCell ⟨g, k, none⟩ (iv z))) : wpList Tryd.prog ops Q (o :: rest) a w := by
  subst hk
  have hrun := run_room w g c L z V o.type h hl hv
  refine wpList_plain hgd fun K hK => ?_
  unfold Oper.wp execOp
  simp only [ho, resolve, invoke, builtin, Sem.run_bind, Sem.run_pure, Result.andThen_ok, List.map_toArray, List.map_cons, List.map_nil, hs, hx, hrun]
  exact hK _ _ hq
theorem build1 (w : World) (x : Int) : (Instr.buildSlice 22 1 #[(0, .int .i64 x)]).run Tryd.prog w = .ok (.slice (some ⟨w.heap.size, 0, none⟩) 1 1) (w.alloc (.cells #[.int .i64 x] 3)) := by
  go_simp

theorem Blk.grown2 {W W' : World} {row : Option Nat} {b : Nat} {vs : List Value} {t : TypeId} (h : Blk W b vs t) (hg : W.grownBy W' row) (hr : ∀ r, row = some r → ∃ o : Obj, W.heap[r]? = some o ∧ o.isCells = false) : Blk W' b vs t :=
  (hg.block b h.lt (fun e => by
    obtain ⟨o, ho, hc⟩ := hr b e.symm
    rw [show W.heap[b]? = _ from h] at ho
    cases ho
    cases hc)).trans h
/-- The row of all places, while it grows. -/
structure Grows (g ba c : Nat) (w : World) (pre : List Int) (W : World) : Prop where
  v : Blk W ba [.slice (some ⟨g, 0, none⟩) pre.length c] 22
  row : Room W g c pre
  bel : Below w.heap.size w W
theorem Grows.push {g ba c : Nat} {w : World} {pre : List Int} {W : World} (h : Grows g ba c w pre W) (x : Int) (hl : pre.length + 1 ≤ c) (h1 : ba ≠ g) (h2 : w.heap.size ≤ g) (h3 : w.heap.size ≤ ba) (o : Obj) :
    Grows g ba c w (pre ++ [x]) (((W.alloc o).setCell ⟨g, pre.length, none⟩ (iv x)).setCell ⟨ba, 0, none⟩ (.slice (some ⟨g, 0, none⟩) (pre.length + 1) c)) := by
  have hp := (h.row.alloc o).push x hl
  refine ⟨?_, hp.other _ _ (Ne.symm h1), ((h.bel.alloc h.bel.size o).setCell h2 _).setCell h3 _⟩
  rw [List.length_append]
  exact ((h.v.alloc o).other _ _ h1).set 0 _
theorem grows_own (g ba c : Nat) (w : World) (B : Nat) (hB : w.heap.size ≤ B) : OwnFrom B (Grows g ba c w) := fun pre W W' row h hg hr =>
  ⟨h.v.grown2 hg (fun r e => (hr r e).2), ⟨h.row.1, h.row.2.grown2 hg (fun r e => (hr r e).2)⟩, h.bel.grown hg h.bel.size (fun r e => Nat.le_trans hB (hr r e).1)⟩
theorem grows_row {g ba c : Nat} {w : World} {L : List Int} {W : World} (h : Grows g ba c w L W) (hg : w.heap.size ≤ g) (hc : c ≤ 65536) : W.ownsRow w.heap.size 3 1 (.slice (some ⟨g, 0, none⟩) L.length c) L.length (L.map iv) := by
  refine ⟨by simp, .inr ⟨g, c, _, rfl, hg, h.row.2, h.row.1, by unfold maxLen; omega, ?_, ?_⟩⟩
  · have := h.row.1
    simp
    omega
  · rw [Nat.mul_one, List.take_append_of_le_length (by simp), List.take_of_length_le (by simp)]
theorem wpListIn_append_room1 {F : Fence} {n : Nat} {ops : Array Oper} {rest : List Oper} {o : Oper} {a : Act} {Q : Exit → Act → World → Prop} (w : World) (hgd : o.guard = none) (s x : Operand)
    (ho : o.op = .call { callee := .builtin .append, args := #[s, x], argTypes := #[22, 22] }) (g c : Nat) (L : List Int) (z : Int) (V : Nat) (k : Nat) (hk : k = L.length)
    (hs : a.eval s = .slice (some ⟨g, 0, none⟩) k c) (hx : a.eval x = .slice (some ⟨V, 0, none⟩) 1 1) (h : Room w g c L) (hl : L.length + 1 ≤ c) (hv : w.cell? ⟨V, 0, none⟩ = some (iv z))
    (hq : wpListIn F n Tryd.prog ops Q rest (a.put o.dst (.slice (some ⟨g, 0, none⟩) (k + 1) c)) (w.setCell ⟨g, k, none⟩ (iv z))) : wpListIn F n Tryd.prog ops Q (o :: rest) a w := by
  subst hk
  have hrun := run_room w g c L z V o.type h hl hv
  refine wpListIn_plain hgd fun K hK => ?_
  unfold Oper.wpIn
  refine ⟨?_, ?_⟩
  · simp [Oper.about, ho, resolve, Target.leads, Sem.run_pure]
  · rw [Oper.semAt_plain F _ _ (by rw [ho]; intro c hc'; cases hc')]
    simp [execOp, ho, resolve, invoke, builtin, hs, hx, hrun, Result.andThen]
    exact hK _ _ hq
end Go.Proofs.YtjdidnonfmdfmaaDoor
end

