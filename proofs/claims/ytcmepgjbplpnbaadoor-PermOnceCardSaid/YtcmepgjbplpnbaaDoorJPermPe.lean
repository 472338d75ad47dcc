import Derived.Laws.MakeOwn
import Derived.Laws.OwnMore
import Derived.ArgAppend
import Derived.Test.YtcmepgjbplpnbaaDoorJFacts
import Derived.Test.YtcmepgjbplpnbaaDoorJPermPd
import Derived.Test.YtcmepgjbplpnbaaDoorJTake

section
/- perm: rows with room; the words that kept keeps. -/






namespace Go.Proofs.YtcmepgjbplpnbaaDoor
open Go.RowKit
set_option linter.unusedVariables false
set_option maxRecDepth 100000

theorem runs_callv {P : Program} {R : Value → World → Prop} {o : Oper} {f : FuncId} {t : Tmp} {args : List Operand} {ats : Array TypeId} {cap : Array Value} {b : Act} {w : World} (ho : o.op = .call { callee := .value (.tmp t), args := args.toArray, argTypes := ats })
    (ht : b.tmps.getD t undef = .func (.func f) #[] cap) (hc : ∀ xs w, (callFunc f xs).run P w = .ok (.enter f xs) w) (h : Calls P f ((args.map b.eval).toArray ++ cap) w fun e w' => ∃ v, e = .returned v ∧ R v w') : Runs P R ((execOp b.eval o).run P w) := by
  have e : (execOp b.eval o).run P w = .ok (.enter f ((args.map b.eval).toArray ++ cap)) w := by
    unfold execOp
    simp only [ho, resolve, Act.eval, ht, Deferred.ofValue, invoke, Sem.run_bind, Sem.run_pure, Result.andThen_ok, List.map_toArray, Array.empty_append, hc]
  rw [e]
  exact h

/-! ### A row of c ints, of which the first are written -/
def Room (w : World) (g c : Nat) (L : List Int) : Prop := L.length ≤ c ∧ Blk w g (L.map iv ++ List.replicate (c - L.length) (.int .i64 0)) 3
theorem make_room (w : World) (c : Nat) (z : Int) (hz : z = (c : Int)) (hc : c ≤ 65536) : (Instr.makeSlice 22 (.int .i64 0) (.int .i64 z)).run Tryd.prog w = .ok (.slice (some ⟨w.heap.size, 0, none⟩) 0 c) (w.alloc (.cells (List.replicate c (Value.int .i64 0)).toArray 3)) := by
  subst hz
  obtain ⟨i0, hi, hz0, hz1, hz2⟩ := info_parts info_i64
  have hmk := run_makeSlice (P := Tryd.prog) w 22 3 i0 (.int .i64 0) Tryd.underlying22 hi hz0 .i64 .i64 0 (c : Int) (by omega) (by omega) (by rw [hz1]; omega) (by rw [hz2]; omega) (by omega)
  rw [hz1, Int.toNat_natCast, Nat.mul_one] at hmk
  have hmc : madeCells (Value.int .i64 0).cells c = (List.replicate c (Value.int .i64 0)).toArray := by
    apply Array.toList_inj.1
    rw [show (Value.int .i64 0).cells = #[Value.int .i64 0] from rfl, toList_madeCells_one]
  rw [hmc] at hmk
  exact hmk
theorem Room.new (w : World) (c : Nat) : Room (w.alloc (.cells (List.replicate c (Value.int .i64 0)).toArray 3)) w.heap.size c [] := ⟨Nat.zero_le _, Blk.new w _ _⟩
theorem Room.below {w w' : World} {g c : Nat} {L : List Int} (h : Room w g c L) (hb : Below w.heap.size w w') : Room w' g c L := ⟨h.1, h.2.below hb h.2.lt⟩
theorem Room.other {w : World} {g c : Nat} {L : List Int} (h : Room w g c L) (a : Addr) (v : Value) (hn : g ≠ a.block) : Room (w.setCell a v) g c L := ⟨h.1, h.2.other a v hn⟩
theorem Room.alloc {w : World} {g c : Nat} {L : List Int} (h : Room w g c L) (o : Obj) : Room (w.alloc o) g c L := ⟨h.1, h.2.alloc o⟩
theorem Room.push {w : World} {g c : Nat} {L : List Int} (h : Room w g c L) (z : Int) (hl : L.length + 1 ≤ c) : Room (w.setCell ⟨g, L.length, none⟩ (iv z)) g c (L ++ [z]) := by
  refine ⟨by simp; omega, ?_⟩
  have := h.2.set L.length (iv z)
  rw [fill_set (L.map iv) L.length c _ _ (by simp) (by omega)] at this
  simpa using this
theorem Room.at {w : World} {g c : Nat} {L : List Int} (h : Room w g c L) (j : Nat) (z : Int) (hz : L[j]? = some z) : w.cell? ⟨g, j, none⟩ = some (iv z) := by
  refine h.2.cell j _ ?_
  rw [List.getElem?_append_left (by have := (List.getElem?_eq_some_iff.1 hz).1; simpa using this), List.getElem?_map, hz]
  rfl
theorem run_room (w : World) (g c : Nat) (L : List Int) (z : Int) (V : Nat) (ty : TypeId) (h : Room w g c L) (hl : L.length + 1 ≤ c) (hv : w.cell? ⟨V, 0, none⟩ = some (iv z)) :
    (Builtin.append_ #[22, 22] ty #[.slice (some ⟨g, 0, none⟩) L.length c, .slice (some ⟨V, 0, none⟩) 1 1]).run Tryd.prog w = .ok (.slice (some ⟨g, 0, none⟩) (L.length + 1) c) (w.setCell ⟨g, L.length, none⟩ (iv z)) := by
  obtain ⟨i0, hi, hz0, hz1, hz2⟩ := info_parts info_i64
  have hr := run_append_room_cells (P := Tryd.prog) w 22 ty 3 i0 Tryd.underlying22 hi g 0 L.length c ⟨V, 0, none⟩ 1 1 [iv z] (by rw [hz1]; rfl) (fun j u hu => by
      have hj : j = 0 := by have := (List.getElem?_eq_some_iff.1 hu).1; simp at this; exact this
      subst hj
      obtain rfl : u = iv z := (Option.some.inj hu).symm
      rw [Addr.add_mid]
      exact hv) (ints_one [z]) hl
    (fun j hj => by
      obtain rfl : j = 0 := by simp at hj; exact hj
      rw [hz1, Nat.mul_one, Nat.zero_add, Nat.add_zero, h.2.cell _ _ (fill_at (L.map iv) L.length c (.int .i64 0) (by simp) (by omega))]
      rfl) (fun j hj => h.2.frozen _)
  rw [hz1, Nat.mul_one, Nat.zero_add] at hr
  exact hr
theorem wpList_append_room1 {ops : Array Oper} {rest : List Oper} {o : Oper} {a : Act} {Q : Exit → Act → World → Prop} (w : World) (hgd : o.guard = none) (s x : Operand)
    (ho : o.op = .call { callee := .builtin .append, args := #[s, x], argTypes := #[22, 22] }) (g c : Nat) (L : List Int) (z : Int) (V : Nat) (k : Nat) (hk : k = L.length)
    (hs : a.eval s = .slice (some ⟨g, 0, none⟩) k c) (hx : a.eval x = .slice (some ⟨V, 0, none⟩) 1 1) (h : Room w g c L) (hl : L.length + 1 ≤ c) (hv : w.cell? ⟨V, 0, none⟩ = some (iv z))
    (hq : wpList Tryd.prog ops Q rest (a.put o.dst (.slice (some ⟨g, 0, none⟩) (k + 1) c)) (w.setCell ⟨g, k, none⟩ (iv z))) : wpList Tryd.prog ops Q (o :: rest) a w := by
  subst hk
  have hrun := run_room w g c L z V o.type h hl hv
  refine wpList_plain hgd fun K hK => ?_
  unfold Oper.wp execOp
  simp only [ho, resolve, invoke, builtin, Sem.run_bind, Sem.run_pure, Result.andThen_ok, List.map_toArray, List.map_cons, List.map_nil, hs, hx, hrun]
  exact hK _ _ hq
theorem build1 (w : World) (x : Int) : (Instr.buildSlice 22 1 #[(0, .int .i64 x)]).run Tryd.prog w = .ok (.slice (some ⟨w.heap.size, 0, none⟩) 1 1) (w.alloc (.cells #[.int .i64 x] 3)) := by
  go_simp

/-! ### The table -/
def tabL (Z : Nat → Nat → Nat) (B k : Nat) : List Int := (List.range k).map fun j => (Z (j / B) (j % B) : Int)
theorem tabL_len (Z : Nat → Nat → Nat) (B k : Nat) : (tabL Z B k).length = k := by simp [tabL]
theorem tabL_succ (Z : Nat → Nat → Nat) {B c y : Nat} (hy : y < B) : tabL Z B (c * B + y + 1) = tabL Z B (c * B + y) ++ [(Z c y : Int)] := by
  unfold tabL
  have h1 : (c * B + y) / B = c := by rw [Nat.mul_comm, Nat.mul_add_div (by omega), Nat.div_eq_of_lt hy, Nat.add_zero]
  have h2 : (c * B + y) % B = y := by rw [Nat.mul_comm, Nat.mul_add_mod, Nat.mod_eq_of_lt hy]
  rw [List.range_succ, List.map_append, List.map_singleton, h1, h2]
theorem tabL_at (Z : Nat → Nat → Nat) {B c y K : Nat} (hy : y < B) (hK : c * B + y < K) : (tabL Z B K)[c * B + y]? = some (Z c y : Int) := by
  unfold tabL
  have h1 : (c * B + y) / B = c := by rw [Nat.mul_comm, Nat.mul_add_div (by omega), Nat.div_eq_of_lt hy, Nat.add_zero]
  have h2 : (c * B + y) % B = y := by rw [Nat.mul_comm, Nat.mul_add_mod, Nat.mod_eq_of_lt hy]
  rw [List.getElem?_map, List.getElem?_range hK]
  simp only [Option.map_some, h1, h2]
/-- The variables of kept, when k words are in the table. -/
structure KeptAt (bt bb g : Nat) (Z : Nat → Nat → Nat) (B k : Nat) (w : World) : Prop where
  tv : Blk w bt [.slice (some ⟨g, 0, none⟩) k (4 * B)] 22
  bv : Blk w bb [.int .i64 B] 3
  row : Room w g (4 * B) (tabL Z B k)
theorem KeptAt.below {bt bb g : Nat} {Z : Nat → Nat → Nat} {B k : Nat} {w w' : World} (h : KeptAt bt bb g Z B k w) (hb : Below w.heap.size w w') : KeptAt bt bb g Z B k w' :=
  ⟨h.tv.below hb h.tv.lt, h.bv.below hb h.bv.lt, h.row.below hb⟩
theorem KeptAt.push {bt bb g : Nat} {Z : Nat → Nat → Nat} {B c y : Nat} {w : World} (h : KeptAt bt bb g Z B (c * B + y) w) (hy : y < B) (hc : c * B + y < 4 * B) (h1 : bt ≠ bb) (h2 : bt ≠ g) (h3 : bb ≠ g) :
    KeptAt bt bb g Z B (c * B + y + 1) ((w.setCell ⟨g, c * B + y, none⟩ (iv (Z c y : Int))).setCell ⟨bt, 0, none⟩ (.slice (some ⟨g, 0, none⟩) (c * B + y + 1) (4 * B))) := by
  have hp := h.row.push (Z c y : Int) (by rw [tabL_len]; omega)
  rw [tabL_len, ← tabL_succ Z hy] at hp
  exact ⟨(h.tv.other _ _ h2).set 0 _, (h.bv.other _ _ h3).other _ _ (Ne.symm h1), hp.other _ _ (Ne.symm h2)⟩
end Go.Proofs.YtcmepgjbplpnbaaDoor
end

