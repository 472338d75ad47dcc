/- Appends of bytes: onto a slice of the call's own, and onto one without spare room. -/
import Derived.Test.YtkenfgifhebnpaaDoorBase
import Derived.ArgAppend
namespace Go.Proofs.YtkenfgifhebnpaaDoor
open Go.RowKit
set_option linter.unusedVariables false
set_option maxRecDepth 100000

theorem info_u8 : (Tryd.prog.info? 5).map (fun i => (i.zero, i.size, i.bytes)) = some (some (.int .u8 0), 1, 1) := by kernel_rfl
theorem one_cells (l : List UInt8) : ∀ u ∈ l.map bv, u.oneCell' = true := by
  intro u hu
  obtain ⟨c, _, rfl⟩ := List.mem_map.1 hu
  rfl

theorem own_new (w : World) (base n : Nat) (e : TypeId) (xs : List Value) (hn : xs.length = n) (hb : base ≤ w.heap.size) (hm : n ≤ maxLen) :
    (w.alloc (.cells xs.toArray e)).ownsRow base e 1 (.slice (some ⟨w.heap.size, 0, none⟩) n n) n xs :=
  ⟨by omega, .inr ⟨w.heap.size, n, xs.toArray, rfl, hb, heap_alloc_new w _, Nat.le_refl _, hm, by simp [hn], by simp [← hn]⟩⟩
theorem run_append_ownB (w : World) (ty : TypeId) (base : Nat) (v : Value) (l l' : List UInt8) (A' : Option Addr) (c' : Nat) (hown : w.ownsRow base 5 1 v l.length (l.map bv)) (hr' : RdB w w.heap.size A' l')
    (hb : l.length + l'.length ≤ 1000000000) (hbase : base ≤ w.heap.size) :
    ∃ v' w', (Builtin.append_ #[33, 33] ty #[v, .slice A' l'.length c']).run Tryd.prog w = .ok v' w' ∧ w'.ownsRow base 5 1 v' (l ++ l').length ((l ++ l').map bv) ∧ w.grownBy w' v.ownBlock := by
  obtain ⟨i0, hi, hz0, hz1, hz2⟩ := info_parts info_u8
  rw [List.length_append, List.map_append]
  cases A' with
  | some a =>
    have hnews : ∀ (j : Nat) (u : Value), (l'.map bv)[j]? = some u → w.cell? (a.add j) = some u := by
      intro j u hu
      have hp : 0 < (l'.map bv).length := by have := (List.getElem?_eq_some_iff.1 hu).1; omega
      obtain ⟨b, off, e, hlt, hcell⟩ := hr' hp
      injection e with e
      subst e
      rw [Addr.add_mid]
      exact hcell j u hu
    obtain ⟨v', w', h1, h2, h3, -⟩ := run_append_own (P := Tryd.prog) w base 33 ty 5 i0 (.int .u8 0) 1 1 Tryd.underlying33 hi hz0 hz1 hz2 rfl (by decide) v l.length (l.map bv) hown a l'.length c' (l'.map bv) (by simp) hnews (one_cells _) (by unfold maxLen; omega) (by omega) hbase
    exact ⟨v', w', h1, h2, h3⟩
  | none =>
    have h0 : l' = [] := by
      cases l' with
      | nil => rfl
      | cons x t => obtain ⟨b, off, e, _⟩ := hr' (by simp); cases e
    subst h0
    refine ⟨v, w, ?_, by simpa using hown, ⟨rfl, rfl, rfl, Nat.le_refl _, fun _ _ _ => rfl⟩⟩
    rcases hown.2 with ⟨rfl, h0⟩ | ⟨g, cap, cur, rfl, _, _, hnc, _⟩
    · simp [Builtin.append_, run_underlying Tryd.underlying33, sizeOf, typeInfo, hi, Builtin.lenOf, Builtin.firstCells]
    · simp [Builtin.append_, run_underlying Tryd.underlying33, sizeOf, typeInfo, hi, Builtin.lenOf, Builtin.firstCells, hnc, storeCells]

theorem wpList_append_ownB {ops : Array Oper} {rest : List Oper} {o : Oper} {a : Act} {Q : Exit → Act → World → Prop} (w : World) (hgd : o.guard = none) (s x : Operand)
    (ho : o.op = .call { callee := .builtin .append, args := #[s, x], argTypes := #[33, 33] }) (base : Nat) (v : Value) (l l' : List UInt8) (A' : Option Addr) (c' : Nat)
    (hs : a.eval s = v) (hx : a.eval x = .slice A' l'.length c') (hown : w.ownsRow base 5 1 v l.length (l.map bv)) (hr' : RdB w w.heap.size A' l') (hb : l.length + l'.length ≤ 1000000000) (hbase : base ≤ w.heap.size)
    (h : ∀ v' w', w'.ownsRow base 5 1 v' (l ++ l').length ((l ++ l').map bv) → w.grownBy w' v.ownBlock → wpList Tryd.prog ops Q rest (a.put o.dst v') w') : wpList Tryd.prog ops Q (o :: rest) a w := by
  obtain ⟨v', w', hrun, h1, h2⟩ := run_append_ownB w o.type base v l l' A' c' hown hr' hb hbase
  refine wpList_plain hgd fun K hK => ?_
  unfold Oper.wp execOp
  simp only [ho, resolve, invoke, builtin, Sem.run_bind, Sem.run_pure, Result.andThen_ok, List.map_toArray, List.map_cons, List.map_nil, hs, hx, hrun]
  exact hK _ _ (h v' w' h1 h2)

/-- Bytes in a slice value. -/
def IsB (v : Value) (l : List UInt8) (w : World) : Prop := ∃ A c, v = .slice A l.length c ∧ RdB w w.heap.size A l ∧ l.length ≤ c ∧ c ≤ maxLen

theorem run_append_full (w : World) (ty : TypeId) (A A' : Option Addr) (l l' : List UInt8) (c' : Nat) (hr : RdB w w.heap.size A l) (hr' : RdB w w.heap.size A' l') (hpos : 0 < l.length) (hb : l.length + l'.length ≤ 1000000000) :
    ∃ v w', (Builtin.append_ #[33, 33] ty #[.slice A l.length l.length, .slice A' l'.length c']).run Tryd.prog w = .ok v w' ∧ IsB v (l ++ l') w' ∧ Below w.heap.size w w' := by
  obtain ⟨i0, hi, hz0, hz1, hz2⟩ := info_parts info_u8
  obtain ⟨b, off, rfl, hlt, hcell⟩ := hr (by simpa using hpos)
  cases hl' : l' with
  | nil =>
    refine ⟨.slice (some ⟨b, off, none⟩) l.length l.length, w, ?_, ⟨some ⟨b, off, none⟩, l.length, by simp, by simpa using hr, by simp, by unfold maxLen; omega⟩, Below.refl _ _⟩
    cases A' with
    | none => simp [Builtin.append_, run_underlying Tryd.underlying33, sizeOf, typeInfo, hi, Builtin.lenOf, Builtin.firstCells, storeCells]
    | some a =>
      have h := run_append_room_cells (P := Tryd.prog) w 33 ty 5 i0 Tryd.underlying33 hi b off l.length l.length a 0 c' [] (by simp) (by simp) (by simp) (by omega) (by simp) (by simp)
      simpa [World.setCells] using h
  | cons x t =>
    rw [← hl']
    have hp' : 0 < l'.length := by rw [hl']; simp
    obtain ⟨b', off', rfl, hlt', hcell'⟩ := hr' (by simpa using hp')
    obtain ⟨v, w', h1, h2, h3⟩ := run_append_arg_grows (P := Tryd.prog) w 33 ty 5 i0 (.int .u8 0) 1 1 Tryd.underlying33 hi hz0 hz1 hz2 rfl (by decide) ⟨b, off, none⟩ l.length l.length (l.map bv) (by simp)
      (fun j u hu => by rw [Addr.add_mid]; exact hcell j u hu) ⟨b', off', none⟩ l'.length c' (l'.map bv) (by simp) (fun j u hu => by rw [Addr.add_mid]; exact hcell' j u hu) (by omega) (by unfold maxLen; omega) (by omega)
    obtain ⟨A, c, rfl, r1, r2, r3⟩ := own_rd (B := 0) h2
    refine ⟨_, w', h1, ⟨A, c, by rw [List.length_append], ?_, by rw [List.length_append]; exact r2, r3⟩, ⟨h3.os, h3.tape, h3.output, h3.size, fun k hk => h3.block k hk (by simp)⟩⟩
    unfold RdB
    rw [List.map_append]
    exact r1

theorem wpList_append_full {ops : Array Oper} {rest : List Oper} {o : Oper} {a : Act} {Q : Exit → Act → World → Prop} (w : World) (hgd : o.guard = none) (s x : Operand)
    (ho : o.op = .call { callee := .builtin .append, args := #[s, x], argTypes := #[33, 33] }) (A A' : Option Addr) (l l' : List UInt8) (c' : Nat)
    (hs : a.eval s = .slice A l.length l.length) (hx : a.eval x = .slice A' l'.length c') (hr : RdB w w.heap.size A l) (hr' : RdB w w.heap.size A' l') (hpos : 0 < l.length) (hb : l.length + l'.length ≤ 1000000000)
    (h : ∀ v w', IsB v (l ++ l') w' → Below w.heap.size w w' → wpList Tryd.prog ops Q rest (a.put o.dst v) w') : wpList Tryd.prog ops Q (o :: rest) a w := by
  obtain ⟨v, w', hrun, h1, h2⟩ := run_append_full w o.type A A' l l' c' hr hr' hpos hb
  refine wpList_plain hgd fun K hK => ?_
  unfold Oper.wp execOp
  simp only [ho, resolve, invoke, builtin, Sem.run_bind, Sem.run_pure, Result.andThen_ok, List.map_toArray, List.map_cons, List.map_nil, hs, hx, hrun]
  exact hK _ _ (h v w' h1 h2)
end Go.Proofs.YtkenfgifhebnpaaDoor
