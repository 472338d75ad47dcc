/- Appends of ints onto a slice of the call's own. -/
import Derived.Test.YtkenfgifhebnpaaDoorBase
import Derived.ArgAppend
namespace Go.Proofs.YtkenfgifhebnpaaDoor
open Go.RowKit
set_option linter.unusedVariables false
set_option maxRecDepth 100000

theorem info_i64 : (Tryd.prog.info? 3).map (fun i => (i.zero, i.size, i.bytes)) = some (some (.int .i64 0), 1, 8) := by kernel_rfl
theorem ints_one (l : List Int) : ∀ u ∈ l.map iv, u.oneCell' = true := by
  intro u hu
  obtain ⟨n, -, rfl⟩ := List.mem_map.1 hu
  rfl
theorem run_append_ownI (w : World) (ty : TypeId) (base : Nat) (v : Value) (l l' : List Int) (A' : Option Addr) (c' : Nat) (hown : w.ownsRow base 3 1 v l.length (l.map iv)) (hr' : Rd w w.heap.size A' (l'.map iv))
    (hb : l.length + l'.length ≤ 1000000000) (hbase : base ≤ w.heap.size) :
    ∃ v' w', (Builtin.append_ #[23, 23] ty #[v, .slice A' l'.length c']).run Tryd.prog w = .ok v' w' ∧ w'.ownsRow base 3 1 v' (l ++ l').length ((l ++ l').map iv) ∧ w.grownBy w' v.ownBlock := by
  obtain ⟨i0, hi, hz0, hz1, hz2⟩ := info_parts info_i64
  rw [List.length_append, List.map_append]
  cases A' with
  | some a =>
    have hnews : ∀ (j : Nat) (u : Value), (l'.map iv)[j]? = some u → w.cell? (a.add j) = some u := by
      intro j u hu
      have hp : 0 < (l'.map iv).length := by have := (List.getElem?_eq_some_iff.1 hu).1; omega
      obtain ⟨b, off, e, hlt, hcell⟩ := hr' hp
      injection e with e
      subst e
      rw [Addr.add_mid]
      exact hcell j u hu
    obtain ⟨v', w', h1, h2, h3, -⟩ := run_append_own (P := Tryd.prog) w base 23 ty 3 i0 (.int .i64 0) 1 8 Tryd.underlying23 hi hz0 hz1 hz2 rfl (by decide) v l.length (l.map iv) hown a l'.length c' (l'.map iv) (by simp) hnews (ints_one _) (by unfold maxLen; omega) (by omega) hbase
    exact ⟨v', w', h1, h2, h3⟩
  | none =>
    have h0 : l' = [] := by
      cases l' with
      | nil => rfl
      | cons x t => obtain ⟨b, off, e, _⟩ := hr' (by simp); cases e
    subst h0
    refine ⟨v, w, ?_, by simpa using hown, ⟨rfl, rfl, rfl, Nat.le_refl _, fun _ _ _ => rfl⟩⟩
    rcases hown.2 with ⟨rfl, h0⟩ | ⟨g, cap, cur, rfl, _, _, hnc, _⟩
    · simp [Builtin.append_, run_underlying Tryd.underlying23, sizeOf, typeInfo, hi, Builtin.lenOf, Builtin.firstCells]
    · simp [Builtin.append_, run_underlying Tryd.underlying23, sizeOf, typeInfo, hi, Builtin.lenOf, Builtin.firstCells, hnc, storeCells]

theorem wpList_append_ownI {ops : Array Oper} {rest : List Oper} {o : Oper} {a : Act} {Q : Exit → Act → World → Prop} (w : World) (hgd : o.guard = none) (s x : Operand)
    (ho : o.op = .call { callee := .builtin .append, args := #[s, x], argTypes := #[23, 23] }) (base : Nat) (v : Value) (l l' : List Int) (A' : Option Addr) (c' : Nat)
    (hs : a.eval s = v) (hx : a.eval x = .slice A' l'.length c') (hown : w.ownsRow base 3 1 v l.length (l.map iv)) (hr' : Rd w w.heap.size A' (l'.map iv)) (hb : l.length + l'.length ≤ 1000000000) (hbase : base ≤ w.heap.size)
    (h : ∀ v' w', w'.ownsRow base 3 1 v' (l ++ l').length ((l ++ l').map iv) → w.grownBy w' v.ownBlock → wpList Tryd.prog ops Q rest (a.put o.dst v') w') : wpList Tryd.prog ops Q (o :: rest) a w := by
  obtain ⟨v', w', hrun, h1, h2⟩ := run_append_ownI w o.type base v l l' A' c' hown hr' hb hbase
  refine wpList_plain hgd fun K hK => ?_
  unfold Oper.wp execOp
  simp only [ho, resolve, invoke, builtin, Sem.run_bind, Sem.run_pure, Result.andThen_ok, List.map_toArray, List.map_cons, List.map_nil, hs, hx, hrun]
  exact hK _ _ (h v' w' h1 h2)
end Go.Proofs.YtkenfgifhebnpaaDoor
