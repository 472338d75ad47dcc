/- Words for the statements' own walks: what comes in; an append onto a slice without spare room. -/
import Derived.Test.YtacgekhphhhmpaaWireS
import Derived.ArgAppend
import Derived.ProofKit
import Derived.OpenShut
import Derived.ShutString
import Derived.ChangeOld
namespace Go.Proofs.Ytacgekhphhhmpaa
open Go.RowKit
set_option linter.unusedVariables false

/-- A slice of integers that came in: nil, or a row of 'cap' cells. -/
def IsRow (k : IntKind) (w : World) (a : Option Addr) (len cap : Nat) (zs : List Int) : Prop :=
  (a = none ∧ len = 0 ∧ cap = 0 ∧ zs = []) ∨
  ∃ x, a = some x ∧ len ≤ cap ∧ cap ≤ maxLen ∧ zs.length = cap ∧ (∀ i, i < zs.length → w.cell? (x.add i) = some (.int k (zs.getD i 0))) ∧ ∀ n ∈ zs, (Lit.int k n).wf = true

theorem row_rd {k : IntKind} {w : World} {a : Option Addr} {len cap : Nat} {zs : List Int} (h : IsRow k w a len cap zs) :
    ∃ l : List Int, l.length = len ∧ Rd w w.heap.size a (l.map (Value.int k)) ∧ len ≤ cap ∧ cap ≤ maxLen ∧ ∀ n ∈ l, (Lit.int k n).wf = true := by
  rcases h with ⟨rfl, rfl, rfl, rfl⟩ | ⟨x, rfl, hl, hm, hz, hcell, hwf⟩
  · exact ⟨[], rfl, Rd.nil, Nat.le_refl _, by decide, by simp⟩
  · refine ⟨zs.take len, by simp; omega, fun hn => ?_, hl, hm, fun n hn => hwf n (List.mem_of_mem_take hn)⟩
    have hn' : 0 < zs.length := by simp at hn; omega
    have h0 := hcell 0 hn'
    obtain ⟨b, off, spot⟩ := x
    have hspot : spot = none := by simpa [Addr.add] using World.cell?_spot h0
    subst hspot
    refine ⟨b, off, rfl, ?_, fun j u hu => ?_⟩
    · have := World.block_lt_of_cell? w _ h0
      simpa [add_block] using this
    · have hj := (List.getElem?_eq_some_iff.1 hu).1
      simp at hj
      have hc := hcell j (by omega)
      rw [Addr.add_mid] at hc
      have hj1 : j < len := by omega
      have hj2 : j < zs.length := by omega
      rw [hc, ← hu]
      simp [hj1, List.getElem?_eq_getElem hj2]

theorem nums_u8 (l : List Int) (h : ∀ n ∈ l, (Lit.int .u8 n).wf = true) : ∃ q : List UInt8, l.map (Value.int .u8) = q.map bv := by
  induction l with
  | nil => exact ⟨[], rfl⟩
  | cons n t ih =>
    obtain ⟨q, hq⟩ := ih (fun m hm => h m (by simp [hm]))
    have hb := bounds_u8 (h n (by simp))
    refine ⟨UInt8.ofNat n.toNat :: q, ?_⟩
    rw [List.map_cons, List.map_cons, hq]
    congr 1
    unfold bv
    congr 1
    simp
    omega
theorem row_bytes {w : World} {a : Option Addr} {len cap : Nat} {zs : List Int} (h : IsRow .u8 w a len cap zs) : ∃ q : List UInt8, q.length = len ∧ RdB w w.heap.size a q ∧ len ≤ cap ∧ cap ≤ maxLen := by
  obtain ⟨l, h1, h2, h3, h4, h5⟩ := row_rd h
  obtain ⟨q, hq⟩ := nums_u8 l h5
  refine ⟨q, ?_, ?_, h3, h4⟩
  · have := congrArg List.length hq
    simp at this
    omega
  · unfold RdB; rw [← hq]; exact h2
theorem row_ints {w : World} {a : Option Addr} {len cap : Nat} {zs : List Int} (h : IsRow .i64 w a len cap zs) : ∃ l : List Int, l.length = len ∧ Rd w w.heap.size a (l.map iv) ∧ len ≤ cap ∧ cap ≤ maxLen ∧ ∀ n ∈ l, M.I64 n := by
  obtain ⟨l, h1, h2, h3, h4, h5⟩ := row_rd h
  exact ⟨l, h1, h2, h3, h4, fun n hn => bounds_i64 (h5 n hn)⟩
theorem int_I64 {n : Int} (h : (Lit.int .i64 n).wf = true) : M.I64 n := bounds_i64 h

/-- Bytes in a slice value. -/
def IsB (v : Value) (l : List UInt8) (w : World) : Prop := ∃ A c, v = .slice A l.length c ∧ RdB w w.heap.size A l ∧ l.length ≤ c ∧ c ≤ maxLen

theorem run_append_full (w : World) (ty : TypeId) (A A' : Option Addr) (l l' : List UInt8) (c' : Nat) (hr : RdB w w.heap.size A l) (hr' : RdB w w.heap.size A' l') (hpos : 0 < l.length) (hb : l.length + l'.length ≤ 1000000000) :
    ∃ v w', (Builtin.append_ #[28, 28] ty #[.slice A l.length l.length, .slice A' l'.length c']).run Try.prog w = .ok v w' ∧ IsB v (l ++ l') w' ∧ Below w.heap.size w w' := by
  obtain ⟨i0, hi, hz0, hz1, hz2⟩ := info_parts info_u8
  obtain ⟨b, off, rfl, hlt, hcell⟩ := hr (by simpa using hpos)
  cases hl' : l' with
  | nil =>
    refine ⟨.slice (some ⟨b, off, none⟩) l.length l.length, w, ?_, ⟨some ⟨b, off, none⟩, l.length, by simp, by simpa using hr, by simp, by unfold maxLen; omega⟩, Below.refl _ _⟩
    cases A' with
    | none => simp [Builtin.append_, run_underlying Try.underlying28, sizeOf, typeInfo, hi, Builtin.lenOf, Builtin.firstCells, storeCells]
    | some a =>
      have h := run_append_room_cells (P := Try.prog) w 28 ty 5 i0 Try.underlying28 hi b off l.length l.length a 0 c' [] (by simp) (by simp) (by simp) (by omega) (by simp) (by simp)
      simpa [World.setCells] using h
  | cons x t =>
    rw [← hl']
    have hp' : 0 < l'.length := by rw [hl']; simp
    obtain ⟨b', off', rfl, hlt', hcell'⟩ := hr' (by simpa using hp')
    obtain ⟨v, w', h1, h2, h3⟩ := run_append_arg_grows (P := Try.prog) w 28 ty 5 i0 (.int .u8 0) 1 1 Try.underlying28 hi hz0 hz1 hz2 rfl (by decide) ⟨b, off, none⟩ l.length l.length (l.map bv) (by simp)
      (fun j u hu => by rw [Addr.add_mid]; exact hcell j u hu) ⟨b', off', none⟩ l'.length c' (l'.map bv) (by simp) (fun j u hu => by rw [Addr.add_mid]; exact hcell' j u hu) (by omega) (by unfold maxLen; omega) (by omega)
    obtain ⟨A, c, rfl, r1, r2, r3⟩ := own_rd (B := 0) h2
    refine ⟨_, w', h1, ⟨A, c, by rw [List.length_append], ?_, by rw [List.length_append]; exact r2, r3⟩, ⟨h3.os, h3.tape, h3.output, h3.size, fun k hk => h3.block k hk (by simp)⟩⟩
    unfold RdB
    rw [List.map_append]
    exact r1

theorem wpList_append_full {ops : Array Oper} {rest : List Oper} {o : Oper} {a : Act} {Q : Exit → Act → World → Prop} (w : World) (hgd : o.guard = none) (s x : Operand)
    (ho : o.op = .call { callee := .builtin .append, args := #[s, x], argTypes := #[28, 28] }) (A A' : Option Addr) (l l' : List UInt8) (c' : Nat)
    (hs : a.eval s = .slice A l.length l.length) (hx : a.eval x = .slice A' l'.length c') (hr : RdB w w.heap.size A l) (hr' : RdB w w.heap.size A' l') (hpos : 0 < l.length) (hb : l.length + l'.length ≤ 1000000000)
    (h : ∀ v w', IsB v (l ++ l') w' → Below w.heap.size w w' → wpList Try.prog ops Q rest (a.put o.dst v) w') : wpList Try.prog ops Q (o :: rest) a w := by
  obtain ⟨v, w', hrun, h1, h2⟩ := run_append_full w o.type A A' l l' c' hr hr' hpos hb
  refine wpList_plain hgd fun K hK => ?_
  unfold Oper.wp execOp
  simp only [ho, resolve, invoke, builtin, Sem.run_bind, Sem.run_pure, Result.andThen_ok, List.map_toArray, List.map_cons, List.map_nil, hs, hx, hrun]
  exact hK _ _ (h v w' h1 h2)
end Go.Proofs.Ytacgekhphhhmpaa
