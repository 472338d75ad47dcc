/- The equality of two arrays of bytes. -/
import Derived.Test.YtmlnpnlajgnohaaDoorHashN
import Derived.ChangeKeysEq
import Derived.Laws.StructEq
namespace Go.Proofs.YtmlnpnlajgnohaaDoor
open Go.RowKit
set_option linter.unusedVariables false

theorem part_byte (C : List UInt8) (i : Nat) (hi : i < C.length) (w : World) : (part 5 (C.map bv).toArray i).run Tryd.prog w = .ok (bv C[i]) w := by
  simp [part, hi]
theorem info_u8' : ∃ i, Tryd.prog.info? 5 = some i := ⟨_, rfl⟩
theorem cells_u8 : Tryd.prog.cellsOf 5 = 1 := by kernel_rfl
theorem eqItems_bytes (d : Nat) (C D : List UInt8) (w : World) : ∀ is : List Nat, (∀ i ∈ is, i < C.length ∧ i < D.length) →
    (Op.eqItems (d + 1) 5 1 (C.map bv).toArray (D.map bv).toArray is).run Tryd.prog w = .ok (is.all fun i => C[i]? == D[i]?) w := by
  intro is
  induction is with
  | nil => intro _; simp [Op.eqItems]
  | cons i is ih =>
    intro h
    obtain ⟨h1, h2⟩ := h i (by simp)
    have ih' := ih (fun j hj => h j (by simp [hj]))
    simp only [Op.eqItems, Sem.run_bind, Nat.mul_one, part_byte C i h1, part_byte D i h2, Result.andThen_ok, bv]
    rw [run_equalIn_int w d 5 .u8 .u8 _ _ Tryd.underlying5]
    simp only [Result.andThen_ok, List.all_cons, List.getElem?_eq_getElem h1, List.getElem?_eq_getElem h2]
    by_cases he : C[i] = D[i]
    · simp only [he, beq_self_eq_true, Bool.not_true, Bool.false_eq_true, if_false, Bool.true_and]
      exact ih'
    · have hn : ((C[i].toNat : Int) == (D[i].toNat : Int)) = false := by
        simp
        intro h
        exact he (UInt8.toNat_inj.1 (by omega))
      simp [hn, he]
theorem eq_arr (t : TypeId) (n : Nat) (ht : Tryd.prog.underlying t = some (.array n 5)) (C D : List UInt8) (hC : C.length = n) (hD : D.length = n) (w : World) :
    (Op.equalIn 10000 t (.agg (C.map bv).toArray) (.agg (D.map bv).toArray)).run Tryd.prog w = .ok (decide (C = D)) w := by
  obtain ⟨i, hi⟩ := info_u8'
  rw [show (10000 : Nat) = 9998 + 1 + 1 from rfl, run_equalIn_array w (9998 + 1) _ _ ht hi, cells_u8, eqItems_bytes 9998 C D w _ (fun i h => by have := List.mem_range.1 h; omega)]
  congr 1
  rw [Bool.eq_iff_iff, List.all_eq_true, decide_eq_true_iff]
  constructor
  · intro h
    apply List.ext_getElem?
    intro j
    by_cases hj : j < n
    · have := h j (List.mem_range.2 hj)
      simpa using this
    · rw [List.getElem?_eq_none (by omega), List.getElem?_eq_none (by omega)]
  · intro h i _
    subst h
    simp
theorem eq_sum (C D : List UInt8) (hC : C.length = 32) (hD : D.length = 32) (w : World) :
    (Op.equalIn 10000 24 (.agg (C.map bv).toArray) (.agg (D.map bv).toArray)).run Tryd.prog w = .ok (decide (C = D)) w := eq_arr _ 32 Tryd.underlying24 C D hC hD w
theorem eq_dig (C D : List UInt8) (hC : C.length = 16) (hD : D.length = 16) (w : World) :
    (Op.equalIn 10000 44 (.agg (C.map bv).toArray) (.agg (D.map bv).toArray)).run Tryd.prog w = .ok (decide (C = D)) w := eq_arr _ 16 Tryd.underlying44 C D hC hD w
end Go.Proofs.YtmlnpnlajgnohaaDoor
