/- Strings in drawn regions; decimal digits. -/
import Derived.Test.YtkenfgifhebnpaaDoorBase
import Derived.Test.YtkenfgifhebnpaaDoorFacts
import Derived.Test.YtkenfgifhebnpaaDoorRatioText
import Derived.Lib.ItoaLen
import Derived.IntWalk
namespace Go.Proofs.YtkenfgifhebnpaaDoor
open Go.RowKit
set_option linter.unusedVariables false
set_option maxRecDepth 100000

theorem size_bs (l : List UInt8) : (bs l).size = l.length := by simp [bs, ByteArray.size]
theorem bs_add (x y : List UInt8) : bs x ++ bs y = bs (x ++ y) := ByteArray.mk_append_mk x y
theorem run_add_str (X Y : Operand) (w : World) (x y : List UInt8) (hx : x.length ≤ 8388608) (hy : y.length ≤ 8388608) :
    (do eqGuard .add 9 X Y (.string (bs x)) (.string (bs y)); binOp .add 9 (.string (bs x)) (.string (bs y)) : Sem Value).run Tryd.prog w = .ok (.string (bs (x ++ y))) w := by
  go_simp
  rw [if_neg (by rw [size_bs, size_bs]; omega), bs_add]
theorem extract_take (s : ByteArray) (i : Nat) : s.extract 0 i = bs ((sb s).take i) := by
  apply ByteArray.ext
  apply Array.toList_inj.1
  simp [bs, sb, ByteArray.data_extract]
theorem extract_drop (s : ByteArray) (i : Nat) : s.extract i s.size = bs ((sb s).drop i) := by
  apply ByteArray.ext
  apply Array.toList_inj.1
  simp only [bs, sb, ByteArray.data_extract, Array.toList_extract, List.extract_eq_take_drop]
  exact List.take_of_length_le (by rw [List.length_drop, Array.length_toList]; exact Nat.le_refl _)
theorem run_quo10 (n : Nat) (X Y : Operand) (W : World) (h : n < 9223372036854775808) : (do eqGuard .quo 3 X Y (.int .i64 n) (.int .i64 10); binOp .quo 3 (.int .i64 n) (.int .i64 10) : Sem Value).run Tryd.prog W = .ok (.int .i64 ((n / 10 : Nat) : Int)) W := by
  have e : ((n / 10 : Nat) : Int) = (n : Int).tdiv 10 := by rw [Int.tdiv_eq_ediv_of_nonneg (by omega)]; omega
  have e2 : IntKind.i64.wrap ((n : Int).tdiv 10) = (n : Int).tdiv 10 := i64_in _ (by rw [← e]; omega) (by rw [← e]; omega)
  rw [e]
  clear e h
  generalize (n : Int) = x at *
  go_simp
theorem run_rem10 (n : Nat) (X Y : Operand) (W : World) : (do eqGuard .rem 3 X Y (.int .i64 n) (.int .i64 10); binOp .rem 3 (.int .i64 n) (.int .i64 10) : Sem Value).run Tryd.prog W = .ok (.int .i64 ((n % 10 : Nat) : Int)) W := by
  have e : ((n % 10 : Nat) : Int) = (n : Int).tmod 10 := by rw [Int.tmod_eq_emod_of_nonneg (by omega)]; omega
  rw [e]
  clear e
  generalize (n : Int) = x at *
  go_simp
theorem run_add48 (k : Nat) (X Y : Operand) (W : World) (h : k < 10) : (do eqGuard .add 3 X Y (.int .i64 48) (.int .i64 k); binOp .add 3 (.int .i64 48) (.int .i64 k) : Sem Value).run Tryd.prog W = .ok (.int .i64 (48 + (k : Int))) W := by
  have e2 : IntKind.i64.wrap (48 + (k : Int)) = 48 + (k : Int) := i64_in _ (by omega) (by omega)
  have e3 : wrap64 (48 + (k : Int)) = 48 + (k : Int) := IntWalk.wrap64_in _ (by omega)
  clear h
  generalize (k : Int) = x at *
  go_simp
theorem run_conv8 (k : Nat) (W : World) (h : k < 10) : (convert 3 5 (.int .i64 (48 + (k : Int)))).run Tryd.prog W = .ok (bv (UInt8.ofNat (48 + k))) W := by
  have e : bv (UInt8.ofNat (48 + k)) = .int .u8 (48 + (k : Int)) := by
    unfold bv
    congr 1
    rw [Rt.ofNat_dig h]; omega
  rw [e]
  have h2 : IntKind.u8.wrap (48 + (k : Int)) = 48 + (k : Int) := by rw [IntKind.wrap_u8]; omega
  go_simp
/-- What a slice of bytes reads as. -/
def Fact.rowB (l : List UInt8) : Fact :=
  ⟨fun v w => ∃ A c, v = .slice A l.length c ∧ RdB w w.heap.size A l ∧ l.length ≤ c ∧ c ≤ maxLen, fun _ _ _ ⟨A, c, h1, h2, h3, h4⟩ hb => ⟨A, c, h1, (h2.below hb).more hb.size, h3, h4⟩⟩
theorem build_u8 (w : World) (x : UInt8) : (Instr.buildSlice 33 1 #[(0, bv x)]).run Tryd.prog w = .ok (.slice (some ⟨w.heap.size, 0, none⟩) 1 1) (w.alloc (.cells #[bv x] 5)) := by
  unfold bv
  go_simp
theorem dec_len21 (n : Nat) (h : n < 9223372036854775808) : (Lib.decDigits n).length ≤ 21 := by
  have h1 := Lib.itoa_length_le (n : Int) (by omega) (by omega)
  rw [Rt.itoa_pos (by omega)] at h1
  simpa using h1
end Go.Proofs.YtkenfgifhebnpaaDoor
