import Derived.Test.YtjdidnonfmdfmaaDoorProg
import Derived.WalkKit
import Derived.Lib.Hide
import Derived.Outline
import Derived.Laws.BitsAllLaws
import Derived.Laws.BitsAll
import Derived.Deep.QuietTactic
import Derived.BigQuiet
import Derived.Test.YtjdidnonfmdfmaaDoorJHashMath

section
/- Words of 32 bits in the walk's spelling. -/









namespace Go.Proofs.YtjdidnonfmdfmaaDoor
open Go.RowKit

/-- A word's number, and its value. -/
def nv (x : H.W) : Int := (x.toNat : Int)
def wv (x : H.W) : Value := .int .u32 (nv x)
theorem nv_lo (x : H.W) : 0 ≤ nv x := by unfold nv; omega
theorem nv_hi (x : H.W) : nv x < 4294967296 := by unfold nv; have := x.isLt; omega
theorem wxor (x y : H.W) : bits .xor .u32 (nv x) (nv y) = nv (H.oxor x y) := by
  unfold nv H.oxor
  rw [u32_xor_nat _ _ x.isLt y.isLt, BitVec.toNat_xor]
theorem wand (x y : H.W) : bits .and .u32 (nv x) (nv y) = nv (H.oand x y) := by
  unfold nv H.oand
  rw [u32_and_nat _ _ x.isLt y.isLt, BitVec.toNat_and]
theorem wor (x y : H.W) : bits .or .u32 (nv x) (nv y) = nv (H.oor x y) := by
  unfold nv H.oor
  rw [u32_or_nat _ _ x.isLt y.isLt, BitVec.toNat_or]
theorem wadd' (x y : H.W) : (nv x + nv y) % 4294967296 = nv (H.oadd x y) := by
  unfold nv H.oadd
  rw [BitVec.toNat_add]; omega
theorem wadd (x y : H.W) : IntKind.u32.wrap (nv x + nv y) = nv (H.oadd x y) := by
  rw [IntKind.wrap_u32', wadd']
theorem wshl (x : H.W) (n : Nat) : nv x * 2 ^ n % 4294967296 = nv (H.oshl x n) := by
  unfold nv H.oshl
  rw [BitVec.toNat_shiftLeft, Nat.shiftLeft_eq, Int.natCast_emod, Int.natCast_mul, Int.natCast_pow]
  rfl
theorem wshr (x : H.W) (n : Nat) : nv x / 2 ^ n = nv (H.oshr x n) := by
  unfold nv H.oshr
  rw [BitVec.toNat_ushiftRight, Nat.shiftRight_eq_div_pow, Int.natCast_ediv, Int.natCast_pow]
  rfl
theorem wnot (x : H.W) : (4294967295 : Int) - nv x = nv (H.onot x) := by
  unfold nv H.onot
  rw [BitVec.toNat_not]; have := x.isLt; omega
theorem wnot' (x : H.W) : bits .xor .u32 (if IntKind.u32.signed = true then -1 else IntKind.u32.max) (nv x) = nv (H.onot x) := by
  rw [← wnot]
  unfold nv
  rw [show (if IntKind.u32.signed = true then (-1 : Int) else IntKind.u32.max) = ((4294967295 : Nat) : Int) from by decide, u32_xor_nat _ _ (by omega) x.isLt]
  have h := BitVec.toNat_not (x := x)
  have h2 : (~~~x) = (4294967295#32 ^^^ x) := by
    rw [show (4294967295#32 : BitVec 32) = BitVec.allOnes 32 from by decide, BitVec.allOnes_xor]
  rw [h2, BitVec.toNat_xor] at h
  have h3 : (4294967295#32 : BitVec 32).toNat = 4294967295 := by decide
  rw [h3] at h
  rw [h]
  have := x.isLt
  omega
theorem wshl24 (x : H.W) : IntKind.u32.wrap (nv x * 16777216) = nv (H.oshl x 24) := by rw [← wshl x 24, IntKind.wrap_u32']; rfl
theorem wshl16 (x : H.W) : IntKind.u32.wrap (nv x * 65536) = nv (H.oshl x 16) := by rw [← wshl x 16, IntKind.wrap_u32']; rfl
theorem wshl8 (x : H.W) : IntKind.u32.wrap (nv x * 256) = nv (H.oshl x 8) := by rw [← wshl x 8, IntKind.wrap_u32']; rfl
theorem wshr3 (x : H.W) : nv x / 8 = nv (H.oshr x 3) := wshr x 3
theorem wshr10 (x : H.W) : nv x / 1024 = nv (H.oshr x 10) := wshr x 10
theorem wbyte (c : UInt8) : IntKind.u32.wrap (c.toNat : Int) = nv (H.u c) := by
  have := c.toNat_lt
  rw [IntKind.wrap_u32']
  unfold nv H.u
  rw [BitVec.toNat_ofNat]
  omega
theorem ret_u32 {a b : Int} (h : a = b) : Ending.returned (.int .u32 a) = .returned (.int .u32 b) := by rw [h]
theorem oor_comm (x y : H.W) : H.oor x y = H.oor y x := by
  unfold H.oor
  apply BitVec.eq_of_toNat_eq
  rw [BitVec.toNat_or, BitVec.toNat_or, Nat.or_comm]
theorem and31 (n : Nat) (h : 1 ≤ n) (h2 : n ≤ 31) : bits .and .u64 (IntKind.u64.wrap (-(n : Int))) 31 = ((32 - n : Nat) : Int) := by
  have : ∀ m : Fin 32, m.val ≠ 0 → bits .and .u64 (IntKind.u64.wrap (-(m.val : Int))) 31 = ((32 - m.val : Nat) : Int) := by decide +kernel
  exact this ⟨n, by omega⟩ (by simp; omega)

theorem rotl_any (x : H.W) (n : Nat) (w : World) (h : 1 ≤ n) (h2 : n ≤ 31) :
    Calls Tryd.prog 77 #[.int .u32 (nv x), .int .i64 (-(n : Int))] w fun e w' => e = .returned (.int .u32 (nv (H.rotr x n))) ∧ w = w' := by
  have ha := and31 n h h2
  have hx := nv_lo x
  have hx' := nv_hi x
  obtain ⟨m, hm⟩ : ∃ m, m = 32 - n := ⟨_, rfl⟩
  rw [← hm] at ha
  have m1 : m + n ≤ 32 := by omega
  have m2 : 32 ≤ m + n := by omega
  clear hm
  go_enter Tryd.func77, Tryd.ntmps77
  go_wp2
  go_ret
  refine ⟨ret_u32 ?_, rfl⟩
  rw [wshl, wshr, wor]
  unfold H.rotr
  rw [oor_comm, show 32 - m = n by omega, show m = 32 - n by omega]

theorem rotr_any (x : H.W) (n : Nat) (w : World) (h : 1 ≤ n) (h2 : n ≤ 31) :
    Calls Tryd.prog 73 #[.int .u32 (nv x), .int .i64 (n : Int)] w fun e w' => e = .returned (.int .u32 (nv (H.rotr x n))) ∧ w = w' := by
  have hx := nv_lo x
  have hx' := nv_hi x
  go_enter Tryd.func73, Tryd.ntmps73
  go_wp2_with (refine (rotl_any _ n _ h h2).mono ?_; rintro e w' ⟨rfl, rfl⟩)
  go_ret
  exact ⟨rfl, rfl⟩

theorem rrotr_any (x : H.W) (n : Nat) (w : World) (h : 1 ≤ n) (h2 : n ≤ 31) :
    Calls Tryd.prog 76 #[.int .u32 (nv x), .int .i64 (n : Int)] w fun e w' => e = .returned (.int .u32 (nv (H.rotr x n))) ∧ ∃ m, w' = w.drewN m := by
  have hx := nv_lo x
  have hx' := nv_hi x
  go_enter Tryd.func76, Tryd.ntmps76
  go_wp2
  go_quiet (fail)
  go_wp2
  go_ret
  refine ⟨ret_u32 ?_, _, rfl⟩
  rw [wshl, wshr, wor]
  rfl

theorem quiet_left {P : Program} {f : FuncId} {args : Array Value} {w : World} {n : Nat} {v : Value}
    (h : Calls P f args (w.drewN n) fun e w' => e = .returned v ∧ w.drewN n = w') : Calls P f args (w.drewN n) fun e w'' => e = .returned v ∧ ∃ m, w'' = w.drewN m :=
  h.mono fun _ _ ⟨he, hm⟩ => ⟨he, n, hm.symm⟩
theorem rotr_z (x : H.W) (z : Int) (w : World) (h : 1 ≤ z) (h2 : z ≤ 31) :
    Calls Tryd.prog 73 #[.int .u32 (nv x), .int .i64 z] w fun e w' => e = .returned (.int .u32 (nv (H.rotr x z.toNat))) ∧ w = w' := by
  obtain ⟨n, rfl⟩ := Int.eq_ofNat_of_zero_le (show 0 ≤ z by omega)
  exact rotr_any x n w (by omega) (by omega)
theorem rrotr_z (x : H.W) (z : Int) (w : World) (h : 1 ≤ z) (h2 : z ≤ 31) :
    Calls Tryd.prog 76 #[.int .u32 (nv x), .int .i64 z] w fun e w' => e = .returned (.int .u32 (nv (H.rotr x z.toNat))) ∧ ∃ m, w' = w.drewN m := by
  obtain ⟨n, rfl⟩ := Int.eq_ofNat_of_zero_le (show 0 ≤ z by omega)
  exact rrotr_any x n w (by omega) (by omega)
end Go.Proofs.YtjdidnonfmdfmaaDoor
end

