import Derived.Test.YtkelfcgomeojeaaDoorJSignLc
import Derived.Test.YtkelfcgomeojeaaDoorJWireK0

section
/- The laws over bytes as they come in. -/


namespace Go.Proofs.YtkelfcgomeojeaaDoor
open Go.RowKit
set_option linter.unusedVariables false
set_option maxRecDepth 100000

theorem byte_is {a : Int} (h : (Lit.int .u8 a).wf = true) : ∃ c : UInt8, a = (c.toNat : Int) := by
  have hb := bounds_u8 h
  obtain ⟨n, rfl⟩ := Int.eq_ofNat_of_zero_le hb.1
  exact ⟨UInt8.ofNat n, by rw [UInt8.toNat_ofNat']; omega⟩
theorem accepted_at (a0 a1 a2 : Int) (m : ByteArray) (W : World) (w0 : (Lit.int .u8 a0).wf = true) (w1 : (Lit.int .u8 a1).wf = true) (w2 : (Lit.int .u8 a2).wf = true) (hT : HTab W) :
    Calls Tryd.prog 6 #[.int .u8 a0, .int .u8 a1, .int .u8 a2, .string m] W (Tells true W) := by
  obtain ⟨c, rfl⟩ := byte_is w0
  obtain ⟨d, rfl⟩ := byte_is w1
  obtain ⟨e, rfl⟩ := byte_is w2
  exact accepted_walk c d.toNat e.toNat m W d.toNat_lt e.toNat_lt hT
end Go.Proofs.YtkelfcgomeojeaaDoor
end

