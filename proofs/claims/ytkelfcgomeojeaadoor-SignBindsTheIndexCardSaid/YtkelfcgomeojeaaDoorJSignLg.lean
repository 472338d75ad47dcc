import Derived.Test.YtkelfcgomeojeaaDoorJSignLe
import Derived.Test.YtkelfcgomeojeaaDoorJSignLf

section
/- SignBindsTheIndex over bytes as they come in. -/


namespace Go.Proofs.YtkelfcgomeojeaaDoor
open Go.RowKit
set_option linter.unusedVariables false
set_option maxRecDepth 100000

theorem binds_at (a0 a1 a2 a3 : Int) (m : ByteArray) (W : World) (w0 : (Lit.int .u8 a0).wf = true) (w1 : (Lit.int .u8 a1).wf = true) (w2 : (Lit.int .u8 a2).wf = true) (w3 : (Lit.int .u8 a3).wf = true) (hR : RTab W) (hT : HTab W) :
    Calls Tryd.prog 8 #[.int .u8 a0, .int .u8 a1, .int .u8 a2, .int .u8 a3, .string m] W (Tells true W) := by
  obtain ⟨c, rfl⟩ := byte_is w0
  obtain ⟨d, rfl⟩ := byte_is w1
  obtain ⟨e, rfl⟩ := byte_is w2
  obtain ⟨f, rfl⟩ := byte_is w3
  exact binds_walk c d.toNat e.toNat f.toNat m W d.toNat_lt e.toNat_lt f.toNat_lt hR hT
end Go.Proofs.YtkelfcgomeojeaaDoor
end

