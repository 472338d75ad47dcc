/- The conversion of a []byte to a string. -/
import Derived.Test.YtmlnpnlajgnohaaDoorWireW
import Derived.Laws.BytesArg
namespace Go.Proofs.YtmlnpnlajgnohaaDoor
open Go.RowKit
set_option linter.unusedVariables false

def bs (l : List UInt8) : ByteArray := ⟨l.toArray⟩
theorem sb_bs (l : List UInt8) : sb (bs l) = l := by simp [sb, bs]
theorem bs_sb (s : ByteArray) : bs (sb s) = s := by cases s; simp [sb, bs]
theorem strOf (l : List UInt8) : strOfNums (l.map fun c => (c.toNat : Int)) = bs l := by
  unfold strOfNums bs
  congr 1
  apply congrArg
  rw [List.map_map]
  conv => rhs; rw [← List.map_id l]
  apply List.map_congr_left
  intro c _
  simp

theorem conv_bytes (w : World) (B : Nat) (A : Option Addr) (l : List UInt8) (c : Nat) (hr : RdB w B A l) :
    (convert 22 9 (.slice A l.length c)).run Tryd.prog w = .ok (.string (bs l)) w := by
  cases hl : l with
  | nil =>
    cases A with
    | none => exact run_convert_bytes_nil w _ _ Tryd.underlying22 Tryd.underlying5 _ _ _ Tryd.underlying9
    | some ad =>
      rw [run_convert_bytes_string w _ _ _ _ _ _ Tryd.underlying22 Tryd.underlying5 Tryd.underlying9]
      exact run_bytesToString w ad 0 c [] (run_loadCells_list (P := Tryd.prog) w ad [] (fun j v hj => by simp at hj))
  | cons a t =>
    obtain ⟨b, off, rfl, hb, hcell⟩ := hr (by rw [hl]; simp)
    rw [← hl, ← strOf l]
    refine run_convert_bytes_arg w _ _ Tryd.underlying22 Tryd.underlying5 b off l.length c (l.map fun c => (c.toNat : Int)) (by simp) (fun i hi => ?_) _ Tryd.underlying9
    refine hcell i _ ?_
    simp [hi, bv]

end Go.Proofs.YtmlnpnlajgnohaaDoor
