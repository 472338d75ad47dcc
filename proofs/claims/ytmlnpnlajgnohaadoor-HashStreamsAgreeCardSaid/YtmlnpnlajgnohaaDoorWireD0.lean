/- The contract of wire.Bytes. -/
import Derived.Test.YtmlnpnlajgnohaaDoorWireW
namespace Go.Proofs.YtmlnpnlajgnohaaDoor
open Go.RowKit
set_option linter.unusedVariables false

/-- A new row that holds these bytes; nothing that was there has changed. -/
def Makes (l : List UInt8) (w : World) (e : Ending) (w' : World) : Prop := ∃ v, e = .returned v ∧ w'.ownsRow w.heap.size 5 1 v l.length (l.map bv) ∧ Below w.heap.size w w'

set_option maxHeartbeats 1000000 in
theorem bytes_any (s : ByteArray) (w : World) (hs : s.size ≤ 1000000000) : Calls Tryd.prog 34 #[.string s] w (Makes (M.encB (sb s)) w) := by
  obtain ⟨i0, hi, hz0, hz1, hz2⟩ := info_parts info_u8
  have hI := M.I64_nat s.size (by omega)
  have hlen := M.encI_len_le s.size hI
  have hf : M.encB (sb s) = M.encI s.size ++ sb s := by unfold M.encB; rw [sb_len]
  have hl := sb_len s
  have Hf := Lib.hid hf
  have Hl := Lib.hid hl
  clear hf hl
  go_enter Tryd.func34, Tryd.ntmps34
  go_wp2_with fail
  refine (int_any s.size _ hI).mono ?_
  rintro e w' ⟨v, rfl, hown, hbel⟩
  have hB := hbel.size
  have hmx : (M.encI s.size).length + s.size ≤ maxLen := by unfold maxLen; omega
  go_wp2_with (at_builtin; refine Lib.wpList_append_own_string _ rfl (.tmp 5) (.tmp 6) 22 9 rfl w.heap.size 5 i0 Tryd.underlying22 Tryd.underlying9 hi hz0 hz1 hz2 _ _ _ rfl hown s rfl hmx (by omega) hB ?_; intro v' w1 hown' hgrow _)
  go_ret
  refine ⟨v', rfl, ?_, hbel.grown hgrow hB (fun k hk => (hown.lt k hk).1)⟩
  rw [Hf.out, List.length_append, Hl.out, List.map_append]
  exact hown'

end Go.Proofs.YtmlnpnlajgnohaaDoor
