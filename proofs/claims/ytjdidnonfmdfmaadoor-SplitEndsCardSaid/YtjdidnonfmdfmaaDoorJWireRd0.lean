import Derived.Test.YtjdidnonfmdfmaaDoorJWireRc0

section
/- The reference's Bytes. -/

namespace Go.Proofs.YtjdidnonfmdfmaaDoor
open Go.RowKit
set_option linter.unusedVariables false
set_option maxRecDepth 100000

set_option maxHeartbeats 1000000 in
theorem refBytes_any (s : ByteArray) (w : World) (hs : s.size ≤ 1000000000) : Calls Tryd.prog 71 #[.string s] w (Makes (M.encB (sb s)) w) := by
  obtain ⟨i0, hi, hz0, hz1, hz2⟩ := info_parts info_u8
  have hI := M.I64_nat s.size (by omega)
  have hlen := M.encI_len_le s.size hI
  have hf : M.encB (sb s) = M.encI s.size ++ sb s := by unfold M.encB; rw [sb_len]
  have hl := sb_len s
  have Hf := Lib.hid hf
  have Hl := Lib.hid hl
  clear hf hl
  go_enter Tryd.func71, Tryd.ntmps71
  go_wp2_with fail
  refine (refInt_any s.size _ hI).mono ?_
  rintro e w' ⟨v, rfl, hown, hbel⟩
  have hB := hbel.size
  have hmx : (M.encI s.size).length + s.size ≤ maxLen := by unfold maxLen; omega
  obtain ⟨W2, c2, hcv, hcell, hb2⟩ := conv_str w' s
  have hB2 := hb2.size
  have hown2 := own_below hown hb2 (Nat.le_refl _)
  have Hcell := Lib.hid hcell
  clear hcell hown
  go_wp2_with (at_builtin; refine wpList_append_own _ rfl (.tmp 5) (.tmp 7) 52 rfl w.heap.size 5 i0 (.int .u8 0) 1 1 Tryd.underlying52 hi hz0 hz1 hz2 rfl (by decide) _ _ _ rfl hown2 ⟨w'.heap.size, 0, none⟩ s.size c2 ((sb s).map bv) rfl (by rw [List.length_map, Hl.out, Nat.mul_one]) Hcell.out (one_cells _) hmx (by omega) (by omega) ?_; intro v' w1 hown' hgrow _)
  go_ret
  refine ⟨v', rfl, ?_, (hbel.trans (hb2.mono hB)).grown hgrow (by omega) (fun k hk => (hown2.lt k hk).1)⟩
  rw [Hf.out, List.length_append, Hl.out, List.map_append]
  exact hown'

end Go.Proofs.YtjdidnonfmdfmaaDoor
end

