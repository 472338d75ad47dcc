import Derived.Lib.ConvBytes
import Derived.Test.YtcejokbbiinbkaaDoorJWireRc0

section
/- The reference's Bytes. -/

namespace Go.Proofs.YtcejokbbiinbkaaDoor
open Go.RowKit
set_option linter.unusedVariables false
set_option maxRecDepth 100000

set_option maxHeartbeats 1000000 in
theorem refBytes_any (s : ByteArray) (w : World) (hs : s.size ≤ 1000000000) : Calls Tryd.prog 63 #[.string s] w (Makes (M.encB (sb s)) w) := by
  obtain ⟨i0, hi, hz0, hz1, hz2⟩ := info_parts info_u8
  have hI := M.I64_nat s.size (by omega)
  have hlen := M.encI_len_le s.size hI
  have hf : M.encB (sb s) = M.encI s.size ++ sb s := by unfold M.encB; rw [sb_len]
  have hl := sb_len s
  have Hf := Lib.hid hf
  have Hl := Lib.hid hl
  clear hf hl
  go_enter Tryd.func63, Tryd.ntmps63
  go_wp2_with fail
  refine (refInt_any s.size _ hI).mono ?_
  rintro e w' ⟨v, rfl, hown, hbel⟩
  have hB := hbel.size
  have hmx : (M.encI s.size).length + s.size ≤ maxLen := by unfold maxLen; omega
  obtain ⟨W2, c2, hcv, hcell, hb2⟩ := conv_str w' s
  have hB2 := hb2.size
  have hown2 := own_below hown hb2 (Nat.le_refl _)
  have Hcell := Lib.hid hcell
  clear hcell hown
  go_wp2_with (at_builtin; refine wpList_append_own _ rfl (.tmp 5) (.tmp 7) 29 rfl w.heap.size 5 i0 (.int .u8 0) 1 1 Tryd.underlying29 hi hz0 hz1 hz2 rfl (by decide) _ _ _ rfl hown2 ⟨w'.heap.size, 0, none⟩ s.size c2 ((sb s).map bv) rfl (by rw [List.length_map, Hl.out, Nat.mul_one]) Hcell.out (one_cells _) hmx (by omega) (by omega) ?_; intro v' w1 hown' hgrow _)
  go_ret
  refine ⟨v', rfl, ?_, (hbel.trans (hb2.mono hB)).grown hgrow (by omega) (fun k hk => (hown2.lt k hk).1)⟩
  rw [Hf.out, List.length_append, Hl.out, List.map_append]
  exact hown'

end Go.Proofs.YtcejokbbiinbkaaDoor
end

section
/- The reference's Ints. -/



namespace Go.Proofs.YtcejokbbiinbkaaDoor
open Go.RowKit
set_option linter.unusedVariables false
set_option maxRecDepth 100000

set_option maxHeartbeats 2000000 in
theorem refInts_any (A : Option Addr) (cap : Nat) (l : List Int) (w : World) (hr : Rd w w.heap.size A (l.map iv)) (hc : l.length ≤ cap) (hm : cap ≤ maxLen) (hs : l.length ≤ 100000000) (hI : ∀ n ∈ l, M.I64 n) :
    Calls Tryd.prog 35 #[.slice A l.length cap] w (Makes (M.encL M.encI l) w) := by
  obtain ⟨i0, hi, hz0, hz1, hz2⟩ := info_parts info_u8
  have hI0 := M.I64_nat l.length (by omega)
  have hlen := M.encI_len_le l.length hI0
  have hpos := M.encI_pos l.length
  unfold maxLen at hm
  go_enter Tryd.func35, Tryd.ntmps35
  go_wp2_with fail
  refine (refInt_any l.length _ hI0).mono ?_
  rintro e w0 ⟨v, rfl, hown, hbel⟩
  go_wp2_with fail
  go_loopw [3, 4] (fun x i wr => ∃ k : Nat, k ≤ l.length ∧ i = .int .i64 k ∧
      wr.ownsRow w.heap.size 5 1 x (M.encI l.length ++ (l.take k).flatMap M.encI).length ((M.encI l.length ++ (l.take k).flatMap M.encI).map bv) ∧ Below w.heap.size w wr) (fun _ i _ => l.length - (intOf i).toNat)
  case atStart => exact ⟨0, Nat.zero_le _, rfl, by simpa using hown, hbel⟩
  case round =>
    obtain ⟨k, hk, rfl, hown1, hbel1⟩ := hrel
    by_cases hlt : k < l.length
    · obtain ⟨b, off, rfl, hb, hcell⟩ := hr (by simp; omega)
      obtain ⟨n, hn⟩ : ∃ n, n = l.getD k 0 := ⟨_, rfl⟩
      have hIn : M.I64 n := hI n (by rw [hn]; simp [List.getElem?_eq_getElem hlt])
      have hck : wr.cell? ⟨b, off + k, none⟩ = some (.int .i64 n) := (hbel1.cell hb).trans (hcell k (iv n) (by rw [hn]; simp [List.getElem?_eq_getElem hlt]))
      have hnext : (l.take (k + 1)).flatMap M.encI = (l.take k).flatMap M.encI ++ M.encI n := by
        rw [M.flat_take M.encI l k hlt, hn]; simp [List.getElem?_eq_getElem hlt]
      have hfl := M.flat_ints (l.take k) (fun n hn => hI n (List.mem_of_mem_take hn))
      have hfl2 : (l.take k).length ≤ 100000000 := by simp; omega
      obtain ⟨L, hL⟩ : ∃ L, L = M.encI l.length ++ (l.take k).flatMap M.encI := ⟨_, rfl⟩
      have hLl : L.length ≤ 900000009 := by rw [hL, List.length_append]; omega
      have hpos' := M.encI_pos n
      have hlen' := M.encI_len_le n hIn
      rw [← hL] at hown1
      have hnx : M.encI l.length ++ (l.take (k + 1)).flatMap M.encI = L ++ M.encI n := by rw [hnext, hL, List.append_assoc]
      have Hnx := Lib.hid hnx
      clear hcell hn hnext hfl hfl2 hL hnx
      have hBw := hbel1.size
      go_wp2_with fail
      refine (refInt_any n _ hIn).mono ?_
      rintro e w2 ⟨v2, rfl, hown2, hbel2⟩
      have hBw2 := hbel2.size
      obtain ⟨g, cap2, rfl, hg1, hg2, hg3, hg4, hcl⟩ := own_form hown2 (by omega)
      have hown1' := own_below hown1 hbel2 (Nat.le_refl _)
      have hmx : L.length + (M.encI n).length ≤ maxLen := by unfold maxLen; omega
      have Hcl := Lib.hid hcl
      have hll := own_len hown2
      have Hll := Lib.hid hll
      clear hcl hown2 hll
      go_wp2_with (at_builtin; refine wpList_append_own _ rfl (.tmp 14) (.tmp 19) 29 rfl w.heap.size 5 i0 (.int .u8 0) 1 1 Tryd.underlying29 hi hz0 hz1 hz2 rfl (by decide) _ _ _ rfl hown1' ⟨g, 0, none⟩ (M.encI n).length cap2 ((M.encI n).map bv) rfl Hll.out Hcl.out (one_cells _) hmx (by omega) (by omega) ?_; intro v' w3 hown' hgrow _)
      go_roundw
      case rel =>
        refine ⟨k + 1, by omega, by go_num, ?_, (hbel1.trans (hbel2.mono hBw)).grown hgrow (by omega) (fun j hj => (hown1.lt j hj).1)⟩
        rw [Hnx.out, List.length_append, List.map_append]
        exact hown'
      case measure => simp [intOf]; omega
    · obtain rfl : k = l.length := by omega
      go_wp2_with fail
      go_ret
      refine ⟨_, rfl, ?_, hbel1⟩
      rw [List.take_length] at hown1
      exact hown1
end Go.Proofs.YtcejokbbiinbkaaDoor
end

