/- The reference's Digests. -/
import Derived.Test.YtacgekhphhhmpaaWireRd
namespace Go.Proofs.Ytacgekhphhhmpaa
open Go.RowKit
set_option linter.unusedVariables false

set_option maxHeartbeats 2000000 in
theorem refDigests_any (A : Option Addr) (cap n : Nat) (D : List UInt8) (w : World) (hr : Rd w w.heap.size A (D.map bv)) (hc : n ≤ cap) (hm : cap ≤ maxLen) (hD : D.length = 16 * n) (hs : n ≤ 10000000) :
    Calls Try.prog 23 #[.slice A n cap] w (Makes (encD n D) w) := by
  obtain ⟨i0, hi, hz0, hz1, hz2⟩ := info_parts info_u8
  have hI0 := M.I64_nat n (by omega)
  have hlen := M.encI_len_le n hI0
  have hpos := M.encI_pos n
  unfold maxLen at hm
  go_enter Try.func23, Try.ntmps23
  go_wp2_with fail
  refine (refInt_any n _ hI0).mono ?_
  rintro e w0 ⟨v, rfl, hown, hbel⟩
  go_wp2_with fail
  go_loopw [3, 4] (fun x i wr => ∃ k : Nat, k ≤ n ∧ i = .int .i64 k ∧
      wr.ownsRow w.heap.size 5 1 x (M.encI n ++ D.take (16 * k)).length ((M.encI n ++ D.take (16 * k)).map bv) ∧ Below w.heap.size w wr) (fun _ i _ => n - (intOf i).toNat)
  case atStart => exact ⟨0, Nat.zero_le _, rfl, by simpa using hown, hbel⟩
  case round =>
    obtain ⟨k, hk, rfl, hown1, hbel1⟩ := hrel
    by_cases hlt : k < n
    · obtain ⟨b, off, rfl, hb, hcell⟩ := hr (by simp; omega)
      have Hcell := Lib.hid hcell
      have HD := Lib.hid hD
      clear hcell hr hD
      go_wp2_with fail
      obtain ⟨wo, rfl⟩ : ∃ wo : World, wo = wr := ⟨_, rfl⟩
      go_loopw [3, 5] (fun x i wr => ∃ q : Nat, q ≤ 16 ∧ i = .int .i64 q ∧
          wr.ownsRow w.heap.size 5 1 x (M.encI n ++ D.take (16 * k + q)).length ((M.encI n ++ D.take (16 * k + q)).map bv) ∧ Below w.heap.size w wr) (fun _ i _ => 16 - (intOf i).toNat)
      case atStart => exact ⟨0, by omega, rfl, hown1, hbel1⟩
      case round =>
        obtain ⟨q, hq, rfl, hown2, hbel2⟩ := hrel
        have hB2 := hbel2.size
        by_cases hlt2 : q < 16
        · have hin : 16 * k + q < D.length := by rw [HD.out]; omega
          obtain ⟨d, hd⟩ : ∃ d, d = D[16 * k + q] := ⟨_, rfl⟩
          have hck : wr.cell? ⟨b, off + k * 16 + q, none⟩ = some (.int .u8 (d.toNat : Int)) := by
            rw [show off + k * 16 + q = off + (16 * k + q) by omega]
            exact (hbel2.cell hb).trans (Hcell.out (16 * k + q) (bv d) (by rw [List.getElem?_map, List.getElem?_eq_getElem hin, hd]; rfl))
          have hnx : M.encI n ++ D.take (16 * k + (q + 1)) = (M.encI n ++ D.take (16 * k + q)) ++ [d] := by
            rw [show 16 * k + (q + 1) = 16 * k + q + 1 by omega, List.take_succ_eq_append_getElem hin, ← hd, List.append_assoc]
          obtain ⟨L, hL⟩ : ∃ L, L = M.encI n ++ D.take (16 * k + q) := ⟨_, rfl⟩
          have hLl : L.length ≤ 900000009 := by rw [hL, List.length_append, List.length_take]; omega
          rw [← hL] at hown2 hnx
          have hmx : L.length + 1 ≤ maxLen := by unfold maxLen; omega
          have d0 : (0 : Int) ≤ d.toNat := by omega
          have d1 : (d.toNat : Int) ≤ 255 := by have := d.toNat_lt; omega
          have Hnx := Lib.hid hnx
          clear hd hnx hL hin
          go_wp2_with (at_builtin; refine wpList_append_own _ rfl (.tmp 19) (.tmp 26) 28 rfl w.heap.size 5 i0 (.int .u8 0) 1 1 Try.underlying28 hi hz0 hz1 hz2 rfl (by decide) _ L.length (L.map bv) rfl (hown2.alloc _) ⟨wr.heap.size, 0, none⟩ 1 1 [Value.int .u8 (d.toNat : Int)] rfl rfl (cell_one _ _ _) (by intro u hu; simp at hu; subst hu; rfl) hmx (by omega) (by simp; omega) ?_; intro v2 w2 hown4 hgrow _; have hb2 := (hbel2.alloc hB2 (.cells #[Value.int .u8 (d.toNat : Int)] 5)).grown hgrow (by simp; omega) (fun k hk => (hown2.lt k hk).1))
          go_roundw
          case rel =>
            refine ⟨q + 1, by omega, by go_num, ?_, hb2⟩
            rw [Hnx.out, List.length_append, List.map_append]
            exact hown4
          case measure => simp [intOf]; omega
        · obtain rfl : q = 16 := by omega
          go_wp2_with fail
          go_roundw
          case rel => exact ⟨k + 1, by omega, by go_num, by rw [show 16 * (k + 1) = 16 * k + 16 by omega]; exact hown2, hbel2⟩
          case measure => simp [intOf]; omega
    · obtain rfl : k = n := by omega
      go_wp2_with fail
      go_ret
      refine ⟨_, rfl, ?_, hbel1⟩
      rw [← hD, List.take_length] at hown1
      exact hown1
end Go.Proofs.Ytacgekhphhhmpaa
