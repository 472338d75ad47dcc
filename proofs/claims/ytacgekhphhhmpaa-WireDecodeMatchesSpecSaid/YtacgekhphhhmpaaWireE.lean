/- The contracts of wire.Strings and wire.Digests. -/
import Derived.Test.YtacgekhphhhmpaaWireD
import Derived.Test.YtacgekhphhhmpaaWireMathB
namespace Go.Proofs.Ytacgekhphhhmpaa
open Go.RowKit
set_option linter.unusedVariables false

def encS (s : ByteArray) : List UInt8 := M.encB (sb s)
theorem encB_pos (l : List UInt8) : 1 ≤ (M.encB l).length := by
  unfold M.encB; rw [List.length_append]; have := M.encI_pos l.length; omega
theorem encB_ge (l : List UInt8) : l.length ≤ (M.encB l).length := by
  unfold M.encB; rw [List.length_append]; omega
set_option maxHeartbeats 2000000 in
theorem strings_any (A : Option Addr) (cap : Nat) (l : List ByteArray) (w : World) (hr : Rd w w.heap.size A (l.map sv)) (hc : l.length ≤ cap) (hm : cap ≤ maxLen) (hs : (l.flatMap encS).length ≤ 900000000) (hl : l.length ≤ 900000000) :
    Calls Try.prog 20 #[.slice A l.length cap] w (Makes (M.encL encS l) w) := by
  obtain ⟨i0, hi, hz0, hz1, hz2⟩ := info_parts info_u8
  have hI0 := M.I64_nat l.length (by omega)
  have hlen := M.encI_len_le l.length hI0
  have hpos := M.encI_pos l.length
  unfold maxLen at hm
  go_enter Try.func20, Try.ntmps20
  go_wp2_with fail
  refine (int_any l.length _ hI0).mono ?_
  rintro e w0 ⟨v, rfl, hown, hbel⟩
  go_wp2_with fail
  go_loopw [3, 11] (fun x i wr => ∃ k : Nat, k ≤ l.length ∧ i = .int .i64 k ∧
      wr.ownsRow w.heap.size 5 1 x (M.encI l.length ++ (l.take k).flatMap encS).length ((M.encI l.length ++ (l.take k).flatMap encS).map bv) ∧ Below w.heap.size w wr) (fun _ i _ => l.length - (intOf i).toNat)
  case atStart => exact ⟨0, Nat.zero_le _, rfl, by simpa using hown, hbel⟩
  case round =>
    obtain ⟨k, hk, rfl, hown1, hbel1⟩ := hrel
    by_cases hlt : k < l.length
    · obtain ⟨b, off, rfl, hb, hcell⟩ := hr (by simp; omega)
      obtain ⟨n, hn⟩ : ∃ n, n = l.getD k ByteArray.empty := ⟨_, rfl⟩
      have hmem : n ∈ l := by rw [hn]; simp [List.getElem?_eq_getElem hlt]
      have hIn := M.flat_mem encS l n hmem
      have hck : wr.cell? ⟨b, off + k, none⟩ = some (.string n) := (hbel1.cell hb).trans (hcell k (sv n) (by rw [hn]; simp [List.getElem?_eq_getElem hlt]))
      have hnext : (l.take (k + 1)).flatMap encS = (l.take k).flatMap encS ++ encS n := by
        rw [M.flat_take encS l k hlt, hn]; simp [List.getElem?_eq_getElem hlt]
      have hfl := M.flat_part encS l k
      obtain ⟨L, hL⟩ : ∃ L, L = M.encI l.length ++ (l.take k).flatMap encS := ⟨_, rfl⟩
      have hLl : L.length ≤ 900000009 := by rw [hL, List.length_append]; omega
      have hpos' := encB_pos (sb n)
      have hlen' : (encS n).length ≤ 900000000 := by omega
      have hsz : n.size ≤ 900000000 := by have : (sb n).length ≤ (encS n).length := encB_ge (sb n); rw [sb_len] at this; omega
      rw [← hL] at hown1
      have hnx : M.encI l.length ++ (l.take (k + 1)).flatMap encS = L ++ encS n := by rw [hnext, hL, List.append_assoc]
      have Hnx := Lib.hid hnx
      clear hcell hn hnext hfl hL hnx hIn
      have hBw := hbel1.size
      go_wp2_with fail
      refine (bytes_any n _ (by omega)).mono ?_
      rintro e w2 ⟨v2, rfl, hown2, hbel2⟩
      have hBw2 := hbel2.size
      obtain ⟨g, cap2, rfl, hg1, hg2, hg3, hg4, hcl⟩ := own_form hown2 (by omega)
      have hown1' := own_below hown1 hbel2 (Nat.le_refl _)
      have hmx : L.length + (encS n).length ≤ maxLen := by unfold maxLen; omega
      have Hcl := Lib.hid hcl
      have hll := own_len hown2
      have Hll := Lib.hid hll
      clear hcl hown2 hll
      go_wp2_with (at_builtin; refine wpList_append_own _ rfl (.tmp 15) (.tmp 17) 28 rfl w.heap.size 5 i0 (.int .u8 0) 1 1 Try.underlying28 hi hz0 hz1 hz2 rfl (by decide) _ _ _ rfl hown1' ⟨g, 0, none⟩ (encS n).length cap2 ((encS n).map bv) rfl Hll.out Hcl.out (one_cells _) hmx (by omega) (by omega) ?_; intro v' w3 hown' hgrow _)
      go_roundw
      case rel =>
        refine ⟨k + 1, by omega, by go_num, ?_, (hbel1.trans (hbel2.mono hBw)).grown hgrow (by omega) (fun j hj => (hown1.lt j hj).1)⟩
        rw [Hnx.out, List.length_append, List.map_append]
        exact hown'
      case measure => simp [intOf]; omega
    · obtain rfl : k = l.length := by omega
      go_wp2_with fail
      go_ret
      refine ⟨_, rfl, ?_, hbel1⟩
      rw [List.take_length] at hown1
      exact hown1

/-- The bytes of n digests, one behind the other. -/
def encD (n : Nat) (D : List UInt8) : List UInt8 := M.encI n ++ D

set_option maxHeartbeats 2000000 in
theorem digests_any (A : Option Addr) (cap n : Nat) (D : List UInt8) (w : World) (hr : Rd w w.heap.size A (D.map bv)) (hc : n ≤ cap) (hm : cap ≤ maxLen) (hD : D.length = 16 * n) (hs : n ≤ 10000000) :
    Calls Try.prog 22 #[.slice A n cap] w (Makes (encD n D) w) := by
  obtain ⟨i0, hi, hz0, hz1, hz2⟩ := info_parts info_u8
  have hI0 := M.I64_nat n (by omega)
  have hlen := M.encI_len_le n hI0
  have hpos := M.encI_pos n
  unfold maxLen at hm
  go_enter Try.func22, Try.ntmps22
  go_wp2_with fail
  refine (int_any n _ hI0).mono ?_
  rintro e w0 ⟨v, rfl, hown, hbel⟩
  go_wp2_with fail
  go_loopw [3, 11] (fun x i wr => ∃ k : Nat, k ≤ n ∧ i = .int .i64 k ∧
      wr.ownsRow w.heap.size 5 1 x (M.encI n ++ D.take (16 * k)).length ((M.encI n ++ D.take (16 * k)).map bv) ∧ Below w.heap.size w wr) (fun _ i _ => n - (intOf i).toNat)
  case atStart => exact ⟨0, Nat.zero_le _, rfl, by simpa using hown, hbel⟩
  case round =>
    obtain ⟨k, hk, rfl, hown1, hbel1⟩ := hrel
    by_cases hlt : k < n
    · obtain ⟨b, off, rfl, hb, hcell⟩ := hr (by simp; omega)
      obtain ⟨C, hC⟩ : ∃ C, C = (D.drop (16 * k)).take 16 := ⟨_, rfl⟩
      have hCl : C.length = 16 := by rw [hC]; simp; omega
      have hrng : wr.rangeAt b (off + k * 16) (C.map bv) := fun j u hu => by
        rw [(hbel1.cell (p := ⟨b, off + k * 16 + j, none⟩) hb), show off + k * 16 + j = off + (16 * k + j) from by omega]
        refine hcell _ u ?_
        have hj : j < 16 := by have := (List.getElem?_eq_some_iff.1 hu).1; simpa [hCl] using this
        rw [← hu, hC]
        simp [hj]
      have hn16 : (Try.prog.info? 57).map (·.size) = some (C.map bv).length := by rw [List.length_map, hCl]; kernel_rfl
      obtain ⟨L, hL⟩ : ∃ L, L = M.encI n ++ D.take (16 * k) := ⟨_, rfl⟩
      have hLl : L.length ≤ 900000009 := by rw [hL, List.length_append]; simp; omega
      have hnx : M.encI n ++ D.take (16 * (k + 1)) = L ++ C := by
        rw [hL, hC, List.append_assoc, show 16 * (k + 1) = 16 * k + 16 from by omega, List.take_add]
      rw [← hL] at hown1
      obtain ⟨cs, hcs⟩ : ∃ cs, cs = C.map bv := ⟨_, rfl⟩
      rw [← hcs] at hrng hn16
      have hcl16 : cs.length = 16 := by rw [hcs, List.length_map, hCl]
      have hcs1 : ∀ u ∈ cs, u.oneCell' = true := by rw [hcs]; exact one_cells C
      have hthere : (wr.alloc (.cells #[.int .u8 0, .int .u8 0, .int .u8 0, .int .u8 0, .int .u8 0, .int .u8 0, .int .u8 0, .int .u8 0, .int .u8 0, .int .u8 0, .int .u8 0, .int .u8 0, .int .u8 0, .int .u8 0, .int .u8 0, .int .u8 0] 57)).there wr.heap.size 0 cs.toArray.size := by
        rw [show cs.toArray.size = 16 from by simpa using hcl16]; exact there_new _ _ _ _ rfl
      have hBw := hbel1.size
      obtain ⟨w1, hw1⟩ : ∃ w1, w1 = (wr.alloc (.cells #[.int .u8 0, .int .u8 0, .int .u8 0, .int .u8 0, .int .u8 0, .int .u8 0, .int .u8 0, .int .u8 0, .int .u8 0, .int .u8 0, .int .u8 0, .int .u8 0, .int .u8 0, .int .u8 0, .int .u8 0, .int .u8 0] 57)).setCells wr.heap.size 0 cs.toArray.toList := ⟨_, rfl⟩
      have hb1 : Below wr.heap.size wr w1 := by rw [hw1]; exact below_setCells _ (Nat.le_refl _) _ _ _ ((Below.refl _ _).alloc (Nat.le_refl _) _)
      have hsz1 : w1.heap.size = wr.heap.size + 1 := by rw [hw1, size_setCells]; simp
      have hnews : ∀ (j : Nat) (u : Value), cs[j]? = some u → w1.cell? ((⟨wr.heap.size, 0, none⟩ : Addr).add j) = some u := fun j u hu => by
        rw [Addr.add_mid, hw1]
        exact World.rangeAt_setCells_same _ _ _ _ (by simpa using hthere) j u (by simpa using hu)
      have hown1' := own_below hown1 hb1 (Nat.le_refl _)
      have hlw : w.heap.size ≤ w1.heap.size := by omega
      have hmx : L.length + 16 ≤ maxLen := by unfold maxLen; omega
      have Hnx := Lib.hid hnx
      have Hrng := Lib.hid hrng
      have Hn16 := Lib.hid hn16
      have Hcs := Lib.hid hcs
      have Hcl16 := Lib.hid hcl16
      have Hcs1 := Lib.hid hcs1
      have Hthere := Lib.hid hthere
      have Hw1 := Lib.hid hw1
      have Hnews := Lib.hid hnews
      have HCl := Lib.hid hCl
      clear hcell hC hnx hL hrng hn16 hCl hcs hcl16 hcs1 hthere hw1 hnews hsz1
      go_wp2_with (first
        | (refine wpList_load_mid (op := ⟨some 14, _, _, _, _, _⟩) rfl 57 (.tmp 13) rfl b (off + k * 16) rfl cs _ Hrng.out Try.underlying57 rfl Hn16.out ?_)
        | (refine wpList_store_mid (op := ⟨none, .store _ (.tmp 5) (.tmp 14), _, _, _, _⟩) rfl 57 (.tmp 5) (.tmp 14) rfl wr.heap.size 0 cs.toArray rfl rfl Hthere.out (by rw [List.size_toArray]; exact Hn16.out) (all_oneCell_toArray Hcs1.out) ?_; rw [← Hw1.out])
        | (at_builtin; refine wpList_append_own _ rfl (.tmp 15) (.tmp 16) 28 rfl w.heap.size 5 i0 (.int .u8 0) 1 1 Try.underlying28 hi hz0 hz1 hz2 rfl (by decide) _ _ _ rfl hown1' ⟨wr.heap.size, 0, none⟩ 16 16 cs rfl Hcl16.out Hnews.out Hcs1.out hmx (by omega) hlw ?_; intro v' w3 hown' hgrow _))
      go_roundw
      case rel =>
        refine ⟨k + 1, by omega, by go_num, ?_, (hbel1.trans (hb1.mono hBw)).grown hgrow hlw (fun j hj => (hown1.lt j hj).1)⟩
        rw [Hnx.out, List.length_append, List.map_append, ← Hcs.out, HCl.out]
        exact hown'
      case measure => simp [intOf]; omega
    · obtain rfl : k = n := by omega
      go_wp2_with fail
      go_ret
      refine ⟨_, rfl, ?_, hbel1⟩
      rw [← hD, List.take_length] at hown1
      exact hown1
end Go.Proofs.Ytacgekhphhhmpaa
