import Derived.Laws.BitsAllLaws
import Derived.Test.YtjdidnonfmdfmaaDoorJDrawB
import Derived.Test.YtjdidnonfmdfmaaDoorJHashM
import Derived.Test.YtjdidnonfmdfmaaDoorJWireB
import Derived.Test.YtjdidnonfmdfmaaDoorJWireG1

section
/- The contract of wire.Ints. -/


namespace Go.Proofs.YtjdidnonfmdfmaaDoor
open Go.RowKit
set_option linter.unusedVariables false

set_option maxHeartbeats 2000000 in
theorem ints_any (A : Option Addr) (cap : Nat) (l : List Int) (w : World) (hr : Rd w w.heap.size A (l.map iv)) (hc : l.length ≤ cap) (hm : cap ≤ maxLen) (hs : l.length ≤ 100000000) (hI : ∀ n ∈ l, M.I64 n) :
    Calls Tryd.prog 54 #[.slice A l.length cap] w (Makes (M.encL M.encI l) w) := by
  obtain ⟨i0, hi, hz0, hz1, hz2⟩ := info_parts info_u8
  have hI0 := M.I64_nat l.length (by omega)
  have hlen := M.encI_len_le l.length hI0
  have hpos := M.encI_pos l.length
  unfold maxLen at hm
  go_enter Tryd.func54, Tryd.ntmps54
  go_wp2_with fail
  refine (int_any l.length _ hI0).mono ?_
  rintro e w0 ⟨v, rfl, hown, hbel⟩
  go_wp2_with fail
  go_loopw [3, 11] (fun x i wr => ∃ k : Nat, k ≤ l.length ∧ i = .int .i64 k ∧
      wr.ownsRow w.heap.size 5 1 x (M.encI l.length ++ (l.take k).flatMap M.encI).length ((M.encI l.length ++ (l.take k).flatMap M.encI).map bv) ∧ Below w.heap.size w wr) (fun _ i _ => l.length - (intOf i).toNat)
  case atStart => exact ⟨0, Nat.zero_le _, rfl, by simpa using hown, hbel⟩
  case round =>
    obtain ⟨k, hk, rfl, hown1, hbel1⟩ := hrel
    by_cases hlt : k < l.length
    · obtain ⟨b, off, rfl, hb, hcell⟩ := hr (by simp; omega)
      obtain ⟨n, hn⟩ : ∃ n, n = l.getD k 0 := ⟨_, rfl⟩
      have hIn : M.I64 n := hI n (by rw [hn]; simp [List.getElem?_eq_getElem hlt])
      have hck : wr.cell? ⟨b, off + k, none⟩ = some (.int .i64 n) := (hbel1.cell hb).trans (hcell k (iv n) (by rw [hn]; simp [List.getElem?_eq_getElem hlt]))
      have hnext : (l.take (k + 1)).flatMap M.encI = (l.take k).flatMap M.encI ++ M.encI n := by
        rw [M.flat_take M.encI l k hlt, hn]; simp [List.getElem?_eq_getElem hlt]
      have hfl := M.flat_ints (l.take k) (fun n hn => hI n (List.mem_of_mem_take hn))
      have hfl2 : (l.take k).length ≤ 100000000 := by simp; omega
      obtain ⟨L, hL⟩ : ∃ L, L = M.encI l.length ++ (l.take k).flatMap M.encI := ⟨_, rfl⟩
      have hLl : L.length ≤ 900000009 := by rw [hL, List.length_append]; omega
      have hpos' := M.encI_pos n
      have hlen' := M.encI_len_le n hIn
      rw [← hL] at hown1
      have hnx : M.encI l.length ++ (l.take (k + 1)).flatMap M.encI = L ++ M.encI n := by rw [hnext, hL, List.append_assoc]
      have Hnx := Lib.hid hnx
      clear hcell hn hnext hfl hfl2 hL hnx
      have hBw := hbel1.size
      go_wp2_with fail
      refine (int_any n _ hIn).mono ?_
      rintro e w2 ⟨v2, rfl, hown2, hbel2⟩
      have hBw2 := hbel2.size
      obtain ⟨g, cap2, rfl, hg1, hg2, hg3, hg4, hcl⟩ := own_form hown2 (by omega)
      have hown1' := own_below hown1 hbel2 (Nat.le_refl _)
      have hmx : L.length + (M.encI n).length ≤ maxLen := by unfold maxLen; omega
      have Hcl := Lib.hid hcl
      have hll := own_len hown2
      have Hll := Lib.hid hll
      clear hcl hown2 hll
      go_wp2_with (at_builtin; refine wpList_append_own _ rfl (.tmp 15) (.tmp 17) 52 rfl w.heap.size 5 i0 (.int .u8 0) 1 1 Tryd.underlying52 hi hz0 hz1 hz2 rfl (by decide) _ _ _ rfl hown1' ⟨g, 0, none⟩ (M.encI n).length cap2 ((M.encI n).map bv) rfl Hll.out Hcl.out (one_cells _) hmx (by omega) (by omega) ?_; intro v' w3 hown' hgrow _)
      go_roundw
      case rel =>
        refine ⟨k + 1, by omega, by go_num, ?_, (hbel1.trans (hbel2.mono hBw)).grown hgrow (by omega) (fun j hj => (hown1.lt j hj).1)⟩
        rw [Hnx.out, List.length_append, List.map_append]
        exact hown'
      case measure => simp [intOf]; omega
    · obtain rfl : k = l.length := by omega
      go_wp2_with fail
      go_ret
      refine ⟨_, rfl, ?_, hbel1⟩
      rw [List.take_length] at hown1
      exact hown1
end Go.Proofs.YtjdidnonfmdfmaaDoor
end

section
/- Words: the number of a digest's first six bytes; the contract of draw.Word. -/




namespace Go.Proofs.YtjdidnonfmdfmaaDoor
open Go.RowKit
set_option linter.unusedVariables false
set_option maxRecDepth 100000

/-- The number of some bytes, the first one being the highest. -/
def num (l : List UInt8) : Nat := l.foldl (fun n b => n * 256 + b.toNat) 0
theorem num_snoc (l : List UInt8) (b : UInt8) : num (l ++ [b]) = num l * 256 + b.toNat := by simp [num]
theorem num_step (l : List UInt8) (k : Nat) (h : k < l.length) : num (l.take (k + 1)) = num (l.take k) * 256 + (l.getD k 0).toNat := by
  rw [List.take_add_one, List.getElem?_eq_getElem h, show l.getD k 0 = l[k] by simp [h]]
  exact num_snoc _ _
theorem num_lt (l : List UInt8) : num l < 256 ^ l.length := by
  have h : ∀ (l : List UInt8) (n m : Nat), n < m → l.foldl (fun n b => n * 256 + b.toNat) n < m * 256 ^ l.length := by
    intro l
    induction l with
    | nil => intro n m h; simpa using h
    | cons b r ih =>
      intro n m h
      have hb := b.toNat_lt
      have := ih (n * 256 + b.toNat) (m * 256) (by omega)
      rw [List.length_cons, Nat.pow_succ, Nat.mul_comm (256 ^ r.length) 256, ← Nat.mul_assoc]
      exact this
  have := h l 0 1 (by omega)
  rw [Nat.one_mul] at this
  exact this
theorem num_take_lt (l : List UInt8) (k : Nat) (h : k < 6) : num (l.take k) < 1099511627776 := by
  have h1 := num_lt (l.take k)
  have h2 : (l.take k).length ≤ 5 := by rw [List.length_take]; omega
  have h3 : 256 ^ (l.take k).length ≤ 256 ^ 5 := Nat.pow_le_pow_right (by decide) h2
  have h4 : (256 : Nat) ^ 5 = 1099511627776 := by decide
  omega
theorem num_six (l : List UInt8) : num (l.take 6) < 281474976710656 := by
  have h1 := num_lt (l.take 6)
  have h2 : (l.take 6).length ≤ 6 := by rw [List.length_take]; omega
  have h3 : 256 ^ (l.take 6).length ≤ 256 ^ 6 := Nat.pow_le_pow_right (by decide) h2
  have h4 : (256 : Nat) ^ 6 = 281474976710656 := by decide
  omega
theorem or_byte8 (n b : Nat) (hb : b < 256) : n * 256 ||| b = n * 256 + b := by
  have h := Nat.shiftLeft_add_eq_or_of_lt (a := n) (b := b) (i := 8) hb
  rw [Nat.shiftLeft_eq] at h
  exact h.symm

theorem i64_or_byte (n b : Nat) (hn : n < 1099511627776) (hb : b < 256) : bits .or .i64 ((n : Int) * 256) (b : Int) = ((n * 256 + b : Nat) : Int) := by
  show IntKind.i64.wrap ((BitVec.ofInt 64 ((n : Int) * 256) ||| BitVec.ofInt 64 (b : Int)).toNat : Int) = _
  rw [show (n : Int) * 256 = ((n * 256 : Nat) : Int) by omega, BitVec.toNat_or, ofInt_u64 _ (by omega), ofInt_u64 _ (by omega), or_byte8 _ _ hb, IntKind.wrap_i64]
  omega

/-- What a word hashes. -/
def wordP (s : ByteArray) (p : List Int) (t : Int) : List ByteArray := [s, bs (M.encL M.encI (p ++ [t]))]
def wdig (s : ByteArray) (p : List Int) (t : Int) : List UInt8 := dig 8 (wordP s p t)
/-- The word of a seed, a path and a try. -/
def wordN (s : ByteArray) (p : List Int) (t : Int) : Nat := num ((wdig s p t).take 6)
theorem wordN_lt (s : ByteArray) (p : List Int) (t : Int) : wordN s p t < 281474976710656 := num_six _
theorem wdig_len (s : ByteArray) (p : List Int) (t : Int) : (wdig s p t).length = 16 := dig_len _ _
theorem enc_ints_len (l : List Int) (h : ∀ n ∈ l, M.I64 n) (hl : l.length ≤ 1000) : (M.encL M.encI l).length ≤ 9 * l.length + 9 := by
  have h1 := M.encI_len_le l.length (M.I64_nat _ (by omega))
  have h2 := M.flat_ints l h
  unfold M.encL
  rw [List.length_append]
  omega
end Go.Proofs.YtjdidnonfmdfmaaDoor
end

