/- The number read by its own way: what is too great; what is not the shortest. -/
import Derived.Test.YtacgekhphhhmpaaWireMathF
namespace Go.Proofs.Ytacgekhphhhmpaa.M

theorem val_big (L : List UInt8) (j : Nat) (hj : j < L.length) (h : 36028797018963967 < val (L.take j)) : 9223372036854775807 < val L := by
  have h1 : val L = val (L.take j) * 256 ^ (L.drop j).length + val (L.drop j) := by rw [← val_append, List.take_append_drop]
  have h2 : 256 ^ 1 ≤ 256 ^ (L.drop j).length := Nat.pow_le_pow_right (by decide) (by rw [List.length_drop]; omega)
  have h3 : val (L.take j) * 256 ^ 1 ≤ val (L.take j) * 256 ^ (L.drop j).length := Nat.mul_le_mul_left _ h2
  omega
theorem val_next (L : List UInt8) (j : Nat) (hj : j < L.length) : val (L.take (j + 1)) = val (L.take j) * 256 + (L[j]).toNat := by
  rw [List.take_succ_eq_append_getElem hj, val_snoc]

theorem getI_yes (c : UInt8) (rest : List UInt8) (h8 : kOf c ≤ 8) (hl : kOf c ≤ rest.length) (hX : mOf c rest ≤ 9223372036854775807) (n : Int) (hn : n = if c.toNat < 128 then -1 - (mOf c rest : Int) else (mOf c rest : Int))
    (hk : nb (mOf c rest) = kOf c) : getI (c :: rest) = (n, 1 + kOf c, 0) ∧ encI n = (c :: rest).take (kOf c + 1) := by
  have h1 : getI (c :: rest) = (n, 1 + kOf c, 0) := by rw [getI_cons, if_neg (by omega), if_neg (by omega), if_neg (by omega), hn]
  obtain ⟨-, -, h2, -⟩ := getI_back _ _ _ h1
  exact ⟨h1, by rw [← h2, Nat.add_comm]⟩
theorem getI_no (c : UInt8) (rest : List UInt8) (h8 : kOf c ≤ 8) (hl : kOf c ≤ rest.length) (hX : mOf c rest ≤ 9223372036854775807) (n : Int) (hn : n = if c.toNat < 128 then -1 - (mOf c rest : Int) else (mOf c rest : Int))
    (hk : nb (mOf c rest) ≠ kOf c) : getI (c :: rest) = (0, 0, 2) ∧ encI n ≠ (c :: rest).take (kOf c + 1) := by
  have hI : I64 n := by rw [hn]; unfold I64; split <;> omega
  have hm : mag n = mOf c rest := by rw [hn]; unfold mag; split <;> split <;> omega
  refine ⟨by rw [getI_cons, if_neg (by omega), if_neg (by omega), if_pos (by omega)], fun e => ?_⟩
  have h2 := congrArg List.length e
  rw [encI_len n hI, hm, List.length_take, List.length_cons] at h2
  omega
theorem getI_great (c : UInt8) (rest : List UInt8) (h8 : kOf c ≤ 8) (hl : kOf c ≤ rest.length) (hX : 9223372036854775807 < mOf c rest) : getI (c :: rest) = (0, 0, 2) := by
  rw [getI_cons, if_neg (by omega), if_neg (by omega), if_pos (by omega)]
end Go.Proofs.Ytacgekhphhhmpaa.M
