/- The contract of wire.GetInt. -/
import Derived.Test.YtacgekhphhhmpaaWireW
import Derived.Laws.BitsAllLaws
namespace Go.Proofs.Ytacgekhphhhmpaa
open Go.RowKit
set_option linter.unusedVariables false

def I3 (a b c : Int) : Value := .tuple #[.int .i64 a, .int .i64 b, .int .i64 c]

theorem or_byte (X d : Nat) (hX : X < 72057594037927936) (hd : d < 256) : bits .or .u64 ((X : Int) * 256) (d : Int) = ((X * 256 + d : Nat) : Int) := by
  have e : (X : Int) * 256 = ((X * 256 : Nat) : Int) := by omega
  rw [e, u64_or_nat (X * 256) d (by omega) (by omega)]
  have h := Nat.shiftLeft_add_eq_or_of_lt (i := 8) (b := d) (by omega) X
  rw [Nat.shiftLeft_eq] at h
  congr 1
  exact h.symm

set_option maxHeartbeats 2000000 in
set_option maxRecDepth 100000 in
theorem getInt_any (A : Option Addr) (cap : Nat) (l : List UInt8) (w : World) (B : Nat) (hr : RdB w B A l) (hc : l.length ≤ cap) (hm : cap ≤ maxLen) :
    Calls Try.prog 24 #[.slice A l.length cap] w fun e w' => e = .returned (I3 (M.getI l).1 (M.getI l).2.1 (M.getI l).2.2) ∧ w = w' := by
  unfold maxLen at hm
  cases l with
  | nil =>
    go_enter Try.func24, Try.ntmps24
    go_wp2
    go_ret3
    exact ⟨rfl, rfl⟩
  | cons c rest =>
    obtain ⟨b, off, rfl, hb, hcell⟩ := hr (by simp)
    have hC := c.toNat_lt
    have hc0 : w.cell? ⟨b, off, none⟩ = some (.int .u8 (c.toNat : Int)) := hcell 0 (bv c) rfl
    have Hcell := Lib.hid hcell
    clear hcell
    rw [List.length_cons] at hc ⊢
    obtain ⟨r, hR⟩ : ∃ r, r = M.getI (c :: rest) := ⟨_, rfl⟩
    rw [← hR]
    rw [M.getI_cons] at hR
    have hkv : M.kOf c = if c.toNat < 128 then 127 - c.toNat else c.toNat - 128 := rfl
    obtain ⟨K, hK⟩ : ∃ K, K = M.kOf c := ⟨_, rfl⟩
    obtain ⟨X, hX⟩ : ∃ X, X = M.mOf c rest := ⟨_, rfl⟩
    rw [← hK] at hkv hR
    rw [← hX] at hR
    have HR := Lib.hid hR
    have HK := Lib.hid hK
    have HX := Lib.hid hX
    have Hkv := Lib.hid hkv
    have hK2 : K ≤ 127 := by rw [hkv]; split <;> omega
    clear hK hX hkv hR
    have hsl := fun (W : World) (h : K ≤ rest.length) => cut_lh W (some ⟨b, off, none⟩) (rest.length + 1) cap 1 (1 + K) 1 (1 + (K : Int)) rfl (by omega) (by omega) (by omega)
    have Hsl := Lib.hid hsl
    have Hrd := Lib.hid (fun (h : K ≤ rest.length) => Rd.cut (lo := 1) (hi := 1 + K) (cap := cap) hr (by simp; omega) (by omega))
    clear hsl hr
    go_enter Try.func24, Try.ntmps24
    go_upto_if 22 with fail
    go_cut [6] (fun s6 wx => s6 = .int .i64 K ∧ w = wx)
    case first =>
      go_wp2_with fail
      all_goals
        go_meet
        case rel => exact ⟨by have := Hkv.out; congr 1; split at this <;> omega, rfl⟩
    case rest =>
      obtain ⟨rfl, rfl⟩ := hcut
      by_cases h8 : 8 < K
      · go_wp2_with fail
        go_ret3
        have hR := HR.out
        rw [if_pos h8] at hR
        exact ⟨by rw [hR]; rfl, rfl⟩
      by_cases hl : rest.length < K
      · have hl' : (rest.length : Int) < K := by omega
        go_wp2_with fail
        go_ret3
        have hR := HR.out
        rw [if_neg (by omega), if_pos (by omega)] at hR
        exact ⟨by rw [hR]; rfl, rfl⟩
      have hl' : (K : Int) ≤ rest.length := by omega
      have hsl := Hsl.out w (by omega)
      rw [Nat.add_sub_cancel_left] at hsl
      obtain ⟨A', hA'⟩ : ∃ A', A' = cutA (some ⟨b, off, none⟩) 1 cap := ⟨_, rfl⟩
      rw [← hA'] at hsl
      have hrd := Hrd.out (by omega)
      rw [← hA', show (List.take (1 + K) (List.map bv (c :: rest))).drop 1 = (rest.take K).map bv from by rw [Nat.add_comm, List.map_cons, List.take_succ_cons, List.drop_succ_cons, List.drop_zero, List.map_take]] at hrd
      have Hrd2 := Lib.hid hrd
      clear hA' hrd Hrd Hsl Hcell
      have hval : ∀ j, j ≤ 8 → M.val ((rest.take j).map (M.flip (decide (c.toNat < 128)))) < 256 ^ j := fun j hj =>
        Nat.lt_of_lt_of_le (M.val_lt _) (Nat.pow_le_pow_right (by omega) (by simp; omega))
      have Hval := Lib.hid hval
      clear hval
      go_wp2_with fail
      go_loop [7, 40] (fun x i => ∃ j : Nat, j ≤ K ∧ i = .int .i64 j ∧ x = .int .u64 ((M.val ((rest.take j).map (M.flip (decide (c.toNat < 128)))) : Nat))) (fun _ i => K - (intOf i).toNat)
      case atStart => exact ⟨0, Nat.zero_le _, rfl, rfl⟩
      case round =>
        obtain ⟨j, hj, rfl, rfl⟩ := hrel
        by_cases hlt : j < K
        · obtain ⟨b', off', rfl, hb', hcell⟩ := Hrd2.out (by simp; omega)
          obtain ⟨V, hV⟩ : ∃ V, V = M.val ((rest.take j).map (M.flip (decide (c.toNat < 128)))) := ⟨_, rfl⟩
          rw [← hV]
          have hVlt : V < 72057594037927936 := by
            have h1 := Hval.out j (by omega)
            have h2 : 256 ^ j ≤ 256 ^ 7 := Nat.pow_le_pow_right (by omega) (by omega)
            omega
          obtain ⟨D, hD⟩ : ∃ D, D = rest.getD j 0 := ⟨_, rfl⟩
          have hDlt := D.toNat_lt
          have hcj : w.cell? ⟨b', off' + j, none⟩ = some (.int .u8 (D.toNat : Int)) := hcell j (bv D) (by rw [hD]; simp [hlt, List.getElem?_eq_getElem (show j < rest.length by omega)])
          have hnext : M.val ((rest.take (j + 1)).map (M.flip (decide (c.toNat < 128)))) = V * 256 + (M.flip (decide (c.toNat < 128)) D).toNat := by
            rw [List.take_succ_eq_append_getElem (show j < rest.length by omega), List.map_append, List.map_singleton, M.val_snoc, ← hV, hD]
            simp [List.getElem?_eq_getElem (show j < rest.length by omega)]
          have Hnext := Lib.hid hnext
          clear hcell hV hD hnext Hrd2 Hval hsl
          by_cases hneg : (c.toNat : Int) < 128
          · have hor := or_byte V (255 - D.toNat) hVlt (by omega)
            rw [show ((255 - D.toNat : Nat) : Int) = 255 - (D.toNat : Int) from by omega] at hor
            have Hor := Lib.hid hor
            clear hor
            go_wp2_with fail
            go_round
            case rel => exact ⟨j + 1, by omega, by go_num, by rw [Hor.out, Hnext.out, show decide (c.toNat < 128) = true from by simp; omega, M.flip_toNat]⟩
            case measure => simp [intOf]; omega
          · have hor := or_byte V D.toNat hVlt (by omega)
            have Hor := Lib.hid hor
            clear hor
            go_wp2_with fail
            go_round
            case rel => exact ⟨j + 1, by omega, by go_num, by rw [Hor.out, Hnext.out, show decide (c.toNat < 128) = false from by simp; omega]; rfl⟩
            case measure => simp [intOf]; omega
        · obtain rfl : j = K := by omega
          have hXv : M.val ((rest.take j).map (M.flip (decide (c.toNat < 128)))) = X := by
            have := HX.out
            unfold M.mOf at this
            rw [← HK.out] at this
            exact this.symm
          have hXlt : X < 18446744073709551616 := by
            have h1 := Hval.out j (by omega)
            rw [hXv] at h1
            have h2 : 256 ^ j ≤ 256 ^ 8 := Nat.pow_le_pow_right (by omega) (by omega)
            omega
          rw [hXv]
          have hR := HR.out
          rw [if_neg h8, if_neg hl] at hR
          have HR2 := Lib.hid hR
          clear hXv hR HR HK HX Hrd2 Hval hsl
          go_wp2_with fail
          refine (leastDigits_any X _ hXlt).mono ?_
          rintro e w' ⟨rfl, rfl⟩
          by_cases hk : j = M.nb X
          · have hkt : ((j : Int) != (M.nb X : Int)) = false := by rw [← hk]; simp
            have Hk := Lib.hid hk
            clear hk
            by_cases hx : 9223372036854775807 < X
            · have hx' : (9223372036854775807 : Int) < X := by omega
              go_wp2_with fail
              go_ret3
              have hR := HR2.out
              rw [if_pos (Or.inr hx)] at hR
              exact ⟨by rw [hR]; rfl, rfl⟩
            · have hx' : (X : Int) ≤ 9223372036854775807 := by omega
              have hR := HR2.out
              rw [if_neg (by have := Hk.out; omega)] at hR
              by_cases hneg : (c.toNat : Int) < 128
              · rw [if_pos (by omega)] at hR
                have HR3 := Lib.hid hR
                clear hR HR2
                go_wp2_with fail
                go_ret3
                exact ⟨by rw [HR3.out]; rfl, rfl⟩
              · rw [if_neg (by omega)] at hR
                have HR3 := Lib.hid hR
                clear hR HR2
                go_wp2_with fail
                go_ret3
                exact ⟨by rw [HR3.out]; rfl, rfl⟩
          · have hkt : ((j : Int) != (M.nb X : Int)) = true := by simp; omega
            have hR := HR2.out
            rw [if_pos (Or.inl hk)] at hR
            have HR3 := Lib.hid hR
            clear hR HR2
            go_wp2_with fail
            go_ret3
            exact ⟨by rw [HR3.out]; rfl, rfl⟩
end Go.Proofs.Ytacgekhphhhmpaa
