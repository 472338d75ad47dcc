/- The contracts of calendar's twoDigits and Text. -/
import Derived.Test.YtkenfgifhebnpaaDoorCalPd
import Derived.Test.YtkenfgifhebnpaaDoorCalRd
import Derived.Test.YtkenfgifhebnpaaDoorShelf
import Derived.Lib.ItoaNum
import Derived.Lib.ItoaLen
namespace Go.Proofs.YtkenfgifhebnpaaDoor
open Go.RowKit
set_option linter.unusedVariables false
set_option maxRecDepth 100000

theorem cbelow_grow (w : World) (k : Nat) (os : Array Obj) : Below w.heap.size w (Sort.grow (w.drewN k) os) := by
  refine ⟨rfl, rfl, rfl, ?_, fun j hj => ?_⟩
  · simp [Sort.grow]
  · simp [Sort.grow, Array.getElem?_append_left hj]
theorem citoa_any (n : Nat) (w : World) (hn : n < 1000000) (hD : CDoor w) : Calls Tryd.prog 44 #[.int .i64 n] w fun e w' => e = .returned (.string (bs (Lib.itoa n))) ∧ Below w.heap.size w w' :=
  (Tryd.strconv_Itoa n (by omega) (by omega) w hD.1).mono fun e w' ⟨h1, k, os, h2⟩ => ⟨h1, by rw [h2]; exact cbelow_grow w k os⟩
theorem itoa_nat (u : Nat) : Lib.itoa (u : Int) = Lib.decDigits u := by unfold Lib.itoa; rw [if_neg (by omega)]; simp
theorem dec_last (u : Nat) (h : ¬ u < 10) : Lib.decDigits u = Lib.decDigits (u / 10) ++ [UInt8.ofNat (48 + u % 10)] := by rw [Lib.decDigits, dif_neg h]
theorem dg_snoc (n k : Nat) : dg n (k + 1) = dg (n / 10) k ++ [UInt8.ofNat (48 + n % 10)] := by
  unfold dg
  rw [List.range_succ_eq_map, List.reverse_cons, List.map_append, ← List.map_reverse, List.map_map]
  congr 1
  · apply List.map_congr_left
    intro j _
    simp only [Function.comp, Nat.pow_succ, Nat.div_div_eq_div_mul]
    rw [Nat.mul_comm (10 ^ j) 10]
  · simp
theorem dec_dg1 (u : Nat) (h : u < 10) : Lib.decDigits u = dg u 1 := by
  rw [Lib.decDigits_one h]
  simp [dg]
  rw [Nat.mod_eq_of_lt h]
theorem dec_dg2 (u : Nat) (h1 : ¬ u < 10) (h : u < 100) : Lib.decDigits u = dg u 2 := by
  rw [dec_last u h1, dec_dg1 _ (by omega), dg_snoc u 1]
theorem itoa4 (Y : Nat) (h1 : 1600 ≤ Y) (h2 : Y ≤ 2399) : Lib.itoa (Y : Int) = dg Y 4 := by
  rw [itoa_nat, dec_last Y (by omega), dec_last (Y / 10) (by omega), dec_dg2 _ (by omega) (by omega), dg_snoc Y 3, dg_snoc (Y / 10) 2]

set_option maxHeartbeats 1000000 in
theorem twoDigits_any (n : Nat) (w : World) (hn : n < 100) (hD : CDoor w) : Calls Tryd.prog 45 #[.int .i64 n] w fun e w' => e = .returned (.string (bs (dg n 2))) ∧ Below w.heap.size w w' := by
  have c := fun W h => citoa_any n W (by omega) h
  simp only [itoa_nat] at c
  obtain ⟨t, ht⟩ : ∃ t, t = bs (dg n 2) := ⟨_, rfl⟩
  rw [← ht]
  have HD := Lib.hid hD
  by_cases h : n < 10
  · have hi : (n : Int) < 10 := by omega
    simp only [dec_dg1 n h] at c
    have e2 : dg n 2 = 48 :: dg n 1 := by
      rw [dg_succ]
      simp [Nat.div_eq_of_lt h]
    have l1 : ¬ 9223372036854775807 < (⟨#[48]⟩ : ByteArray).size + (bs (dg n 1)).size := by rw [size_bs', dg_len]; show ¬ 9223372036854775807 < 1 + 1; omega
    have c1 : (⟨#[48]⟩ : ByteArray) ++ bs (dg n 1) = t := by rw [ht, e2]; exact bs_cat [48] _
    generalize bs (dg n 1) = s at *
    have C := Lib.hid c
    clear c e2 ht hD h hn
    go_enter Tryd.func45, Tryd.ntmps45
    go_wp2_with fail
    refine (C.out _ HD.out).mono ?_
    rintro e w1 ⟨rfl, hb1⟩
    have HB1 := Lib.hid hb1
    clear hb1 C
    go_wp2_with fail
    go_ret
    exact ⟨rfl, HB1.out⟩
  · have hi : ¬ (n : Int) < 10 := by omega
    simp only [dec_dg2 n h hn] at c
    rw [← ht] at c
    have C := Lib.hid c
    clear c ht hD h hn
    go_enter Tryd.func45, Tryd.ntmps45
    go_wp2_with fail
    refine (C.out _ HD.out).mono ?_
    rintro e w1 ⟨rfl, hb1⟩
    have HB1 := Lib.hid hb1
    clear hb1 C
    go_wp2_with fail
    go_ret
    exact ⟨rfl, HB1.out⟩

set_option maxHeartbeats 4000000 in
theorem calText_any (n : Int) (w : World) (hn : M.I64 n) (hD : CDoor w) : Calls Tryd.prog 15 #[.int .i64 n] w fun e w' => e = .returned (.string (bs (dtext n))) ∧ Below w.heap.size w w' := by
  have cKn := fun W => calKnown_any n W
  by_cases h : Cal.known n
  · rw [decide_eq_true h] at cKn
    have cC := fun W h => calCivil_any n W hn h
    have hok := (Cal.day_back h).1
    unfold Cal.okD at hok
    have hmd := (Cal.md_pos (Cal.cy n).toNat (Cal.cm n).toNat).2
    obtain ⟨t, ht⟩ : ∃ t, t = dtext n := ⟨_, rfl⟩
    rw [← ht]
    unfold dtext at ht
    rw [if_pos h] at ht
    obtain ⟨Y, hY⟩ := Int.eq_ofNat_of_zero_le (show 0 ≤ Cal.cy n by omega)
    obtain ⟨M, hM⟩ := Int.eq_ofNat_of_zero_le (show 0 ≤ Cal.cm n by omega)
    obtain ⟨D, hDD⟩ := Int.eq_ofNat_of_zero_le (show 0 ≤ Cal.cd n by omega)
    simp only [hY, hM, hDD] at cC
    rw [hY, hM, hDD] at hok ht
    rw [hY, hM] at hmd
    simp only [Int.toNat_natCast] at ht hok hmd
    have d1 := fun W h => citoa_any Y W (by omega) h
    have d2 := fun W h => twoDigits_any M W (by omega) h
    have d3 := fun W h => twoDigits_any D W (by omega) h
    simp only [itoa4 Y (by omega) (by omega)] at d1
    have l1 := dg_len Y 4
    have l2 := dg_len M 2
    have l3 := dg_len D 2
    generalize dg Y 4 = a at *
    generalize dg M 2 = b at *
    generalize dg D 2 = c at *
    obtain ⟨B1, hB1⟩ : ∃ x, x = bs (a ++ [45]) := ⟨_, rfl⟩
    obtain ⟨B2, hB2⟩ : ∃ x, x = bs (a ++ [45] ++ b) := ⟨_, rfl⟩
    obtain ⟨B3, hB3⟩ : ∃ x, x = bs (a ++ [45] ++ b ++ [45]) := ⟨_, rfl⟩
    obtain ⟨B4, hB4⟩ : ∃ x, x = bs t := ⟨_, rfl⟩
    have c1 : bs a ++ (⟨#[45]⟩ : ByteArray) = B1 := by rw [hB1]; exact bs_cat a [45]
    have c2 : B1 ++ bs b = B2 := by rw [hB1, hB2]; exact bs_cat _ _
    have c3 : B2 ++ (⟨#[45]⟩ : ByteArray) = B3 := by rw [hB2, hB3]; exact bs_cat _ [45]
    have c4 : B3 ++ bs c = B4 := by rw [hB3, hB4, ht]; exact bs_cat _ _
    have z0 : (⟨#[45]⟩ : ByteArray).size = 1 := rfl
    have z1 : (bs a).size = 4 := by rw [size_bs', l1]
    have z2 : B1.size = 5 := by rw [hB1, size_bs']; simp [l1]
    have z3 : (bs b).size = 2 := by rw [size_bs', l2]
    have z4 : B2.size = 7 := by rw [hB2, size_bs']; simp [l1, l2]
    have z5 : B3.size = 8 := by rw [hB3, size_bs']; simp [l1, l2]
    have z6 : (bs c).size = 2 := by rw [size_bs', l3]
    rw [← hB4]
    have CKn := Lib.hid cKn
    have CC := Lib.hid cC
    have D1 := Lib.hid d1
    have D2 := Lib.hid d2
    have D3 := Lib.hid d3
    have HD := Lib.hid hD
    clear cKn cC d1 d2 d3 h hok hmd ht hY hM hDD hD hn l1 l2 l3 hB1 hB2 hB3 hB4
    generalize bs a = sa at *
    generalize bs b = sb' at *
    generalize bs c = sc at *
    have q1 : ¬ 9223372036854775807 < sa.size + (⟨#[45]⟩ : ByteArray).size := by rw [z0, z1]; omega
    have q2 : ¬ 9223372036854775807 < B1.size + sb'.size := by omega
    have q3 : ¬ 9223372036854775807 < B2.size + (⟨#[45]⟩ : ByteArray).size := by rw [z0]; omega
    have q4 : ¬ 9223372036854775807 < B3.size + sc.size := by omega
    clear z0 z1 z2 z3 z4 z5 z6
    go_enter Tryd.func15, Tryd.ntmps15
    go_wp2_with fail
    refine (CKn.out _).mono ?_
    rintro e w' ⟨rfl, hw'⟩
    obtain rfl := hw'.symm
    go_wp2_with fail
    refine (CC.out _ HD.out).mono ?_
    rintro e w0 ⟨rfl, hb0⟩
    have HB0 := Lib.hid hb0
    clear hb0
    go_wp2_with fail
    refine (D1.out _ (HD.out.below HB0.out (Nat.le_refl _))).mono ?_
    rintro e w1 ⟨rfl, hb1⟩
    have HB1 := Lib.hid (HB0.out.trans (hb1.mono HB0.out.size))
    clear hb1
    go_wp2_with fail
    refine (D2.out _ (HD.out.below HB1.out (Nat.le_refl _))).mono ?_
    rintro e w2 ⟨rfl, hb2⟩
    have HB2 := Lib.hid (HB1.out.trans (hb2.mono HB1.out.size))
    clear hb2
    go_wp2_with fail
    refine (D3.out _ (HD.out.below HB2.out (Nat.le_refl _))).mono ?_
    rintro e w3 ⟨rfl, hb3⟩
    have HB3 := Lib.hid (HB2.out.trans (hb3.mono HB2.out.size))
    clear hb3
    go_wp2_with fail
    go_ret
    exact ⟨rfl, HB3.out⟩
  · rw [decide_eq_false h] at cKn
    rw [show dtext n = [] from if_neg h]
    have CKn := Lib.hid cKn
    clear cKn h hn hD
    go_enter Tryd.func15, Tryd.ntmps15
    go_wp2_with fail
    refine (CKn.out _).mono ?_
    rintro e w' ⟨rfl, hw'⟩
    obtain rfl := hw'.symm
    go_wp2_with fail
    go_ret
    exact ⟨rfl, Below.refl _ _⟩
end Go.Proofs.YtkenfgifhebnpaaDoor
