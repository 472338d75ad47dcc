/- The contracts of the reference's digits, Text, DayOf, Working. -/
import Derived.Test.YtkenfgifhebnpaaDoorCalRb
import Derived.Test.YtkenfgifhebnpaaDoorCalRc
import Derived.Test.YtkenfgifhebnpaaDoorAppend
namespace Go.Proofs.YtkenfgifhebnpaaDoor
open Go.RowKit
set_option linter.unusedVariables false
set_option maxRecDepth 100000

/-- The last k digits of n. -/
def dg (n k : Nat) : List UInt8 := (List.range k).reverse.map fun j => UInt8.ofNat (48 + n / 10 ^ j % 10)
theorem dg_zero (n : Nat) : dg n 0 = [] := rfl
theorem dg_succ (n k : Nat) : dg n (k + 1) = [UInt8.ofNat (48 + n / 10 ^ k % 10)] ++ dg n k := by
  unfold dg
  rw [List.range_succ, List.reverse_append]
  rfl
theorem dg_len (n k : Nat) : (dg n k).length = k := by simp [dg]

set_option maxHeartbeats 2000000 in
theorem digits_any (n k : Nat) (w : World) (hn : n ≤ 1000000000) (hk : k ≤ 20) : Calls Tryd.prog 46 #[.int .i64 n, .int .i64 k] w fun e w' => e = .returned (.string (bs (dg n k))) ∧ Below w.heap.size w w' := by
  go_enter Tryd.func46, Tryd.ntmps46
  go_wp2_with fail
  go_loopw [0, 5, 6] (fun x o i wr => ∃ j : Nat, j ≤ k ∧ x = .int .i64 ((n / 10 ^ j : Nat) : Int) ∧ IsB o (dg n j) wr ∧ i = .int .i64 (j : Int) ∧ Below w.heap.size w wr) (fun _ _ i _ => k - (intOf i).toNat)
  case atStart => exact ⟨0, by omega, by simp, ⟨none, 0, rfl, Rd.nil, Nat.le_refl _, by decide⟩, rfl, Below.refl _ _⟩
  case round =>
    obtain ⟨j, hj, rfl, hO, rfl, hb⟩ := hrel
    obtain ⟨A, c, rfl, hr, h1, h2⟩ := hO
    have hq : n / 10 ^ j ≤ 1000000000 := Nat.le_trans (Nat.div_le_self _ _) hn
    have hs := dg_succ n j
    have hdl2 := dg_len n j
    have hnx : n / 10 ^ (j + 1) = n / 10 ^ j / 10 := by rw [Nat.pow_succ, Nat.div_div_eq_div_mul]
    obtain ⟨q, hq'⟩ : ∃ q, q = n / 10 ^ j := ⟨_, rfl⟩
    obtain ⟨l, hl⟩ : ∃ l, l = dg n j := ⟨_, rfl⟩
    rw [← hq'] at hs hnx hq
    rw [← hl] at hs hr h1 hdl2
    rw [← hq', ← hl]
    by_cases hlt : j < k
    · have hli : (j : Int) < k := by omega
      obtain ⟨x, hx⟩ : ∃ x : Int, x = (q : Int) := ⟨_, rfl⟩
      rw [← hx]
      obtain ⟨d, hd⟩ : ∃ d, d = q % 10 := ⟨_, rfl⟩
      rw [← hd] at hs
      have e1 : x.tmod 10 = (d : Int) := by rw [hx, Int.tmod_eq_emod_of_nonneg (by omega)]; omega
      have e2 : x.tdiv 10 = ((q / 10 : Nat) : Int) := by rw [hx, Int.tdiv_eq_ediv_of_nonneg (by omega)]; omega
      have e3 : x / 10 = ((q / 10 : Nat) : Int) := by omega
      have hdl : d < 10 := by omega
      obtain ⟨y, hy⟩ : ∃ y, y = UInt8.ofNat (48 + d) := ⟨_, rfl⟩
      rw [← hy] at hs
      have hbv : bv y = .int .u8 (48 + (d : Int)) := by
        rw [hy]; unfold bv
        congr 1
        rw [UInt8.toNat_ofNat_of_lt' (by show 48 + d < 256; omega)]; omega
      have hnew : RdB (wr.alloc (.cells #[.int .u8 (48 + (d : Int))] 5)) (wr.alloc (.cells #[.int .u8 (48 + (d : Int))] 5)).heap.size (some ⟨wr.heap.size, 0, none⟩) [y] := by
        rw [← hbv]; exact rd_new wr [bv y] _
      have hold : RdB (wr.alloc (.cells #[.int .u8 (48 + (d : Int))] 5)) (wr.alloc (.cells #[.int .u8 (48 + (d : Int))] 5)).heap.size A l := (Rd.alloc hr (Nat.le_refl _) _).more (by simp)
      have hba : Below wr.heap.size wr (wr.alloc (.cells #[.int .u8 (48 + (d : Int))] 5)) := (Below.refl _ _).alloc (Nat.le_refl _) _
      have hsz : wr.heap.size ≤ (wr.alloc (.cells #[.int .u8 (48 + (d : Int))] 5)).heap.size := by simp
      have HR := Lib.hid (And.intro hnew (And.intro hold (And.intro hba (And.intro hsz (And.intro hb (And.intro hs hnx))))))
      have HL := Lib.hid (And.intro hdl2 hq)
      clear hr hs hb hx hd hq' hl hnew hold hba hsz hbv hy hnx hdl2 hq
      go_wp2_with (at_builtin; refine wpList_append_full _ rfl (.tmp 16) (.tmp 17) rfl (some ⟨wr.heap.size, 0, none⟩) A [y] l c rfl rfl HR.out.1 HR.out.2.1 (by simp) (by have := HL.out.1; simp; omega) ?_; intro v w2 hB hb2; have HB := Lib.hid (And.intro hB hb2); clear hB hb2)
      refine ⟨⟨j + 1, by omega, ?_, ?_, by go_num, HR.out.2.2.2.2.1.trans ((HR.out.2.2.1.trans (HB.out.2.mono HR.out.2.2.2.1)).mono HR.out.2.2.2.2.1.size)⟩, by simp [intOf]; omega⟩
      · rw [HR.out.2.2.2.2.2.2]
        congr 1
        have := HL.out.2
        unfold wrap64; omega
      · rw [HR.out.2.2.2.2.2.1]; exact HB.out.1
    · obtain rfl : j = k := by omega
      have hli : ¬ (j : Int) < j := by omega
      have hcv := conv_bytes wr _ A l c hr
      have HR := Lib.hid (And.intro hl hb)
      clear hr hs hb hq' hq hnx hdl2 hl
      go_wp2_with fail
      go_ret
      exact ⟨by rw [← HR.out.1]; rfl, HR.out.2⟩

/-- The text of a date. -/
noncomputable def dtext (n : Int) : List UInt8 := if Cal.known n then dg (Cal.cy n).toNat 4 ++ [45] ++ dg (Cal.cm n).toNat 2 ++ [45] ++ dg (Cal.cd n).toNat 2 else []
set_option maxHeartbeats 2000000 in
theorem dayOf_any (n : Int) (w : World) (hn : -2305843009213693952 ≤ n ∧ n ≤ 2305843009213693952) : Calls Tryd.prog 53 #[.int .i64 n] w fun e w' => e = .returned (.int .i64 (n / 1440)) ∧ w' = w := by
  have cM := fun W => modulo_any n 1440 W (by omega) (by omega)
  obtain ⟨m, hm⟩ : ∃ m, m = n % 1440 := ⟨_, rfl⟩
  obtain ⟨z, hz⟩ : ∃ z, z = n / 1440 := ⟨_, rfl⟩
  rw [← hm] at cM
  rw [← hz]
  have hw : wrap64 (n - m) = 1440 * z := by unfold wrap64; omega
  have hq : (1440 * z).tdiv 1440 = z := by rw [Int.mul_comm, Int.mul_tdiv_cancel _ (by decide)]
  have hw2 : wrap64 z = z := by unfold wrap64; omega
  obtain ⟨u, hu⟩ : ∃ u, u = 1440 * z := ⟨_, rfl⟩
  rw [← hu] at hw hq
  have CM := Lib.hid cM
  clear cM hm hz hu hn
  go_enter Tryd.func53, Tryd.ntmps53
  go_wp2_with fail
  refine (CM.out _).mono ?_
  rintro e w' ⟨rfl, hw'⟩
  obtain rfl := hw'.symm
  go_wp2_with fail
  go_ret
  exact ⟨by rw [hw2]; rfl, rfl⟩

theorem bs_cat (a b : List UInt8) : bs a ++ bs b = bs (a ++ b) := ByteArray.mk_append_mk a b
theorem size_bs' (a : List UInt8) : (bs a).size = a.length := by rw [← sb_len, sb_bs]
set_option maxHeartbeats 4000000 in
theorem refText_any (n : Int) (w : World) : Calls Tryd.prog 16 #[.int .i64 n] w fun e w' => e = .returned (.string (bs (dtext n))) ∧ Below w.heap.size w w' := by
  have cKn := fun W => known_any n W
  by_cases h : Cal.known n
  · rw [decide_eq_true h] at cKn
    have cC := fun W => refCivil_any n W
    have hok := (Cal.day_back h).1
    unfold Cal.okD at hok
    have hmd := (Cal.md_pos (Cal.cy n).toNat (Cal.cm n).toNat).2
    obtain ⟨t, ht⟩ : ∃ t, t = dtext n := ⟨_, rfl⟩
    rw [← ht]
    unfold dtext at ht
    rw [if_pos h] at ht
    obtain ⟨Y, hY⟩ := Int.eq_ofNat_of_zero_le (show 0 ≤ Cal.cy n by omega)
    obtain ⟨M, hM⟩ := Int.eq_ofNat_of_zero_le (show 0 ≤ Cal.cm n by omega)
    obtain ⟨D, hD⟩ := Int.eq_ofNat_of_zero_le (show 0 ≤ Cal.cd n by omega)
    rw [hY, hM, hD] at cC hok ht
    rw [hY, hM] at hmd
    simp only [Int.toNat_natCast] at ht hok hmd
    have d1 := fun W => digits_any Y 4 W (by omega) (by omega)
    have d2 := fun W => digits_any M 2 W (by omega) (by omega)
    have d3 := fun W => digits_any D 2 W (by omega) (by omega)
    have l1 := dg_len Y 4
    have l2 := dg_len M 2
    have l3 := dg_len D 2
    generalize dg Y 4 = a at *
    generalize dg M 2 = b at *
    generalize dg D 2 = c at *
    obtain ⟨B1, hB1⟩ : ∃ x, x = bs (a ++ [45]) := ⟨_, rfl⟩
    obtain ⟨B2, hB2⟩ : ∃ x, x = bs (a ++ [45] ++ b) := ⟨_, rfl⟩
    obtain ⟨B3, hB3⟩ : ∃ x, x = bs (a ++ [45] ++ b ++ [45]) := ⟨_, rfl⟩
    obtain ⟨B4, hB4⟩ : ∃ x, x = bs t := ⟨_, rfl⟩
    have c1 : bs a ++ (⟨#[45]⟩ : ByteArray) = B1 := by rw [hB1]; exact bs_cat a [45]
    have c2 : B1 ++ bs b = B2 := by rw [hB1, hB2]; exact bs_cat _ _
    have c3 : B2 ++ (⟨#[45]⟩ : ByteArray) = B3 := by rw [hB2, hB3]; exact bs_cat _ [45]
    have c4 : B3 ++ bs c = B4 := by rw [hB3, hB4, ht]; exact bs_cat _ _
    have z0 : (⟨#[45]⟩ : ByteArray).size = 1 := rfl
    have z1 : (bs a).size = 4 := by rw [size_bs', l1]
    have z2 : B1.size = 5 := by rw [hB1, size_bs']; simp [l1]
    have z3 : (bs b).size = 2 := by rw [size_bs', l2]
    have z4 : B2.size = 7 := by rw [hB2, size_bs']; simp [l1, l2]
    have z5 : B3.size = 8 := by rw [hB3, size_bs']; simp [l1, l2]
    have z6 : (bs c).size = 2 := by rw [size_bs', l3]
    rw [← hB4]
    have CKn := Lib.hid cKn
    have CC := Lib.hid cC
    have D1 := Lib.hid d1
    have D2 := Lib.hid d2
    have D3 := Lib.hid d3
    clear cKn cC d1 d2 d3 h hok hmd ht hY hM hD l1 l2 l3 hB1 hB2 hB3 hB4
    generalize bs a = sa at *
    generalize bs b = sb' at *
    generalize bs c = sc at *
    have q1 : ¬ 9223372036854775807 < sa.size + (⟨#[45]⟩ : ByteArray).size := by rw [z0, z1]; omega
    have q2 : ¬ 9223372036854775807 < B1.size + sb'.size := by omega
    have q3 : ¬ 9223372036854775807 < B2.size + (⟨#[45]⟩ : ByteArray).size := by rw [z0]; omega
    have q4 : ¬ 9223372036854775807 < B3.size + sc.size := by omega
    clear z0 z1 z2 z3 z4 z5 z6
    go_enter Tryd.func16, Tryd.ntmps16
    go_wp2_with fail
    refine (CKn.out _).mono ?_
    rintro e w' ⟨rfl, hw'⟩
    obtain rfl := hw'.symm
    go_wp2_with fail
    refine (CC.out _).mono ?_
    rintro e w' ⟨rfl, hw'⟩
    obtain rfl := hw'.symm
    go_wp2_with fail
    refine (D1.out _).mono ?_
    rintro e w1 ⟨rfl, hb1⟩
    have HB1 := Lib.hid hb1
    clear hb1
    go_wp2_with fail
    refine (D2.out _).mono ?_
    rintro e w2 ⟨rfl, hb2⟩
    have HB2 := Lib.hid (HB1.out.trans (hb2.mono HB1.out.size))
    clear hb2
    go_wp2_with fail
    refine (D3.out _).mono ?_
    rintro e w3 ⟨rfl, hb3⟩
    have HB3 := Lib.hid (HB2.out.trans (hb3.mono HB2.out.size))
    clear hb3
    go_wp2_with fail
    go_ret
    exact ⟨rfl, HB3.out⟩
  · rw [decide_eq_false h] at cKn
    rw [show dtext n = [] from if_neg h]
    have CKn := Lib.hid cKn
    clear cKn h
    go_enter Tryd.func16, Tryd.ntmps16
    go_wp2_with fail
    refine (CKn.out _).mono ?_
    rintro e w' ⟨rfl, hw'⟩
    obtain rfl := hw'.symm
    go_wp2_with fail
    go_ret
    exact ⟨rfl, Below.refl _ _⟩
end Go.Proofs.YtkenfgifhebnpaaDoor
