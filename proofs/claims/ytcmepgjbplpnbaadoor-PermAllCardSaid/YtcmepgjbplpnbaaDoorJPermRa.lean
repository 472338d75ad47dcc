import Derived.Test.YtcmepgjbplpnbaaDoorJPermT
import Derived.Test.YtcmepgjbplpnbaaDoorJWireK1

section
/- The reference's Side, Xor and Given. -/


namespace Go.Proofs.YtcmepgjbplpnbaaDoor
open Go.RowKit
set_option linter.unusedVariables false
set_option maxRecDepth 100000

theorem xor_half (a b k : Nat) : ((a ^^^ b) / 2 ^ k) % 2 = if (a / 2 ^ k) % 2 = (b / 2 ^ k) % 2 then 0 else 1 := by
  have h : (a ^^^ b) / 2 ^ k = a / 2 ^ k ^^^ b / 2 ^ k := by
    rw [← Nat.shiftRight_eq_div_pow, ← Nat.shiftRight_eq_div_pow, ← Nat.shiftRight_eq_div_pow, Nat.shiftRight_xor_distrib]
  have e := Nat.xor_mod_two_eq_one (a := a / 2 ^ k) (b := b / 2 ^ k)
  rw [h]
  generalize a / 2 ^ k = x at *
  generalize b / 2 ^ k = y at *
  generalize x ^^^ y = z at *
  split <;> omega
theorem xor_step (a b k : Nat) : (a ^^^ b) % 2 ^ (k + 1) = (a ^^^ b) % 2 ^ k + (if (a / 2 ^ k) % 2 = (b / 2 ^ k) % 2 then 0 else 2 ^ k) := by
  rw [Nat.mod_pow_succ, xor_half]
  split <;> simp
theorem xor_end (a b k : Nat) (ha : a / 2 ^ k = 0) (hb : b / 2 ^ k = 0) : (a ^^^ b) % 2 ^ k = a ^^^ b := by
  have h0 := Nat.two_pow_pos k
  have h1 : a < 2 ^ k := by rcases Nat.div_eq_zero_iff.1 ha with h | h <;> omega
  have h2 : b < 2 ^ k := by rcases Nat.div_eq_zero_iff.1 hb with h | h <;> omega
  exact Nat.mod_eq_of_lt (Nat.xor_lt_two_pow h1 h2)

set_option maxHeartbeats 2000000 in
theorem refXor_any (a b : Nat) (w : World) (ha : a < 65536) (hb : b < 65536) :
    Calls Tryd.prog 45 #[.int .i64 a, .int .i64 b] w fun e w' => e = .returned (.int .i64 ((a ^^^ b : Nat) : Int)) ∧ w' = w := by
  go_enter Tryd.func45, Tryd.ntmps45
  go_wp2_with fail
  go_loopw [0, 1, 5, 6] (fun x y o c wr => ∃ k : Nat, 2 ^ k ≤ 131072 ∧ x = .int .i64 ((a / 2 ^ k : Nat) : Int) ∧ y = .int .i64 ((b / 2 ^ k : Nat) : Int) ∧ o = .int .i64 (((a ^^^ b) % 2 ^ k : Nat) : Int) ∧ c = .int .i64 ((2 ^ k : Nat) : Int) ∧ w = wr) (fun x y _ _ _ => (intOf x).toNat + (intOf y).toNat)
  case atStart => exact ⟨0, by decide, by simp, by simp, by simp [Nat.mod_one], by simp, rfl⟩
  case round =>
    obtain ⟨k, hk, rfl, rfl, rfl, rfl, hw⟩ := hrel
    have hw := hw.symm
    subst hw
    have h1 : a / 2 ^ (k + 1) = a / 2 ^ k / 2 := by rw [Nat.pow_succ, Nat.div_div_eq_div_mul]
    have h2 : b / 2 ^ (k + 1) = b / 2 ^ k / 2 := by rw [Nat.pow_succ, Nat.div_div_eq_div_mul]
    have h3 := xor_step a b k
    have h4 := xor_end a b k
    have h5 : 2 ^ (k + 1) = 2 * 2 ^ k := by rw [Nat.pow_succ, Nat.mul_comm]
    have h6 : a / 2 ^ k * 2 ^ k ≤ a := Nat.div_mul_le_self _ _
    have h7 : b / 2 ^ k * 2 ^ k ≤ b := Nat.div_mul_le_self _ _
    have h8 : (a ^^^ b) % 2 ^ k < 2 ^ k := Nat.mod_lt _ (Nat.two_pow_pos k)
    have hpos := Nat.two_pow_pos k
    obtain ⟨x, hx⟩ : ∃ x, x = a / 2 ^ k := ⟨_, rfl⟩
    obtain ⟨y, hy⟩ : ∃ y, y = b / 2 ^ k := ⟨_, rfl⟩
    obtain ⟨o, ho⟩ : ∃ o, o = (a ^^^ b) % 2 ^ k := ⟨_, rfl⟩
    obtain ⟨P, hP⟩ : ∃ P, P = 2 ^ k := ⟨_, rfl⟩
    have hxl : x ≤ a := by rw [hx]; exact Nat.div_le_self _ _
    have hyl : y ≤ b := by rw [hy]; exact Nat.div_le_self _ _
    have hP1 : 0 < x → P ≤ a := fun h => by
      have : P * 1 ≤ x * P := by rw [Nat.mul_comm x P]; exact Nat.mul_le_mul_left _ h
      rw [hP, hx] at this; rw [hP]; omega
    have hP2 : 0 < y → P ≤ b := fun h => by
      have : P * 1 ≤ y * P := by rw [Nat.mul_comm y P]; exact Nat.mul_le_mul_left _ h
      rw [hP, hy] at this; rw [hP]; omega
    rw [← hx] at h1
    rw [← hy] at h2
    rw [← hx, ← hy, ← ho, ← hP] at h3
    rw [← hx, ← hy, ← ho] at h4
    rw [← hP] at h5 hpos hk
    rw [← ho, ← hP] at h8
    rw [← hx, ← hy, ← ho, ← hP]
    obtain ⟨xd, hxd⟩ : ∃ m, m = x / 2 := ⟨_, rfl⟩
    obtain ⟨yd, hyd⟩ : ∃ m, m = y / 2 := ⟨_, rfl⟩
    have ht1 : (x : Int).tmod 2 = ((x % 2 : Nat) : Int) := by rw [Int.tmod_eq_emod_of_nonneg (by omega)]; omega
    have ht2 : (y : Int).tmod 2 = ((y % 2 : Nat) : Int) := by rw [Int.tmod_eq_emod_of_nonneg (by omega)]; omega
    have hd1 : (x : Int).tdiv 2 = (xd : Int) := by rw [Int.tdiv_eq_ediv_of_nonneg (by omega)]; omega
    have hd2 : (y : Int).tdiv 2 = (yd : Int) := by rw [Int.tdiv_eq_ediv_of_nonneg (by omega)]; omega
    have hd3 : (x : Int) / 2 = (xd : Int) := by omega
    have hd4 : (y : Int) / 2 = (yd : Int) := by omega
    have hP3 : (P : Int) ≤ 131072 := by omega
    have ho3 : (o : Int) < 131072 := by omega
    rw [← hxd] at h1
    rw [← hyd] at h2
    have H1 := Lib.hid (And.intro h1 (And.intro h2 (And.intro h3 (And.intro h4 (And.intro h5 (And.intro hP1 hP2))))))
    have HX := Lib.hid (And.intro hxd hyd)
    have HT := Lib.hid (And.intro ht1 ht2)
    clear h1 h2 h3 h4 h5 hx hy ho hP h6 h7 hP1 hP2 hw hxd hyd ht1 ht2
    by_cases hz : x = 0 ∧ y = 0
    · obtain ⟨rfl, rfl⟩ := hz
      have he := H1.out.2.2.2.1 rfl rfl
      clear hd1 hd2 hd3 hd4
      go_wp2_with fail
      go_ret
      exact ⟨rfl, rfl⟩
    · have hP4 : P ≤ 65536 := by
        rcases Nat.eq_zero_or_pos x with h | h
        · have := H1.out.2.2.2.2.2.2 (by omega); omega
        · have := H1.out.2.2.2.2.2.1 h; omega
      have hms : (intOf (.int .i64 (xd : Int))).toNat + (intOf (.int .i64 (yd : Int))).toNat < (intOf (.int .i64 (x : Int))).toNat + (intOf (.int .i64 (y : Int))).toNat := by
        have := HX.out
        simp [intOf]
        omega
      have MS := Lib.hid hms
      have hP5 : (P : Int) ≤ 65536 := by omega
      have hz2 : ¬ (0 : Int) < x → (0 : Int) < y := by omega
      have HZ := Lib.hid hz2
      clear hms hz hz2
      have fin : ∀ q : Nat, q = o + (if x % 2 = y % 2 then 0 else P) → (∃ k, 2 ^ k ≤ 131072 ∧ Value.int IntKind.i64 (xd : Int) = Value.int IntKind.i64 ((a / 2 ^ k : Nat) : Int) ∧ Value.int IntKind.i64 (yd : Int) = Value.int IntKind.i64 ((b / 2 ^ k : Nat) : Int) ∧
          Value.int IntKind.i64 (q : Int) = Value.int IntKind.i64 (((a ^^^ b) % 2 ^ k : Nat) : Int) ∧ Value.int IntKind.i64 (2 * (P : Int)) = Value.int IntKind.i64 ((2 ^ k : Nat) : Int) ∧ True) := fun q hq =>
        ⟨k + 1, by rw [H1.out.2.2.2.2.1]; omega, by rw [H1.out.1], by rw [H1.out.2.1], by rw [H1.out.2.2.1, hq], by rw [H1.out.2.2.2.2.1]; congr 1, trivial⟩
      have FI := Lib.hid fin
      obtain ⟨q, hq⟩ : ∃ q, q = o + P := ⟨_, rfl⟩
      have hoq : (o : Int) + (P : Int) = (q : Int) := by omega
      have hq2 : (q : Int) ≤ 262144 := by omega
      have HQ := Lib.hid hq
      clear fin hq h8 hpos hk hP4
      have hx2 : x % 2 = 0 ∨ x % 2 = 1 := by omega
      have hy2 : y % 2 = 0 ∨ y % 2 = 1 := by omega
      have FX := Lib.hid hx2
      have FY := Lib.hid hy2
      clear hx2 hy2
      have step : ∀ mx my : Nat, x % 2 = mx → y % 2 = my → (x : Int).tmod 2 = (mx : Int) ∧ (y : Int).tmod 2 = (my : Int) := fun mx my h1 h2 => by rw [← h1, ← h2]; exact HT.out
      have ST := Lib.hid step
      clear step
      by_cases hx0 : 0 < x
      · have hx1 : (0 : Int) < x := by omega
        rcases FX.out with ex | ex
        · rcases FY.out with ey | ey
          · obtain ⟨hm1, hm2⟩ := ST.out 0 0 ex ey
            have HE := Lib.hid (And.intro ex ey)
            clear ex ey
            go_wp2_with fail
            exact ⟨FI.out _ (by rw [HE.out.1, HE.out.2]; simp), MS.out⟩
          · obtain ⟨hm1, hm2⟩ := ST.out 0 1 ex ey
            have HE := Lib.hid (And.intro ex ey)
            clear ex ey
            go_wp2_with fail
            exact ⟨FI.out _ (by rw [HE.out.1, HE.out.2]; simp; exact HQ.out), MS.out⟩
        · rcases FY.out with ey | ey
          · obtain ⟨hm1, hm2⟩ := ST.out 1 0 ex ey
            have HE := Lib.hid (And.intro ex ey)
            clear ex ey
            go_wp2_with fail
            exact ⟨FI.out _ (by rw [HE.out.1, HE.out.2]; simp; exact HQ.out), MS.out⟩
          · obtain ⟨hm1, hm2⟩ := ST.out 1 1 ex ey
            have HE := Lib.hid (And.intro ex ey)
            clear ex ey
            go_wp2_with fail
            exact ⟨FI.out _ (by rw [HE.out.1, HE.out.2]; simp), MS.out⟩
      · obtain rfl : x = 0 := by omega
        have hy0 : 0 < y := by have := HZ.out; omega
        have hy1 : (0 : Int) < y := by omega
        obtain rfl : xd = 0 := by have := HX.out.1; omega
        clear hx0 hd1 hd3
        have ex : 0 % 2 = 0 := rfl
        rcases FY.out with ey | ey
        · obtain ⟨-, hm2⟩ := ST.out 0 0 ex ey
          have HE := Lib.hid (And.intro ex ey)
          clear ex ey
          go_wp2_with fail
          exact ⟨FI.out _ (by rw [HE.out.1, HE.out.2]; simp), MS.out⟩
        · obtain ⟨-, hm2⟩ := ST.out 0 1 ex ey
          have HE := Lib.hid (And.intro ex ey)
          clear ex ey
          go_wp2_with fail
          exact ⟨FI.out _ (by rw [HE.out.1, HE.out.2]; simp; exact HQ.out), MS.out⟩

end Go.Proofs.YtcmepgjbplpnbaaDoor
end

