/- Plain mathematics: fractions in lowest terms, over the rational numbers. -/
namespace Go.Proofs.YtkenfgifhebnpaaDoor.Rt

/-- A fraction beside the number of an error. -/
abbrev Tri := Int × Int × Int

/-- What `Make` answers. -/
def mk (p q : Int) : Tri :=
  if q = 0 then (0, 0, 1)
  else if 2147483648 < p.natAbs / Nat.gcd p.natAbs q.natAbs ∨ 2147483648 < q.natAbs / Nat.gcd p.natAbs q.natAbs then (0, 0, 5)
  else (if (p < 0 ∧ 0 < q) ∨ (0 < p ∧ q < 0) then -((p.natAbs / Nat.gcd p.natAbs q.natAbs : Nat) : Int)
    else ((p.natAbs / Nat.gcd p.natAbs q.natAbs : Nat) : Int), ((q.natAbs / Nat.gcd p.natAbs q.natAbs : Nat) : Int), 0)

/-- A number as a fraction of limited size. -/
def box (r : Rat) : Tri :=
  if 2147483648 < r.num.natAbs ∨ 2147483648 < r.den then (0, 0, 5) else (r.num, (r.den : Int), 0)

/-- The valid fractions. -/
def Ok (P Q : Int) : Prop :=
  (P = 0 ∧ Q = 0) ∨ (1 ≤ Q ∧ Q ≤ 2147483648 ∧ -2147483648 ≤ P ∧ P ≤ 2147483648 ∧ Nat.gcd P.natAbs Q.natAbs = 1)

instance (P Q : Int) : Decidable (Ok P Q) := by unfold Ok; infer_instance

def den (Q : Int) : Int := if Q < 1 then 1 else Q

def val (P Q : Int) : Rat := Rat.divInt P (den Q)

theorem den_pos (Q : Int) : 1 ≤ den Q := by unfold den; split <;> omega

theorem Ok.den_le {P Q : Int} (h : Ok P Q) : den Q ≤ 2147483648 := by
  unfold den; rcases h with ⟨-, h⟩ | ⟨h, h', -⟩ <;> split <;> omega

theorem Ok.bounds {P Q : Int} (h : Ok P Q) : -2147483648 ≤ P ∧ P ≤ 2147483648 ∧ 0 ≤ Q ∧ Q ≤ 2147483648 := by
  rcases h with ⟨h, h'⟩ | h <;> omega

theorem Ok.gcd {P Q : Int} (h : Ok P Q) : Nat.gcd P.natAbs (den Q).natAbs = 1 := by
  rcases h with ⟨rfl, rfl⟩ | ⟨h, -, -, -, h'⟩
  · rfl
  · have : den Q = Q := by unfold den; split <;> omega
    rw [this]; exact h'

theorem num_den {P Q : Int} (h : Ok P Q) : (val P Q).num = P ∧ ((val P Q).den : Int) = den Q := by
  have h1 := den_pos Q
  have hg := h.gcd
  have hg' : Int.gcd (den Q) P = 1 := by rw [Int.gcd_eq_natAbs_gcd_natAbs, Nat.gcd_comm]; exact hg
  constructor
  · rw [val, Rat.num_divInt, hg', Int.sign_eq_one_of_pos (by omega)]; simp
  · rw [val, Rat.den_divInt, hg', if_neg (by omega)]; simp; omega

theorem mk_box {p q : Int} (hq : q ≠ 0) : mk p q = box (Rat.divInt p q) := by
  have hg : Int.gcd q p = Nat.gcd p.natAbs q.natAbs := by rw [Int.gcd_eq_natAbs_gcd_natAbs, Nat.gcd_comm]
  have hd : Nat.gcd p.natAbs q.natAbs ∣ p.natAbs := Nat.gcd_dvd_left _ _
  have hgp : 0 < Nat.gcd p.natAbs q.natAbs := Nat.gcd_pos_of_pos_right _ (by omega)
  have hn : (Rat.divInt p q).num = if (p < 0 ∧ 0 < q) ∨ (0 < p ∧ q < 0) then -((p.natAbs / Nat.gcd p.natAbs q.natAbs : Nat) : Int)
      else ((p.natAbs / Nat.gcd p.natAbs q.natAbs : Nat) : Int) := by
    rw [Rat.num_divInt, hg]
    obtain ⟨k, hk⟩ := hd
    have hkd : p.natAbs / Nat.gcd p.natAbs q.natAbs = k := by
      conv => lhs; arg 1; rw [hk]
      exact Nat.mul_div_cancel_left _ hgp
    rw [hkd]
    have key : q.sign * p = (Nat.gcd p.natAbs q.natAbs : Int) * (if (p < 0 ∧ 0 < q) ∨ (0 < p ∧ q < 0) then -(k : Int) else (k : Int)) := by
      have hk' : (p.natAbs : Int) = (Nat.gcd p.natAbs q.natAbs : Int) * (k : Int) := by exact_mod_cast hk
      generalize (Nat.gcd p.natAbs q.natAbs : Int) = g at hk'
      rcases Int.lt_or_gt_of_ne hq with h | h
      · rw [Int.sign_eq_neg_one_of_neg h]
        rcases Int.lt_trichotomy p 0 with h1 | h1 | h1
        · rw [if_neg (by omega)]; rw [Int.ofNat_natAbs_of_nonpos (by omega)] at hk'; grind
        · subst h1; rw [if_neg (by omega), ← hk']; rfl
        · rw [if_pos (by omega)]; rw [Int.natAbs_of_nonneg (by omega)] at hk'; grind
      · rw [Int.sign_eq_one_of_pos h]
        rcases Int.lt_trichotomy p 0 with h1 | h1 | h1
        · rw [if_pos (by omega)]; rw [Int.ofNat_natAbs_of_nonpos (by omega)] at hk'; grind
        · subst h1; rw [if_neg (by omega), ← hk']; rfl
        · rw [if_neg (by omega)]; rw [Int.natAbs_of_nonneg (by omega)] at hk'; grind
    rw [key, Int.mul_ediv_cancel_left _ (by omega)]
  have hdn : (Rat.divInt p q).den = q.natAbs / Nat.gcd p.natAbs q.natAbs := by
    rw [Rat.den_divInt, hg, if_neg hq]
  have hna : (Rat.divInt p q).num.natAbs = p.natAbs / Nat.gcd p.natAbs q.natAbs := by
    rw [hn]; generalize p.natAbs / Nat.gcd p.natAbs q.natAbs = u; split <;> omega
  unfold mk box
  rw [if_neg hq, hna, hdn, hn]

theorem mk_zero (p : Int) : mk p 0 = (0, 0, 1) := by simp [mk]

theorem mk_scale {a b c : Int} (hc : c ≠ 0) : mk (a * c) (b * c) = mk a b := by
  by_cases hb : b = 0
  · subst hb; simp [mk_zero]
  · rw [mk_box (Int.mul_ne_zero hb hc), mk_box hb, Rat.divInt_mul_right hc]

theorem rat_of {r : Rat} : Rat.divInt r.num r.den = r := Rat.num_divInt_den r

theorem box_ok {r : Rat} {P Q : Int} (h : box r = (P, Q, 0)) : Ok P Q ∧ 1 ≤ Q ∧ val P Q = r := by
  unfold box at h
  split at h
  · simp at h
  · rename_i hn
    simp only [Prod.mk.injEq, and_true] at h
    obtain ⟨rfl, rfl⟩ := h
    have := r.den_pos
    refine ⟨Or.inr ⟨by omega, by omega, by omega, by omega, by simpa using r.reduced⟩, by omega, ?_⟩
    unfold val den
    rw [if_neg (by omega)]
    exact rat_of

theorem box_err {r : Rat} : (box r).2.2 = 0 ∨ box r = (0, 0, 5) := by
  unfold box; split
  · right; rfl
  · left; rfl

theorem box_val {P Q : Int} (h : Ok P Q) : box (val P Q) = (P, den Q, 0) := by
  obtain ⟨h1, h2⟩ := num_den h
  have hb := h.bounds
  have hd := h.den_le
  have hp := den_pos Q
  unfold box
  rw [if_neg (by omega), h1, h2]

theorem val_den {P Q : Int} : val P (den Q) = val P Q := by
  have : den (den Q) = den Q := by
    have := den_pos Q
    generalize den Q = d at *
    unfold den
    exact if_neg (by omega)
  unfold val; rw [this]

theorem mk_ok {p q P Q : Int} (h : mk p q = (P, Q, 0)) : q ≠ 0 ∧ Ok P Q ∧ 1 ≤ Q ∧ val P Q = Rat.divInt p q := by
  by_cases hq : q = 0
  · subst hq; simp [mk_zero] at h
  · rw [mk_box hq] at h
    exact ⟨hq, box_ok h⟩

theorem mk_self {P Q : Int} : ((P = 0 ∧ Q = 0) ∨ mk P Q = (P, Q, 0)) ↔ Ok P Q := by
  constructor
  · rintro (h | h)
    · exact Or.inl h
    · exact (mk_ok h).2.1
  · rintro (h | h)
    · exact Or.inl h
    · right
      have hd : den Q = Q := by unfold den; rw [if_neg (by omega)]
      have := box_val (P := P) (Q := Q) (Or.inr h)
      rw [val, hd] at this
      rw [mk_box (by omega), this]

theorem Ok.den' {P Q : Int} (h : Ok P Q) : Ok P (den Q) := by
  rcases h with ⟨rfl, rfl⟩ | h
  · exact Or.inr ⟨by decide, by decide, by decide, by decide, by decide⟩
  · have hd : den Q = Q := by unfold den; rw [if_neg (by omega)]
    rw [hd]; exact Or.inr h

theorem add_box {P Q P' Q' : Int} : mk (P * den Q' + P' * den Q) (den Q * den Q') = box (val P Q + val P' Q') := by
  have h1 := den_pos Q
  have h2 := den_pos Q'
  rw [mk_box (Int.mul_ne_zero (by omega) (by omega)), val, val, Rat.divInt_add_divInt _ _ (by omega) (by omega)]

theorem mul_box {P Q P' Q' : Int} : mk (P * P') (den Q * den Q') = box (val P Q * val P' Q') := by
  have h1 := den_pos Q
  have h2 := den_pos Q'
  rw [mk_box (Int.mul_ne_zero (by omega) (by omega)), val, val, Rat.divInt_mul_divInt]

theorem val_neg {P Q : Int} : val (-P) Q = -val P Q := by
  unfold val; rw [Rat.neg_divInt]

theorem Ok.neg {P Q : Int} (h : Ok P Q) : Ok (-P) Q := by
  rcases h with ⟨rfl, rfl⟩ | ⟨h1, h2, h3, h4, h5⟩
  · exact Or.inl ⟨rfl, rfl⟩
  · exact Or.inr ⟨h1, h2, by omega, by omega, by rw [Int.natAbs_neg]; exact h5⟩

theorem Ok.neg_iff {P Q : Int} : Ok (-P) Q ↔ Ok P Q :=
  ⟨fun h => by simpa using h.neg, Ok.neg⟩

theorem lt_val {P Q P' Q' : Int} (h : Ok P Q) (h' : Ok P' Q') : val P Q < val P' Q' ↔ P * den Q' < P' * den Q := by
  obtain ⟨h1, h2⟩ := num_den h
  obtain ⟨h3, h4⟩ := num_den h'
  rw [Rat.lt_iff, h1, h2, h3, h4]

theorem eq_val {P Q P' Q' : Int} (h : Ok P Q) (h' : Ok P' Q') (he : val P Q = val P' Q') : P = P' ∧ den Q = den Q' := by
  obtain ⟨h1, h2⟩ := num_den h
  obtain ⟨h3, h4⟩ := num_den h'
  rw [he] at h1 h2
  exact ⟨h1.symm.trans h3, h2.symm.trans h4⟩

/-- The sign of a comparison. -/
def sgn (x y : Int) : Int := if x < y then -1 else if y < x then 1 else 0

/-- What `Compare` answers for valid fractions. -/
def cmp (r s : Rat) : Int := if r < s then -1 else if s < r then 1 else 0

theorem cmp_val {P Q P' Q' : Int} (h : Ok P Q) (h' : Ok P' Q') : sgn (P * den Q') (P' * den Q) = cmp (val P Q) (val P' Q') := by
  unfold sgn cmp
  simp only [lt_val h h', lt_val h' h]

theorem floor_val {P Q : Int} (h : Ok P Q) : (val P Q).floor = P / den Q := by
  obtain ⟨h1, h2⟩ := num_den h
  rw [Rat.floor_def, h1, h2]

theorem Ok.not_both {P Q : Int} (h : Ok P Q) : ¬ (P.natAbs = 2147483648 ∧ den Q = 2147483648) := by
  rintro ⟨h1, h2⟩
  have := h.gcd
  rw [h1, h2] at this
  exact absurd this (by decide)

theorem prod_le {a b : Int} (ha : -2147483648 ≤ a ∧ a ≤ 2147483648) (hb : -2147483648 ≤ b ∧ b ≤ 2147483648) :
    (a * b).natAbs ≤ 4611686018427387904 := by
  rw [Int.natAbs_mul]
  calc a.natAbs * b.natAbs ≤ 2147483648 * 2147483648 := Nat.mul_le_mul (by omega) (by omega)
    _ = _ := by decide

theorem prod_lt {a b : Int} (ha : -2147483648 ≤ a ∧ a ≤ 2147483648) (hb : -2147483648 ≤ b ∧ b ≤ 2147483648)
    (h : ¬ (a.natAbs = 2147483648 ∧ b.natAbs = 2147483648)) : (a * b).natAbs ≤ 4611686016279904256 := by
  rw [Int.natAbs_mul]
  by_cases h1 : a.natAbs = 2147483648
  · calc a.natAbs * b.natAbs ≤ 2147483648 * 2147483647 := Nat.mul_le_mul (by omega) (by omega)
      _ = _ := by decide
  · calc a.natAbs * b.natAbs ≤ 2147483647 * 2147483648 := Nat.mul_le_mul (by omega) (by omega)
      _ = _ := by decide

/-- A sum of two products of valid fractions' numbers stays an integer of 64 bits. -/
theorem sum_lt {P Q P' Q' : Int} (h : Ok P Q) (h' : Ok P' Q') :
    (P * den Q' + P' * den Q).natAbs < 9223372036854775808 := by
  have b1 := h.bounds
  have b2 := h'.bounds
  have d1 := h.den_le
  have d2 := h'.den_le
  have p1 := den_pos Q
  have p2 := den_pos Q'
  have n1 := h.not_both
  have n2 := h'.not_both
  by_cases hx : P.natAbs = 2147483648 ∧ (den Q').natAbs = 2147483648
  · have t : (P' * den Q).natAbs ≤ 4611686016279904256 := prod_lt (by omega) (by omega) (by omega)
    have s : (P * den Q').natAbs ≤ 4611686018427387904 := prod_le (by omega) (by omega)
    omega
  · have t : (P * den Q').natAbs ≤ 4611686016279904256 := prod_lt (by omega) (by omega) hx
    have s : (P' * den Q).natAbs ≤ 4611686018427387904 := prod_le (by omega) (by omega)
    omega

end Go.Proofs.YtkenfgifhebnpaaDoor.Rt
