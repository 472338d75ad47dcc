import Derived.Test.YtcejokbbiinbkaaDoorJRatioText

section
/- Plain mathematics: the laws of sums, products and the order of fractions of limited size. -/

namespace Go.Proofs.YtcejokbbiinbkaaDoor.Rt

def add3 (P Q P' Q' : Int) : Tri := if Ok P Q ∧ Ok P' Q' then box (val P Q + val P' Q') else (0, 0, 1)
def sub3 (P Q P' Q' : Int) : Tri := if Ok P Q ∧ Ok P' Q' then box (val P Q - val P' Q') else (0, 0, 1)
def mul3 (P Q P' Q' : Int) : Tri := if Ok P Q ∧ Ok P' Q' then box (val P Q * val P' Q') else (0, 0, 1)
def cmp3 (P Q P' Q' : Int) : Int := if Ok P Q ∧ Ok P' Q' then cmp (val P Q) (val P' Q') else 0
def flo (P Q : Int) : Int := if Ok P Q then P / den Q else 0

theorem add3_ok {P Q P' Q' : Int} (h : Ok P Q) (h' : Ok P' Q') : add3 P Q P' Q' = box (val P Q + val P' Q') := if_pos ⟨h, h'⟩
theorem sub3_ok {P Q P' Q' : Int} (h : Ok P Q) (h' : Ok P' Q') : sub3 P Q P' Q' = box (val P Q - val P' Q') := if_pos ⟨h, h'⟩
theorem mul3_ok {P Q P' Q' : Int} (h : Ok P Q) (h' : Ok P' Q') : mul3 P Q P' Q' = box (val P Q * val P' Q') := if_pos ⟨h, h'⟩
theorem cmp3_ok {P Q P' Q' : Int} (h : Ok P Q) (h' : Ok P' Q') : cmp3 P Q P' Q' = cmp (val P Q) (val P' Q') := if_pos ⟨h, h'⟩
theorem flo_ok {P Q : Int} (h : Ok P Q) : flo P Q = P / den Q := if_pos h

theorem sub3_neg (P Q P' Q' : Int) : sub3 P Q P' Q' = add3 P Q (-P') Q' := by
  unfold sub3 add3
  rw [val_neg, Rat.sub_eq_add_neg]
  by_cases h : Ok P Q ∧ Ok P' Q'
  · rw [if_pos h, if_pos ⟨h.1, h.2.neg⟩]
  · rw [if_neg h, if_neg fun k => h ⟨k.1, Ok.neg_iff.1 k.2⟩]

/-- How a sum, a difference or a product of valid fractions ends. -/
theorem box_ends (r : Rat) : (∃ P Q, box r = (P, Q, 0) ∧ Ok P Q ∧ 1 ≤ Q ∧ val P Q = r) ∨ box r = (0, 0, 5) := by
  rcases box_err (r := r) with h | h
  · left
    obtain ⟨P, Q, e, hb⟩ : ∃ P Q e, box r = (P, Q, e) := ⟨_, _, _, rfl⟩
    rw [hb] at h
    simp only at h
    subst h
    exact ⟨P, Q, hb, box_ok hb⟩
  · exact Or.inr h

theorem add3_comm (P Q P' Q' : Int) : add3 P Q P' Q' = add3 P' Q' P Q := by
  unfold add3
  rw [Rat.add_comm]
  by_cases h : Ok P Q ∧ Ok P' Q'
  · rw [if_pos h, if_pos ⟨h.2, h.1⟩]
  · rw [if_neg h, if_neg fun k => h ⟨k.2, k.1⟩]

theorem mul3_comm (P Q P' Q' : Int) : mul3 P Q P' Q' = mul3 P' Q' P Q := by
  unfold mul3
  rw [Rat.mul_comm]
  by_cases h : Ok P Q ∧ Ok P' Q'
  · rw [if_pos h, if_pos ⟨h.2, h.1⟩]
  · rw [if_neg h, if_neg fun k => h ⟨k.2, k.1⟩]

variable {A A' B B' C C' D D' E E' F F' G G' : Int}

theorem add3_val (hA : Ok A A') (hB : Ok B B') (h : add3 A A' B B' = (D, D', 0)) : Ok D D' ∧ 1 ≤ D' ∧ val D D' = val A A' + val B B' := by
  rw [add3_ok hA hB] at h; exact box_ok h
theorem sub3_val (hA : Ok A A') (hB : Ok B B') (h : sub3 A A' B B' = (D, D', 0)) : Ok D D' ∧ 1 ≤ D' ∧ val D D' = val A A' - val B B' := by
  rw [sub3_ok hA hB] at h; exact box_ok h
theorem mul3_val (hA : Ok A A') (hB : Ok B B') (h : mul3 A A' B B' = (D, D', 0)) : Ok D D' ∧ 1 ≤ D' ∧ val D D' = val A A' * val B B' := by
  rw [mul3_ok hA hB] at h; exact box_ok h

theorem add3_assoc (hA : Ok A A') (hB : Ok B B') (hC : Ok C C') (h : add3 A A' B B' = (D, D', 0)) (k : add3 B B' C C' = (E, E', 0)) :
    add3 D D' C C' = add3 A A' E E' := by
  obtain ⟨h1, -, h2⟩ := add3_val hA hB h
  obtain ⟨k1, -, k2⟩ := add3_val hB hC k
  rw [add3_ok h1 hC, add3_ok hA k1, h2, k2, Rat.add_assoc]

theorem mul3_assoc (hA : Ok A A') (hB : Ok B B') (hC : Ok C C') (h : mul3 A A' B B' = (D, D', 0)) (k : mul3 B B' C C' = (E, E', 0)) :
    mul3 D D' C C' = mul3 A A' E E' := by
  obtain ⟨h1, -, h2⟩ := mul3_val hA hB h
  obtain ⟨k1, -, k2⟩ := mul3_val hB hC k
  rw [mul3_ok h1 hC, mul3_ok hA k1, h2, k2, Rat.mul_assoc]

theorem cmp_self (r : Rat) : cmp r r = 0 := by
  unfold cmp; rw [if_neg Rat.lt_irrefl, if_neg Rat.lt_irrefl]

theorem back_again (hA : Ok A A') (hB : Ok B B') (h : add3 A A' B B' = (D, D', 0)) :
    sub3 D D' B B' = (A, den A', 0) ∧ cmp3 A (den A') A A' = 0 := by
  obtain ⟨h1, -, h2⟩ := add3_val hA hB h
  constructor
  · rw [sub3_ok h1 hB, h2, Rat.sub_eq_add_neg, Rat.add_assoc, ← Rat.sub_eq_add_neg, Rat.sub_self, Rat.add_zero, box_val hA]
  · rw [cmp3_ok hA.den' hA, val_den, cmp_self]

theorem distributes (hA : Ok A A') (hB : Ok B B') (hC : Ok C C') (h1 : mul3 A A' B B' = (D, D', 0)) (h2 : mul3 A A' C C' = (E, E', 0))
    (h3 : add3 B B' C C' = (F, F', 0)) : mul3 A A' F F' = add3 D D' E E' := by
  obtain ⟨d1, -, d2⟩ := mul3_val hA hB h1
  obtain ⟨e1, -, e2⟩ := mul3_val hA hC h2
  obtain ⟨f1, -, f2⟩ := add3_val hB hC h3
  rw [mul3_ok hA f1, add3_ok d1 e1, d2, e2, f2, Rat.mul_add]

/-! ### The order -/

theorem cmp_opp (r s : Rat) : cmp r s = -cmp s r := by
  unfold cmp
  by_cases h1 : r < s
  · rw [if_pos h1, if_neg (Rat.not_lt.2 (Rat.le_of_lt h1)), if_pos h1]
  · by_cases h2 : s < r
    · rw [if_neg h1, if_pos h2, if_pos h2]; rfl
    · rw [if_neg h1, if_neg h2, if_neg h2, if_neg h1]; rfl

theorem cmp3_opp (P Q P' Q' : Int) : cmp3 P Q P' Q' = -cmp3 P' Q' P Q := by
  unfold cmp3
  rw [cmp_opp]
  by_cases h : Ok P Q ∧ Ok P' Q'
  · rw [if_pos h, if_pos ⟨h.2, h.1⟩]
  · rw [if_neg h, if_neg fun k => h ⟨k.2, k.1⟩]; rfl

theorem cmp3_self (P Q : Int) : cmp3 P Q P Q = 0 := by
  unfold cmp3; rw [cmp_self, ite_self]

theorem cmp_values (r s : Rat) : cmp r s = -1 ∨ cmp r s = 0 ∨ cmp r s = 1 := by
  unfold cmp; split
  · exact Or.inl rfl
  · split
    · exact Or.inr (Or.inr rfl)
    · exact Or.inr (Or.inl rfl)

theorem cmp3_values (P Q P' Q' : Int) : cmp3 P Q P' Q' = -1 ∨ cmp3 P Q P' Q' = 0 ∨ cmp3 P Q P' Q' = 1 := by
  unfold cmp3; split
  · exact cmp_values _ _
  · exact Or.inr (Or.inl rfl)

theorem cmp_lt (r s : Rat) : cmp r s < 0 ↔ r < s := by
  unfold cmp
  by_cases h1 : r < s
  · rw [if_pos h1]; simp [h1]
  · rw [if_neg h1]; simp only [h1, iff_false]; split <;> decide

theorem cmp_zero (r s : Rat) : cmp r s = 0 ↔ r = s := by
  unfold cmp
  by_cases h1 : r < s
  · rw [if_pos h1]
    refine ⟨fun h => absurd h (by decide), ?_⟩
    rintro rfl
    exact absurd h1 Rat.lt_irrefl
  · by_cases h2 : s < r
    · rw [if_neg h1, if_pos h2]
      refine ⟨fun h => absurd h (by decide), ?_⟩
      rintro rfl
      exact absurd h2 Rat.lt_irrefl
    · rw [if_neg h1, if_neg h2]
      exact ⟨fun _ => Rat.le_antisymm (Rat.not_lt.1 h2) (Rat.not_lt.1 h1), fun _ => rfl⟩

theorem sub_neg_iff (r s : Rat) : r - s < 0 ↔ r < s := by
  constructor
  · intro h
    have := (Rat.add_lt_add_right (c := s)).2 h
    rwa [Rat.sub_add_cancel, Rat.zero_add] at this
  · intro h
    have := (Rat.add_lt_add_right (c := -s)).2 h
    rwa [← Rat.sub_eq_add_neg, ← Rat.sub_eq_add_neg, Rat.sub_self] at this

theorem sub_zero_iff (r s : Rat) : r - s = 0 ↔ r = s := by
  constructor
  · intro h
    have : r - s + s = 0 + s := by rw [h]
    rwa [Rat.sub_add_cancel, Rat.zero_add] at this
  · rintro rfl; exact Rat.sub_self

theorem val_sign {P Q : Int} (h : Ok P Q) : (val P Q = 0 ↔ P = 0) ∧ (val P Q < 0 ↔ P < 0) := by
  obtain ⟨h1, h2⟩ := num_den h
  constructor
  · rw [← Rat.num_eq_zero, h1]
  · rw [← Rat.not_le, ← Rat.num_nonneg, h1]; omega

theorem order_sub (hA : Ok A A') (hB : Ok B B') (h : sub3 A A' B B' = (D, D', 0)) :
    (cmp3 A A' B B' = 0 ↔ D = 0) ∧ (cmp3 A A' B B' < 0 ↔ D < 0) := by
  obtain ⟨h1, -, h2⟩ := sub3_val hA hB h
  obtain ⟨s1, s2⟩ := val_sign h1
  rw [cmp3_ok hA hB, cmp_zero, cmp_lt, ← s1, ← s2, h2, sub_zero_iff, sub_neg_iff]
  exact ⟨Iff.rfl, Iff.rfl⟩

theorem cmp_add (r s t : Rat) : cmp (r + t) (s + t) = cmp r s := by
  unfold cmp
  simp only [Rat.add_lt_add_right]

theorem order_add (hA : Ok A A') (hB : Ok B B') (hC : Ok C C') (h : add3 A A' C C' = (D, D', 0)) (k : add3 B B' C C' = (E, E', 0)) :
    cmp3 D D' E E' = cmp3 A A' B B' := by
  obtain ⟨h1, -, h2⟩ := add3_val hA hC h
  obtain ⟨k1, -, k2⟩ := add3_val hB hC k
  rw [cmp3_ok h1 k1, cmp3_ok hA hB, h2, k2, cmp_add]

theorem flo_bounds (h : Ok A A') : -2147483648 ≤ flo A A' ∧ flo A A' ≤ 2147483648 := by
  rw [flo_ok h]
  have hb := h.bounds
  have hd := den_pos A'
  constructor
  · have : (-2147483648 : Int) ≤ A / den A' := by
      rw [Int.le_ediv_iff_mul_le (by omega)]
      have : (-2147483648 : Int) * den A' ≤ -2147483648 * 1 := by omega
      omega
    exact this
  · by_cases h0 : 0 ≤ A
    · have := Int.ediv_le_self (den A') h0; omega
    · have : A / den A' < 0 := Int.ediv_neg_of_neg_of_pos (by omega) (by omega)
      omega

theorem mk_one {k : Int} (h1 : -2147483648 ≤ k) (h2 : k ≤ 2147483648) : mk k 1 = (k, 1, 0) ∧ Ok k 1 := by
  have ho : Ok k 1 := Or.inr ⟨by decide, by decide, h1, h2, Nat.gcd_one_right _⟩
  refine ⟨?_, ho⟩
  rcases mk_self.2 ho with h | h
  · exact absurd h.2 (by decide)
  · exact h

theorem mk_big {k : Int} (h : 2147483648 < k) : mk k 1 = (0, 0, 5) := by
  unfold mk
  rw [if_neg (by decide), if_pos]
  left
  simp
  omega

theorem floor_le (h : Ok A A') : ¬ 0 < cmp3 (flo A A') 1 A A' := by
  obtain ⟨b1, b2⟩ := flo_bounds h
  obtain ⟨-, ho⟩ := mk_one b1 b2
  rw [cmp3_ok ho h, ← cmp_val ho h, flo_ok h]
  unfold sgn
  have h1 := Int.ediv_mul_le A (b := den A') (by have := den_pos A'; omega)
  have h2 : den 1 = 1 := rfl
  rw [h2, Int.mul_one]
  split
  · decide
  · split
    · omega
    · decide

theorem floor_lt (h : Ok A A') (ho : Ok (flo A A' + 1) 1) : cmp3 A A' (flo A A' + 1) 1 = -1 := by
  rw [cmp3_ok h ho, ← cmp_val h ho, flo_ok h]
  unfold sgn
  have h1 := Int.lt_ediv_add_one_mul_self A (b := den A') (by have := den_pos A'; omega)
  have h2 : den 1 = 1 := rfl
  rw [h2, Int.mul_one, if_pos h1]

/-- The number above the floor, as a fraction: in range, or too big. -/
theorem above_ends (h : Ok A A') : (mk (flo A A' + 1) 1 = (flo A A' + 1, 1, 0) ∧ cmp3 A A' (flo A A' + 1) 1 = -1) ∨ mk (flo A A' + 1) 1 = (0, 0, 5) := by
  obtain ⟨b1, b2⟩ := flo_bounds h
  by_cases hk : flo A A' + 1 ≤ 2147483648
  · obtain ⟨h1, ho⟩ := mk_one (k := flo A A' + 1) (by omega) hk
    exact Or.inl ⟨h1, floor_lt h ho⟩
  · exact Or.inr (mk_big (by omega))

/-! ### Texts -/

theorem text_ok (h : Ok A A') : text A A' = txt A A' := if_pos h

theorem read_back (h : Ok A A') : prs (text A A') = (A, den A', 0) ∧ cmp3 A (den A') A A' = 0 ∧ text A (den A') = text A A' ∧ Ok A (den A') := by
  refine ⟨?_, ?_, ?_, h.den'⟩
  · rw [text_ok h, ← txt_den, prs_txt h.den' (den_pos A')]
  · rw [cmp3_ok h.den' h, val_den, cmp_self]
  · rw [text_ok h, text_ok h.den', txt_den]

theorem text_same (h : Ok A A') (k : Ok B B') : text A A' = text B B' ↔ cmp3 A A' B B' = 0 := by
  rw [text_ok h, text_ok k, cmp3_ok h k, cmp_zero, txt_val h k]

theorem text_ne (h : Ok A A') : text A A' ≠ [] := by rw [text_ok h]; exact txt_ne _ _

/-! ### How the calls reckon -/

/-- Q of a fraction with a positive denominator, where it is valid. -/
def opd (P Q : Int) : Int := if P = 0 ∧ Q = 0 then 1 else Q

theorem opd_ok {P Q : Int} : Ok P (opd P Q) ↔ Ok P Q := by
  unfold opd
  by_cases h : P = 0 ∧ Q = 0
  · rw [if_pos h]
    obtain ⟨rfl, rfl⟩ := h
    exact ⟨fun _ => Or.inl ⟨rfl, rfl⟩, fun _ => Or.inr ⟨by decide, by decide, by decide, by decide, by decide⟩⟩
  · rw [if_neg h]

theorem opd_den {P Q : Int} (h : Ok P Q) : opd P Q = den Q := by
  unfold opd den
  by_cases h' : P = 0 ∧ Q = 0
  · rw [if_pos h', if_pos (by omega)]
  · rw [if_neg h', if_neg]
    rcases h with h | h
    · exact absurd h h'
    · omega

theorem valid_iff {P Q : Int} : ((P = 0 ∧ Q = 0) ∨ ((mk P Q).2.2 = 0 ∧ P = (mk P Q).1 ∧ Q = (mk P Q).2.1)) ↔ Ok P Q := by
  rw [← mk_self]
  constructor
  · rintro (h | ⟨h1, h2, h3⟩)
    · exact Or.inl h
    · right
      obtain ⟨a, b, c, hm⟩ : ∃ a b c, mk P Q = (a, b, c) := ⟨_, _, _, rfl⟩
      rw [hm] at h1 h2 h3
      simp only at h1 h2 h3
      rw [hm, h1, ← h2, ← h3]
  · rintro (h | h)
    · exact Or.inl h
    · right; rw [h]; exact ⟨rfl, rfl, rfl⟩

theorem tdiv_floor {P q : Int} (hq : 1 ≤ q) : (if P < P.tdiv q * q then P.tdiv q - 1 else P.tdiv q) = P / q := by
  have h1 := Int.mul_ediv_add_emod P q
  have h2 := Int.emod_nonneg P (b := q) (by omega)
  have h3 := Int.emod_lt_of_pos P (b := q) (by omega)
  have h4 := Int.mul_tdiv_add_tmod P q
  rcases (Int.lt_or_le P 0).symm with h | h
  · rw [Int.tdiv_eq_ediv_of_nonneg h, if_neg]
    have := Int.ediv_mul_le P (b := q) (by omega)
    omega
  · rw [Int.tdiv_eq_ediv]
    by_cases hd : q ∣ P
    · rw [if_pos (Or.inr hd), Int.add_zero, if_neg]
      have := Int.ediv_mul_le P (b := q) (by omega)
      omega
    · have e : ¬ (0 ≤ P ∨ q ∣ P) := fun h' => h'.elim (fun h' => by omega) hd
      rw [if_neg e, Int.sign_eq_one_of_pos (by omega), if_pos]
      · omega
      · rw [Int.add_mul]
        have := Int.lt_ediv_add_one_mul_self P (b := q) (by omega)
        rw [Int.add_mul] at this
        exact this

theorem neg_floor {P q : Int} (hq : 1 ≤ q) (hP : P < 0) : -((-P + q - 1).tdiv q) = P / q := by
  rw [Int.tdiv_eq_ediv_of_nonneg (by omega)]
  have h1 := Int.mul_ediv_add_emod P q
  have h2 := Int.emod_nonneg P (b := q) (by omega)
  have h3 := Int.emod_lt_of_pos P (b := q) (by omega)
  generalize P / q = a at *
  generalize P % q = b at *
  have : -P + q - 1 = (q - 1 - b) + q * (-a) := by
    rw [Int.mul_neg]; omega
  rw [this, Int.add_mul_ediv_left _ _ (by omega), Int.ediv_eq_zero_of_lt (by omega) (by omega)]
  omega

/-- The specification divides the denominators by their common divisor. -/
theorem add_gcd {P Q P' Q' : Int} (g : Nat) (hg : g = Nat.gcd (den Q).natAbs (den Q').natAbs) :
    mk (P * (den Q' / g) + P' * (den Q / g)) (den Q / g * (den Q' / g) * g) = box (val P Q + val P' Q') := by
  have d1 := den_pos Q
  have d2 := den_pos Q'
  have hgp : 0 < g := by rw [hg]; exact Nat.gcd_pos_of_pos_left _ (by omega)
  have e1 : (g : Int) ∣ den Q := by
    rw [hg]; have := Nat.gcd_dvd_left (den Q).natAbs (den Q').natAbs
    exact Int.dvd_natAbs.1 (Int.ofNat_dvd.2 this)
  have e2 : (g : Int) ∣ den Q' := by
    rw [hg]; have := Nat.gcd_dvd_right (den Q).natAbs (den Q').natAbs
    exact Int.dvd_natAbs.1 (Int.ofNat_dvd.2 this)
  have f1 := Int.ediv_mul_cancel e1
  have f2 := Int.ediv_mul_cancel e2
  rw [← add_box, ← mk_scale (c := (g : Int)) (by omega)]
  generalize den Q / g = x at *
  generalize den Q' / g = y at *
  congr 1
  · rw [← f1, ← f2]; grind
  · rw [← f1, ← f2]; grind

end Go.Proofs.YtcejokbbiinbkaaDoor.Rt
end

