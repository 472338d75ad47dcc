/- Plain mathematics of days: the days before a year and before a month of it, the one date of a day. -/
import Derived.Tactics
namespace Go.Proofs.YtkenfgifhebnpaaDoor
set_option linter.unusedVariables false
namespace Cal

def yd (y : Nat) : Nat := if y % 400 = 0 ∨ (y % 4 = 0 ∧ y % 100 ≠ 0) then 366 else 365
def md (y m : Nat) : Nat := if m = 2 then yd y - 337 else if m = 4 ∨ m = 6 ∨ m = 9 ∨ m = 11 then 30 else 31
/-- The days of the years from 1600 on, k of them; the days of the months of a year, k of them. -/
def bY : Nat → Nat
  | 0 => 0
  | k + 1 => bY k + yd (1600 + k)
def bM (y : Nat) : Nat → Nat
  | 0 => 0
  | k + 1 => bM y k + md y (k + 1)
theorem yd_two (y : Nat) : yd y = 365 ∨ yd y = 366 := by unfold yd; split <;> simp
theorem md_pos (y m : Nat) : 28 ≤ md y m ∧ md y m ≤ 31 := by
  have := yd_two y
  unfold md
  split
  · omega
  · split <;> omega
theorem bY_form (k : Nat) : bY k + (k + 99) / 100 = 365 * k + (k + 3) / 4 + (k + 399) / 400 := by
  induction k with
  | zero => rfl
  | succ k ih =>
    unfold bY yd
    split <;> omega
theorem bY_800 : bY 800 = 292194 := by have := bY_form 800; omega
theorem bM_12 (y : Nat) : bM y 12 = yd y := by
  have := yd_two y
  simp only [bM, md]
  simp
  omega
theorem bracket (f : Nat → Nat) (t : Nat) : ∀ n, f 0 ≤ t → t < f n → ∃ k, k < n ∧ f k ≤ t ∧ t < f (k + 1) := by
  intro n
  induction n with
  | zero => intro h0 hn; omega
  | succ n ih =>
    intro h0 hn
    by_cases h : t < f n
    · obtain ⟨k, h1, h2⟩ := ih h0 h
      exact ⟨k, by omega, h2⟩
    · exact ⟨n, by omega, by omega, hn⟩
theorem rising (f : Nat → Nat) (h : ∀ k, f k ≤ f (k + 1)) : ∀ i j, i ≤ j → f i ≤ f j := by
  intro i j hij
  induction j with
  | zero => rw [show i = 0 by omega]; exact Nat.le_refl _
  | succ j ih =>
    by_cases e : i = j + 1
    · rw [e]; exact Nat.le_refl _
    · exact Nat.le_trans (ih (by omega)) (h j)
theorem bY_mono {i j : Nat} (h : i ≤ j) : bY i ≤ bY j := rising bY (fun k => by show bY k ≤ bY k + _; omega) i j h
theorem bM_mono (y : Nat) {i j : Nat} (h : i ≤ j) : bM y i ≤ bM y j := rising (bM y) (fun k => by show bM y k ≤ bM y k + _; omega) i j h
theorem bY_le (k : Nat) (h : k ≤ 800) : bY k ≤ 292194 := by rw [← bY_800]; exact bY_mono h

/-- The date of the day t, counted from the first of January 1600 on: the year's number k behind 1600, the month, the day of the month. -/
structure Civ (t k m d : Nat) : Prop where
  kl : k < 800
  m1 : 1 ≤ m
  m12 : m ≤ 12
  d1 : 1 ≤ d
  dm : d ≤ md (1600 + k) m
  te : t = bY k + bM (1600 + k) (m - 1) + (d - 1)
theorem civ_exists {t : Nat} (h : t < 292194) : ∃ k m d, Civ t k m d := by
  obtain ⟨k, h1, h2, h3⟩ := bracket bY t 800 (Nat.zero_le _) (by rw [bY_800]; exact h)
  have h4 : t - bY k < bM (1600 + k) 12 := by
    have h6 : bY (k + 1) = bY k + yd (1600 + k) := rfl
    rw [bM_12]; omega
  obtain ⟨m, m1, m2, m3⟩ := bracket (bM (1600 + k)) (t - bY k) 12 (Nat.zero_le _) h4
  refine ⟨k, m + 1, t - bY k - bM (1600 + k) m + 1, h1, by omega, by omega, by omega, ?_, ?_⟩
  · have h6 : bM (1600 + k) (m + 1) = bM (1600 + k) m + md (1600 + k) (m + 1) := rfl
    omega
  · simp only [Nat.add_sub_cancel]; omega
theorem Civ.year {t k m d : Nat} (h : Civ t k m d) : bY k ≤ t ∧ t < bY (k + 1) := by
  have h1 := bM_mono (1600 + k) h.m12
  have h2 : bM (1600 + k) m = bM (1600 + k) (m - 1) + md (1600 + k) m := by
    obtain ⟨j, rfl⟩ : ∃ j, m = j + 1 := ⟨m - 1, by have := h.m1; omega⟩
    rfl
  rw [bM_12] at h1
  have h3 := h.te
  have h4 := h.dm
  have h5 := h.d1
  have h6 : bY (k + 1) = bY k + yd (1600 + k) := rfl
  omega
theorem Civ.month {t k m d : Nat} (h : Civ t k m d) : bM (1600 + k) (m - 1) ≤ t - bY k ∧ t - bY k < bM (1600 + k) m := by
  have h2 : bM (1600 + k) m = bM (1600 + k) (m - 1) + md (1600 + k) m := by
    obtain ⟨j, rfl⟩ : ∃ j, m = j + 1 := ⟨m - 1, by have := h.m1; omega⟩
    rfl
  have h3 := h.te
  have h4 := h.dm
  have h5 := h.d1
  omega
theorem Civ.lt {t k m d : Nat} (h : Civ t k m d) : t < 292194 := by
  have h1 := h.year
  have h2 := bY_mono (i := k + 1) (j := 800) (by have := h.kl; omega)
  rw [bY_800] at h2
  omega
theorem civ_unique {t k m d k' m' d' : Nat} (h : Civ t k m d) (h' : Civ t k' m' d') : k = k' ∧ m = m' ∧ d = d' := by
  have y1 := h.year
  have y2 := h'.year
  have hk : k = k' := by
    rcases Nat.lt_trichotomy k k' with c | c | c
    · have := bY_mono (i := k + 1) (j := k') (by omega); omega
    · exact c
    · have := bY_mono (i := k' + 1) (j := k) (by omega); omega
  subst hk
  have m1 := h.month
  have m2 := h'.month
  have hm : m = m' := by
    rcases Nat.lt_trichotomy m m' with c | c | c
    · have := bM_mono (1600 + k) (i := m) (j := m' - 1) (by omega); omega
    · exact c
    · have := bM_mono (1600 + k) (i := m') (j := m - 1) (by omega); omega
  subst hm
  refine ⟨rfl, rfl, ?_⟩
  have t1 := h.te
  have t2 := h'.te
  have d1 := h.d1
  have d2 := h'.d1
  omega
theorem civ_day {k m d : Nat} (hk : k < 800) (m1 : 1 ≤ m) (m2 : m ≤ 12) (d1 : 1 ≤ d) (d2 : d ≤ md (1600 + k) m) : Civ (bY k + bM (1600 + k) (m - 1) + (d - 1)) k m d := ⟨hk, m1, m2, d1, d2, rfl⟩
open Classical in
noncomputable def cK (t : Nat) : Nat := if h : ∃ k m d, Civ t k m d then h.choose else 0
open Classical in
noncomputable def cM (t : Nat) : Nat := if h : ∃ k m d, Civ t k m d then h.choose_spec.choose else 0
open Classical in
noncomputable def cD (t : Nat) : Nat := if h : ∃ k m d, Civ t k m d then h.choose_spec.choose_spec.choose else 0
theorem civ_spec {t : Nat} (h : t < 292194) : Civ t (cK t) (cM t) (cD t) := by
  have e := civ_exists h
  unfold cK cM cD
  rw [dif_pos e, dif_pos e, dif_pos e]
  exact e.choose_spec.choose_spec.choose_spec
theorem civ_is {t k m d : Nat} (h : Civ t k m d) : cK t = k ∧ cM t = m ∧ cD t = d := civ_unique (civ_spec h.lt) h

/-- The days before a year, before a month of it. -/
def yb (y : Nat) : Nat := bY (y - 1600)
def mb (y m : Nat) : Nat := bM y (m - 1)
theorem yb_start : yb 1600 = 0 := rfl
theorem mb_start (y : Nat) : mb y 1 = 0 := rfl
theorem yb_of (k : Nat) : yb (1600 + k) = bY k := by unfold yb; rw [Nat.add_sub_cancel_left]
theorem yb_next {y : Nat} (h : 1600 ≤ y) : yb (y + 1) = yb y + yd y := by
  obtain ⟨j, rfl⟩ : ∃ j, y = 1600 + j := ⟨y - 1600, by omega⟩
  rw [show 1600 + j + 1 = 1600 + (j + 1) by omega, yb_of, yb_of]
  rfl
theorem mb_next (y : Nat) {m : Nat} (h : 1 ≤ m) : mb y (m + 1) = mb y m + md y m := by
  obtain ⟨j, rfl⟩ : ∃ j, m = j + 1 := ⟨m - 1, by omega⟩
  rfl
theorem yb_mono {i j : Nat} (h : i ≤ j) : yb i ≤ yb j := bY_mono (by omega)
theorem mb_mono (y : Nat) {i j : Nat} (h : i ≤ j) : mb y i ≤ mb y j := bM_mono y (by omega)

/-- A known day; its date; the day of a date. -/
def known (n : Int) : Prop := -146097 ≤ n ∧ n ≤ 146096
instance (n : Int) : Decidable (known n) := by unfold known; exact inferInstance
noncomputable def cy (n : Int) : Int := if known n then 1600 + (cK (n + 146097).toNat : Int) else 0
noncomputable def cm (n : Int) : Int := if known n then (cM (n + 146097).toNat : Int) else 0
noncomputable def cd (n : Int) : Int := if known n then (cD (n + 146097).toNat : Int) else 0
def okD (y m d : Int) : Prop := 1600 ≤ y ∧ y ≤ 2399 ∧ 1 ≤ m ∧ m ≤ 12 ∧ 1 ≤ d ∧ d ≤ md y.toNat m.toNat
instance (y m d : Int) : Decidable (okD y m d) := by unfold okD; exact inferInstance
def dayV (y m d : Int) : Int := if okD y m d then -146097 + (bY (y.toNat - 1600) : Int) + (bM y.toNat (m.toNat - 1) : Int) + d - 1 else 0
def dayE (y m d : Int) : Int := if okD y m d then 0 else 5
def wk (n : Int) : Int := if known n then (n + 5) % 7 else 0
/-- The date of a known day is a date, and leads back. -/
theorem day_back {n : Int} (h : known n) : okD (cy n) (cm n) (cd n) ∧ dayV (cy n) (cm n) (cd n) = n := by
  have ht : (n + 146097).toNat < 292194 := by unfold known at h; omega
  have hc := civ_spec ht
  have hk := hc.kl
  have e1 : (1600 + (cK (n + 146097).toNat : Int)).toNat = 1600 + cK (n + 146097).toNat := by omega
  have hok : okD (cy n) (cm n) (cd n) := by
    unfold okD cy cm cd
    rw [if_pos h, if_pos h, if_pos h, e1, Int.toNat_natCast]
    have := hc.m1; have := hc.m12; have := hc.d1; have := hc.dm
    omega
  refine ⟨hok, ?_⟩
  unfold dayV
  rw [if_pos hok]
  unfold cy cm cd
  rw [if_pos h, if_pos h, if_pos h, e1, Int.toNat_natCast, Nat.add_sub_cancel_left]
  have h1 := hc.te
  have h2 := hc.d1
  unfold known at h
  omega
theorem okD_civ {y m d : Int} (h : okD y m d) : Civ (dayV y m d + 146097).toNat (y.toNat - 1600) m.toNat d.toNat ∧ known (dayV y m d) := by
  have e : dayV y m d = -146097 + (bY (y.toNat - 1600) : Int) + (bM y.toNat (m.toNat - 1) : Int) + d - 1 := if_pos h
  unfold okD at h
  have hy : 1600 + (y.toNat - 1600) = y.toNat := by omega
  have hc := civ_day (k := y.toNat - 1600) (m := m.toNat) (d := d.toNat) (by omega) (by omega) (by omega) (by omega) (by rw [hy]; omega)
  rw [hy] at hc
  have et : (dayV y m d + 146097).toNat = bY (y.toNat - 1600) + bM y.toNat (m.toNat - 1) + (d.toNat - 1) := by rw [e]; omega
  rw [et]
  refine ⟨hc, ?_⟩
  have := hc.lt
  unfold known
  omega
/-- A date leads to its day, which has it. -/
theorem civ_back {y m d : Int} (h : okD y m d) : cy (dayV y m d) = y ∧ cm (dayV y m d) = m ∧ cd (dayV y m d) = d := by
  obtain ⟨hc, hk⟩ := okD_civ h
  obtain ⟨h1, h2, h3⟩ := civ_is hc
  unfold cy cm cd
  rw [if_pos hk, if_pos hk, if_pos hk, h1, h2, h3]
  unfold okD at h
  omega
end Cal
end Go.Proofs.YtkenfgifhebnpaaDoor
