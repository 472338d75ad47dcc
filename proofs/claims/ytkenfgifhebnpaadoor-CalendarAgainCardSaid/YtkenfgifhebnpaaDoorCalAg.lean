/- Working days are counted on from one to the next (plain). -/
import Derived.Test.YtkenfgifhebnpaaDoorCalRg
namespace Go.Proofs.YtkenfgifhebnpaaDoor
open Go.RowKit
set_option linter.unusedVariables false

def one (l : List Int) (d : Int) : Nat := if works d l = true then 1 else 0
theorem one_le (l : List Int) (d : Int) : one l d ≤ 1 := by unfold one; split <;> omega
/-- How many of the next k days are working days. -/
def cnt (l : List Int) (s : Int) : Int → Nat → Nat
  | _, 0 => 0
  | d, k + 1 => one l (d + s) + cnt l s (d + s) k
theorem cnt_add (l : List Int) (s : Int) : ∀ (a b : Nat) (d : Int), cnt l s d (a + b) = cnt l s d a + cnt l s (d + s * a) b
  | 0, b, d => by simp [cnt]
  | a + 1, b, d => by
    rw [show a + 1 + b = (a + b) + 1 by omega]
    show one l (d + s) + cnt l s (d + s) (a + b) = one l (d + s) + cnt l s (d + s) a + _
    rw [cnt_add l s a b (d + s), show d + s + s * (a : Int) = d + s * ((a + 1 : Nat) : Int) by rw [Int.natCast_succ, Int.mul_add, Int.mul_one]; omega]
    omega
theorem cnt_last (l : List Int) (s : Int) (k : Nat) (d : Int) : cnt l s d (k + 1) = cnt l s d k + one l (d + s * ((k + 1 : Nat) : Int)) := by
  rw [cnt_add l s k 1 d]
  show cnt l s d k + (one l (d + s * k + s) + 0) = _
  rw [show d + s * (k : Int) + s = d + s * ((k + 1 : Nat) : Int) by rw [Int.natCast_succ, Int.mul_add, Int.mul_one]; omega]
  omega
theorem cnt_back (l : List Int) (s : Int) : ∀ (k : Nat) (d : Int), cnt l (-s) (d + s * k) k + one l (d + s * k) = cnt l s d k + one l d
  | 0, d => by simp [cnt]
  | k + 1, d => by
    rw [cnt_last l s k d]
    have e : d + s * ((k + 1 : Nat) : Int) + -s = d + s * (k : Int) := by rw [Int.natCast_succ, Int.mul_add, Int.mul_one]; omega
    show one l (d + s * ((k + 1 : Nat) : Int) + -s) + cnt l (-s) (d + s * ((k + 1 : Nat) : Int) + -s) k + one l (d + s * ((k + 1 : Nat) : Int)) = _
    rw [e]
    have := cnt_back l s k d
    omega
/-- The walk of n working days is k days long. -/
structure Good (l : List Int) (s d : Int) (n k : Nat) : Prop where
  eq : cnt l s d k = n
  lt : ∀ j, j < k → cnt l s d j < n
  kn : Cal.known (d + s * k)
theorem known_mid {s d : Int} (hs : s = 1 ∨ s = -1) {j k : Nat} (h : Cal.known d) (hk : Cal.known (d + s * k)) (hj : j ≤ k) : Cal.known (d + s * j) := by
  unfold Cal.known at *
  rcases hs with rfl | rfl <;> omega
theorem worked_ok (l : List Int) (s : Int) (hs : s = 1 ∨ s = -1) : ∀ (k f : Nat) (d : Int) (n : Nat), Cal.known d → Good l s d n k → k < f → worked l s f d n = (d + s * k, 0)
  | 0, f, d, n, hd, h, hf => by
    obtain ⟨g, rfl⟩ : ∃ g, f = g + 1 := ⟨f - 1, by omega⟩
    have e : n = 0 := h.eq.symm
    subst e
    rw [worked_end]
    simp
  | k + 1, f, d, n, hd, h, hf => by
    obtain ⟨g, rfl⟩ : ∃ g, f = g + 1 := ⟨f - 1, by omega⟩
    have hn : n ≠ 0 := fun e => by have := h.lt 0 (by omega); omega
    have hk1 := known_mid hs (j := 1) hd h.kn (by omega)
    rw [show d + s * ((1 : Nat) : Int) = d + s by simp] at hk1
    have e1 : one l (d + s) + cnt l s (d + s) k = n := h.eq
    have e2 : (if works (d + s) l = true then n - 1 else n) = n - one l (d + s) := by unfold one; split <;> omega
    have e3 : d + s + s * (k : Int) = d + s * ((k + 1 : Nat) : Int) := by rw [Int.natCast_succ, Int.mul_add, Int.mul_one]; omega
    rw [worked_next l s g d n hn hk1, e2, worked_ok l s hs k g (d + s) (n - one l (d + s)) hk1 ⟨by omega, fun j hj => by
      have h2 : one l (d + s) + cnt l s (d + s) j < n := h.lt (j + 1) (by omega)
      omega, by rw [e3]; exact h.kn⟩ (by omega), e3]
theorem worked_bad (l : List Int) (s : Int) : ∀ (f : Nat) (d : Int) (n : Nat), Cal.known d → ¬ Cal.known (d + s * f) → (∀ k, ¬ Good l s d n k) → worked l s f d n = (0, 5)
  | 0, d, n, hd, hf, h => absurd (by simpa using hd) hf
  | f + 1, d, n, hd, hf, h => by
    have e3 : ∀ k : Nat, d + s + s * (k : Int) = d + s * ((k + 1 : Nat) : Int) := fun k => by rw [Int.natCast_succ, Int.mul_add, Int.mul_one]; omega
    have hn : n ≠ 0 := fun e => h 0 ⟨e.symm, fun j hj => absurd hj (by omega), by simpa using hd⟩
    by_cases hk : Cal.known (d + s)
    · have e2 : (if works (d + s) l = true then n - 1 else n) = n - one l (d + s) := by unfold one; split <;> omega
      rw [worked_next l s f d n hn hk, e2]
      refine worked_bad l s f (d + s) _ hk (by rw [e3]; exact hf) (fun k hg => h (k + 1) ⟨?_, fun j hj => ?_, by rw [← e3]; exact hg.kn⟩)
      · have := hg.eq
        have h1 := one_le l (d + s)
        show one l (d + s) + cnt l s (d + s) k = n
        omega
      · rcases j with _ | j
        · show 0 < n
          omega
        · have h2 := hg.lt j (by omega)
          show one l (d + s) + cnt l s (d + s) j < n
          omega
    · exact worked_out l s f d n hn hk
theorem good_some {l : List Int} {s d : Int} (hs : s = 1 ∨ s = -1) (hd : Cal.known d) {n m k : Nat} (h : Good l s d n k) (hm : m ≤ n) : ∃ j, j ≤ k ∧ Good l s d m j := by
  have step : ∀ i, ∃ j, j ≤ i ∧ (cnt l s d i < m ∨ (cnt l s d j = m ∧ ∀ t, t < j → cnt l s d t < m)) := by
    intro i
    induction i with
    | zero =>
      refine ⟨0, Nat.le_refl _, ?_⟩
      by_cases e : m = 0
      · exact .inr ⟨e.symm, fun t ht => absurd ht (by omega)⟩
      · exact .inl (by show 0 < m; omega)
    | succ i ih =>
      obtain ⟨j, hj, h1 | h1⟩ := ih
      · have h2 := cnt_last l s i d
        have h3 := one_le l (d + s * ((i + 1 : Nat) : Int))
        by_cases e : cnt l s d (i + 1) < m
        · exact ⟨0, Nat.zero_le _, .inl e⟩
        · refine ⟨i + 1, Nat.le_refl _, .inr ⟨by omega, fun t ht => ?_⟩⟩
          have h4 : cnt l s d i = cnt l s d t + cnt l s (d + s * t) (i - t) := by
            rw [← cnt_add l s t (i - t) d, show t + (i - t) = i by omega]
          omega
      · exact ⟨j, by omega, .inr h1⟩
  obtain ⟨j, hj, h1 | ⟨h1, h2⟩⟩ := step k
  · have := h.eq; omega
  · exact ⟨j, hj, h1, h2, known_mid hs hd h.kn hj⟩
theorem good_rest {l : List Int} {s d : Int} {p q k k2 : Nat} (h : Good l s d p k) (h2 : Good l s d (p + q) k2) (hk : k ≤ k2) : Good l s (d + s * k) q (k2 - k) := by
  have e : ∀ j : Nat, cnt l s d (k + j) = p + cnt l s (d + s * k) j := fun j => by rw [cnt_add, h.eq]
  refine ⟨?_, fun j hj => ?_, ?_⟩
  · have := e (k2 - k)
    rw [show k + (k2 - k) = k2 by omega, h2.eq] at this
    omega
  · have := e j
    have h3 := h2.lt (k + j) (by omega)
    omega
  · have h3 := h2.kn
    have e2 : d + s * (k : Int) + s * ((k2 - k : Nat) : Int) = d + s * (k2 : Int) := by
      rw [Int.add_assoc, ← Int.mul_add]
      congr 2
      omega
    rw [e2]
    exact h3
theorem good_le {l : List Int} {s d : Int} {p q k k2 : Nat} (h : Good l s d p k) (h2 : Good l s d (p + q) k2) (hq : 0 < q) : k ≤ k2 := by
  apply Decidable.byContradiction
  intro hc
  have h3 := h.lt k2 (by omega)
  have h4 := h2.eq
  omega
theorem good_works {l : List Int} {s d : Int} {n k : Nat} (h : Good l s d n k) (hn : 0 < n) : works (d + s * k) l = true := by
  have hk : k ≠ 0 := fun e => by have h1 := h.eq; rw [e] at h1; have : cnt l s d 0 = 0 := rfl; omega
  obtain ⟨j, rfl⟩ : ∃ j, k = j + 1 := ⟨k - 1, by omega⟩
  have h1 := h.eq
  have h2 := h.lt j (by omega)
  rw [cnt_last] at h1
  apply Decidable.byContradiction
  intro hw
  have : one l (d + s * ((j + 1 : Nat) : Int)) = 0 := by unfold one; rw [if_neg hw]
  omega
theorem good_back {l : List Int} {s d : Int} {p k : Nat} (hd : Cal.known d) (h : Good l s d p k) (hp : 0 < p) (hw : works d l = true) : Good l (-s) (d + s * k) p k := by
  have h1 : one l d = 1 := by unfold one; rw [if_pos hw]
  have h2 : one l (d + s * k) = 1 := by unfold one; rw [if_pos (good_works h hp)]
  refine ⟨?_, fun j hj => ?_, ?_⟩
  · have := cnt_back l s k d
    have := h.eq
    omega
  · obtain ⟨i, rfl⟩ : ∃ i, k = i + j := ⟨k - j, by omega⟩
    obtain ⟨i', rfl⟩ : ∃ i', i = i' + 1 := ⟨i - 1, by omega⟩
    have e : d + s * ((i' + 1 + j : Nat) : Int) = d + s * ((i' + 1 : Nat) : Int) + s * (j : Int) := by
      rw [Int.add_assoc, ← Int.mul_add]
      congr 2
    have h3 := cnt_back l s j (d + s * ((i' + 1 : Nat) : Int))
    have h4 := cnt_add l s (i' + 1) j d
    have h5 := h.eq
    have h6 := cnt_last l s i' d
    rw [e] at h2 ⊢
    omega
  · have e : d + s * (k : Int) + -s * (k : Int) = d := by rw [Int.neg_mul]; omega
    rw [e]
    exact hd
/-- Which way, and how far. -/
theorem workR_is (l : List Int) (d n : Int) (hd : Cal.known d) (hl : l.length ≤ 400) (hn1 : -1000 ≤ n) (hn2 : n ≤ 1000) (s : Int) (hs : s = if 0 < n then 1 else -1) :
    (∃ k, Good l s d n.natAbs k ∧ workR d n l = (d + s * k, 0)) ∨ ((∀ k, ¬ Good l s d n.natAbs k) ∧ workR d n l = (0, 5)) := by
  have hs2 : s = 1 ∨ s = -1 := by rw [hs]; split <;> simp
  have e : workR d n l = worked l s 292195 d n.natAbs := by
    unfold workR
    rw [if_neg (by omega), if_pos hd, ← hs]
  rw [e]
  unfold Cal.known at hd
  by_cases h : ∃ k, Good l s d n.natAbs k
  · obtain ⟨k, hk⟩ := h
    left
    refine ⟨k, hk, worked_ok l s hs2 k 292195 d _ hd hk ?_⟩
    have := hk.kn
    unfold Cal.known at this
    rcases hs2 with rfl | rfl <;> omega
  · right
    have h' : ∀ k, ¬ Good l s d n.natAbs k := fun k hk => h ⟨k, hk⟩
    refine ⟨h', worked_bad l s 292195 d _ hd ?_ h'⟩
    unfold Cal.known
    rcases hs2 with rfl | rfl <;> omega
theorem works_wk {l : List Int} {d : Int} (h : works d l = true) : Cal.wk d ≤ 4 := by
  unfold works at h
  simp only [Bool.and_eq_true, decide_eq_true_eq] at h
  exact h.2
theorem again (l : List Int) (d p q : Int) (hd : Cal.known d) (hl : l.length ≤ 400) (hp : 0 < p ∧ p ≤ 400 ∧ 0 < q ∧ q ≤ 400 ∨ p < 0 ∧ -400 ≤ p ∧ q < 0 ∧ -400 ≤ q) :
    (workR d p l = (0, 5) ∧ workR d (p + q) l = (0, 5)) ∨
    ∃ x, workR d p l = (x, 0) ∧ Cal.known x ∧ (workR d (p + q) l = (0, 5) ∨ ∃ y, workR d (p + q) l = (y, 0) ∧ workR x q l = (y, 0) ∧ Cal.known y ∧ works x l = true ∧ Cal.wk y ≤ 4 ∧ (works d l = true → workR x (-p) l = (d, 0))) := by
  obtain ⟨s, hs⟩ : ∃ s : Int, s = if 0 < p then 1 else -1 := ⟨_, rfl⟩
  have hs2 : s = 1 ∨ s = -1 := by rw [hs]; split <;> simp
  have hsq : s = if 0 < q then 1 else -1 := by rw [hs]; split <;> split <;> omega
  have hspq : s = if 0 < p + q then 1 else -1 := by rw [hs]; split <;> split <;> omega
  have hsm : -s = if 0 < -p then 1 else -1 := by rw [hs]; split <;> split <;> omega
  have hna : (p + q).natAbs = p.natAbs + q.natAbs := by omega
  have hw1 := workR_is l d p hd hl (by omega) (by omega) s hs
  have hw2 := workR_is l d (p + q) hd hl (by omega) (by omega) s hspq
  rw [hna] at hw2
  rcases hw1 with ⟨k, hk, e1⟩ | ⟨hk, e1⟩
  · right
    refine ⟨_, e1, hk.kn, ?_⟩
    rcases hw2 with ⟨k2, hk2, e2⟩ | ⟨hk2, e2⟩
    · right
      have hle := good_le hk hk2 (by omega)
      have hr := good_rest hk hk2 hle
      have ek : d + s * (k : Int) + s * ((k2 - k : Nat) : Int) = d + s * (k2 : Int) := by
        rw [Int.add_assoc, ← Int.mul_add]
        congr 2
        omega
      refine ⟨_, e2, ?_, hk2.kn, good_works hk (by omega), works_wk (good_works hk2 (by omega)), fun hwd => ?_⟩
      · rcases workR_is l (d + s * k) q hk.kn hl (by omega) (by omega) s hsq with ⟨k3, hk3, e3⟩ | ⟨hk3, e3⟩
        · have : k3 = k2 - k := by
            rcases Nat.lt_trichotomy k3 (k2 - k) with h | h | h
            · have := hr.lt k3 h; have := hk3.eq; omega
            · exact h
            · have := hk3.lt _ h; have := hr.eq; omega
          rw [e3, this, ek]
        · exact absurd hr (hk3 _)
      · have hb := good_back hd hk (by omega) hwd
        have hpm : (-p).natAbs = p.natAbs := by omega
        rcases workR_is l (d + s * k) (-p) hk.kn hl (by omega) (by omega) (-s) hsm with ⟨k3, hk3, e3⟩ | ⟨hk3, e3⟩
        · rw [hpm] at hk3
          have : k3 = k := by
            rcases Nat.lt_trichotomy k3 k with h | h | h
            · have := hb.lt k3 h; have := hk3.eq; omega
            · exact h
            · have := hk3.lt _ h; have := hb.eq; omega
          rw [e3, this, show d + s * (k : Int) + -s * (k : Int) = d by rw [Int.neg_mul]; omega]
        · rw [hpm] at hk3
          exact absurd hb (hk3 _)
    · exact .inl e2
  · left
    refine ⟨e1, ?_⟩
    rcases hw2 with ⟨k2, hk2, e2⟩ | ⟨hk2, e2⟩
    · obtain ⟨j, -, hj⟩ := good_some hs2 hd hk2 (m := p.natAbs) (by omega)
      exact absurd hj (hk j)
    · exact e2
end Go.Proofs.YtkenfgifhebnpaaDoor
