/- Moments with a local time: at most two (plain). -/
import Derived.Test.YtkenfgifhebnpaaDoorCalRk
import Derived.Test.YtkenfgifhebnpaaDoorCalRm
namespace Go.Proofs.YtkenfgifhebnpaaDoor
open Go.RowKit
set_option linter.unusedVariables false

theorem localE_five {m o s f t : Int} (hp : proper o s f t) : localE m o s f t = 0 ∨ localE m o s f t = 5 := by
  unfold localE
  rw [if_neg (by intro h; exact h hp)]
  split
  · exact .inr rfl
  · split
    · exact .inr rfl
    · split
      · exact .inr rfl
      · exact .inl rfl
theorem clock_two (m o s f t : Int) : clock m o s f t = m + o ∨ clock m o s f t = m + o + s := by
  unfold clock
  split
  · exact .inr rfl
  · exact .inl rfl
theorem local_parts {m o s f t : Int} (h : localE m o s f t = 0) :
    1440 * localD m o s f t + localM m o s f t = clock m o s f t ∧ 0 ≤ localM m o s f t ∧ localM m o s f t ≤ 1439 ∧ Cal.known (localD m o s f t) ∧ -1000000000 ≤ m ∧ m ≤ 1000000000 := by
  have hD : localD m o s f t = clock m o s f t / 1440 := if_pos h
  have hM : localM m o s f t = clock m o s f t % 1440 := if_pos h
  have hk : Cal.known (clock m o s f t / 1440) ∧ ¬ (m < -1000000000 ∨ m > 1000000000) := by
    unfold localE at h
    split at h
    · cases h
    · split at h
      · cases h
      · rename_i h1
        split at h
        · cases h
        · split at h
          · cases h
          · rename_i h2
            exact ⟨Decidable.not_not.1 h2, h1⟩
  rw [hD, hM]
  refine ⟨by omega, by omega, by omega, hk.1, by omega, by omega⟩
theorem hit_where {d u o s f t : Int} {k : Nat} (h : hit d u o s f t k) : (k : Int) = 120 ∨ (k : Int) = 120 - s := by
  obtain ⟨h1, h2, h3⟩ := h
  have p := (local_parts h1).1
  rw [h2, h3] at p
  have c := clock_two (momN d u o k) o s f t
  have e : momN d u o k = 1440 * d + u - o - 120 + k := rfl
  omega
theorem hit_self {m o s f t : Int} (hp : proper o s f t) (h : localE m o s f t = 0) :
    ∃ k, momN (localD m o s f t) (localM m o s f t) o k = m ∧ hit (localD m o s f t) (localM m o s f t) o s f t k := by
  have p := (local_parts h).1
  have c := clock_two m o s f t
  have hs := hp.2.1
  obtain ⟨k, hk⟩ : ∃ k : Nat, (k : Int) = 120 - (clock m o s f t - m - o) := ⟨(120 - (clock m o s f t - m - o)).toNat, by omega⟩
  have e : momN (localD m o s f t) (localM m o s f t) o k = m := by
    have e : momN (localD m o s f t) (localM m o s f t) o k = 1440 * localD m o s f t + localM m o s f t - o - 120 + k := rfl
    omega
  exact ⟨k, e, by unfold hit; rw [e]; exact ⟨h, rfl, rfl⟩⟩
theorem momUp_flat {d u o s f t : Int} (i : Nat) : ∀ k, i ≤ k → (∀ j, i ≤ j → j < k → ¬ hit d u o s f t j) → momUp d u o s f t k = momUp d u o s f t i
  | 0, h, _ => by rw [Nat.le_zero.1 h]
  | k + 1, h, hn => by
    by_cases e : i = k + 1
    · rw [e]
    · rw [momUp_miss (hn k (by omega) (by omega)), momUp_flat i k (by omega) (fun j h1 h2 => hn j h1 (by omega))]
theorem momUp_shape {m o s f t : Int} (hp : proper o s f t) (h : localE m o s f t = 0) :
    momUp (localD m o s f t) (localM m o s f t) o s f t 121 = [m] ∨ (s ≠ 0 ∧ ∃ x y, x < y ∧ momUp (localD m o s f t) (localM m o s f t) o s f t 121 = [x, y] ∧ (x = m ∨ y = m)) := by
  obtain ⟨k0, hk, hh⟩ := hit_self hp h
  obtain ⟨d, hd⟩ : ∃ d, d = localD m o s f t := ⟨_, rfl⟩
  obtain ⟨u, hu⟩ : ∃ u, u = localM m o s f t := ⟨_, rfl⟩
  rw [← hd, ← hu] at hk hh ⊢
  have hs := hp.2.1
  have hw := hit_where hh
  obtain ⟨a, ha⟩ : ∃ a : Nat, (a : Int) = 120 - s := ⟨(120 - s).toNat, by omega⟩
  have z : momUp d u o s f t a = [] := by
    rw [momUp_flat 0 a (Nat.zero_le _) (fun j _ h2 hj => by have := hit_where hj; omega)]
    rfl
  by_cases s0 : s = 0
  · have e120 : k0 = 120 := by omega
    have ea : a = 120 := by omega
    subst ea
    left
    rw [e120] at hh hk
    rw [momUp_hit hh, z, hk]
    rfl
  · have hmid : momUp d u o s f t 120 = momUp d u o s f t (a + 1) := momUp_flat (a + 1) 120 (by omega) (fun j h1 h2 hj => by have := hit_where hj; omega)
    by_cases ha1 : hit d u o s f t a
    · rw [momUp_hit ha1, z] at hmid
      by_cases hb : hit d u o s f t 120
      · right
        refine ⟨s0, momN d u o a, momN d u o 120, ?_, ?_, ?_⟩
        · show 1440 * d + u - o - 120 + (a : Int) < 1440 * d + u - o - 120 + ((120 : Nat) : Int)
          omega
        · rw [momUp_hit hb, hmid]
          rfl
        · rcases hw with hw | hw
          · right; rw [← hk, show k0 = 120 by omega]
          · left; rw [← hk, show k0 = a by omega]
      · left
        rw [momUp_miss hb, hmid, ← hk]
        have : k0 = a := by
          rcases hw with hw | hw
          · exact absurd (by rw [show k0 = 120 by omega] at hh; exact hh) hb
          · omega
        rw [this]
        rfl
    · rw [momUp_miss ha1, z] at hmid
      have e : k0 = 120 := by
        rcases hw with hw | hw
        · omega
        · exact absurd (by rw [show k0 = a by omega] at hh; exact hh) ha1
      left
      rw [e] at hh hk
      rw [momUp_hit hh, hmid, hk]
      rfl
theorem mom_shape {m o s f t : Int} (hp : proper o s f t) (h : localE m o s f t = 0) :
    momE (localD m o s f t) (localM m o s f t) o s f t = 0 ∧ (momL (localD m o s f t) (localM m o s f t) o s f t = [m] ∨ (s ≠ 0 ∧ ∃ x y, x < y ∧ momL (localD m o s f t) (localM m o s f t) o s f t = [x, y] ∧ (x = m ∨ y = m))) := by
  obtain ⟨p1, p2, p3, p4, p5, p6⟩ := local_parts h
  have e : momE (localD m o s f t) (localM m o s f t) o s f t = 0 := by
    unfold momE
    rw [if_neg (by intro x; exact x hp), if_neg (by intro x; rcases x with x | x | x; exact x p4; omega; omega)]
  refine ⟨e, ?_⟩
  unfold momL
  rw [if_pos e]
  exact momUp_shape hp h
/-- The next minute's local time. -/
theorem local_next {m o s f t : Int} (h : localE m o s f t = 0) (h2 : localE (m + 1) o s f t = 0) :
    1440 * localD (m + 1) o s f t + localM (m + 1) o s f t - 1440 * localD m o s f t - localM m o s f t = 1 ∨
    1440 * localD (m + 1) o s f t + localM (m + 1) o s f t - 1440 * localD m o s f t - localM m o s f t = 1 + s ∨
    1440 * localD (m + 1) o s f t + localM (m + 1) o s f t - 1440 * localD m o s f t - localM m o s f t = 1 - s := by
  have p := (local_parts h).1
  have q := (local_parts h2).1
  have c := clock_two m o s f t
  have c2 := clock_two (m + 1) o s f t
  omega
end Go.Proofs.YtkenfgifhebnpaaDoor
