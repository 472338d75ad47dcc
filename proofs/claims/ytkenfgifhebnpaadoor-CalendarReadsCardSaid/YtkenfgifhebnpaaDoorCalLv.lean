/- The examples of the section on days, over the specification. -/
import Derived.Test.YtkenfgifhebnpaaDoorCalRf
import Derived.Test.YtkenfgifhebnpaaDoorCalRh
import Derived.Test.YtkenfgifhebnpaaDoorCalRk
namespace Go.Proofs.YtkenfgifhebnpaaDoor
open Go.RowKit
set_option linter.unusedVariables false
set_option maxRecDepth 100000

theorem day_at {y m d : Int} (Y M : Nat) (hY : y = (1600 + Y : Nat)) (hM : m = (M : Nat)) (h : Cal.okD y m d) (b c : Nat) (hb : b + (Y + 99) / 100 = 365 * Y + (Y + 3) / 4 + (Y + 399) / 400) (hc : Cal.bM (1600 + Y) (M - 1) = c) : Cal.dayV y m d = -146097 + (b : Int) + (c : Int) + d - 1 := by
  have e : Cal.dayV y m d = -146097 + (Cal.bY (y.toNat - 1600) : Int) + (Cal.bM y.toNat (m.toNat - 1) : Int) + d - 1 := if_pos h
  have f := Cal.bY_form Y
  rw [e, hY, hM, Int.toNat_natCast, Int.toNat_natCast, Nat.add_sub_cancel_left, hc]
  omega
theorem ok1 : Cal.okD 2000 2 29 := by decide
theorem day1 : Cal.dayV 2000 2 29 = 59 ∧ Cal.dayE 2000 2 29 = 0 := ⟨by rw [day_at (y := 2000) (m := 2) 400 2 rfl rfl ok1 146097 31 rfl rfl]; rfl, if_pos ok1⟩
theorem day2 : Cal.dayE 1900 2 29 = 5 := if_neg (by decide)
theorem ok3 : Cal.okD 1999 12 31 := by decide
theorem day3 : Cal.dayV 1999 12 31 = -1 := by rw [day_at (y := 1999) (m := 12) 399 12 rfl rfl ok3 145732 334 rfl rfl]; rfl
theorem civ3 : Cal.cy (-1) = 1999 ∧ Cal.cm (-1) = 12 ∧ Cal.cd (-1) = 31 := by have := Cal.civ_back ok3; rw [day3] at this; exact this
theorem ok4 : Cal.okD 2001 1 1 := by decide
theorem day4 : Cal.dayV 2001 1 1 = 366 := by rw [day_at (y := 2001) (m := 1) 401 1 rfl rfl ok4 146463 0 rfl rfl]; rfl
theorem text4 : dtext 366 = [50, 48, 48, 49, 45, 48, 49, 45, 48, 49] := by
  have h := Cal.civ_back ok4
  rw [day4] at h
  unfold dtext
  rw [if_pos (by decide), h.1, h.2.1, h.2.2]
  rfl
theorem ok5 : Cal.okD 2024 7 4 := by decide
theorem day5 : Cal.dayV 2024 7 4 = 8951 := by rw [day_at (y := 2024) (m := 7) 424 7 rfl rfl ok5 154863 182 rfl rfl]; rfl
theorem read5 : readV [50, 48, 50, 52, 45, 48, 55, 45, 48, 52] = 8951 ∧ readE [50, 48, 50, 52, 45, 48, 55, 45, 48, 52] = 0 := by
  have n1 : numb ([50, 48, 50, 52, 45, 48, 55, 45, 48, 52].take 4) = 2024 := by decide
  have n2 : numb (([50, 48, 50, 52, 45, 48, 55, 45, 48, 52].drop 5).take 2) = 7 := by decide
  have n3 : numb (([50, 48, 50, 52, 45, 48, 55, 45, 48, 52].drop 8).take 2) = 4 := by decide
  unfold readV readE
  rw [n1, n2, n3, if_pos (by decide), if_pos ok5, if_pos (by decide), if_pos ok5]
  exact ⟨day5, rfl⟩
theorem ok6 : Cal.okD 1999 1 1 := by decide
theorem day6 : Cal.dayV 1999 1 1 = -365 := by rw [day_at (y := 1999) (m := 1) 399 1 rfl rfl ok6 145732 0 rfl rfl]; rfl
theorem clock6 : clock 0 (-60) 0 1 1 = -60 := by
  unfold clock
  rw [show ((0 : Int) + -60) / 1440 = -1 by decide, civ3.1, day6]
  rfl
theorem local6 : localE 0 (-60) 0 1 1 = 0 ∧ localD 0 (-60) 0 1 1 = -1 ∧ localM 0 (-60) 0 1 1 = 1380 := by
  have h : localE 0 (-60) 0 1 1 = 0 := by
    unfold localE
    rw [clock6, if_neg (by decide), if_neg (by decide), if_neg (by decide), if_neg (by decide)]
  refine ⟨h, ?_, ?_⟩
  · unfold localD; rw [if_pos h, clock6]; rfl
  · unfold localM; rw [if_pos h, clock6]; rfl
theorem work7 : workR 0 1 [] = (2, 0) := by
  unfold workR
  rw [if_neg (by decide), if_pos (by decide), if_pos (by decide)]
  show worked [] 1 (292194 + 1) 0 1 = (2, 0)
  rw [worked_next [] 1 292194 0 1 (by decide) (by decide), if_neg (by decide)]
  show worked [] 1 (292193 + 1) 1 1 = (2, 0)
  rw [worked_next [] 1 292193 1 1 (by decide) (by decide), if_pos (by decide)]
  show worked [] 1 (292192 + 1) 2 0 = (2, 0)
  exact worked_end _ _ _ _
theorem work8 : workR 0 1 [2] = (3, 0) := by
  unfold workR
  rw [if_neg (by decide), if_pos (by decide), if_pos (by decide)]
  show worked [2] 1 (292194 + 1) 0 1 = (3, 0)
  rw [worked_next [2] 1 292194 0 1 (by decide) (by decide), if_neg (by decide)]
  show worked [2] 1 (292193 + 1) 1 1 = (3, 0)
  rw [worked_next [2] 1 292193 1 1 (by decide) (by decide), if_neg (by decide)]
  show worked [2] 1 (292192 + 1) 2 1 = (3, 0)
  rw [worked_next [2] 1 292192 2 1 (by decide) (by decide), if_pos (by decide)]
  show worked [2] 1 (292191 + 1) 3 0 = (3, 0)
  exact worked_end _ _ _ _
/-- The days of the year 2000. -/
theorem ok9 : Cal.okD 2000 1 1 := by decide
theorem day9 : Cal.dayV 2000 1 1 = 0 := by rw [day_at (y := 2000) (m := 1) 400 1 rfl rfl ok9 146097 0 rfl rfl]; rfl
theorem year9 {n : Int} (h0 : 0 ≤ n) (h1 : n < 366) : Cal.known n ∧ Cal.cy n = 2000 := by
  have hk : Cal.known n := by unfold Cal.known; omega
  refine ⟨hk, ?_⟩
  unfold Cal.cy
  rw [if_pos hk]
  have hc := Cal.civ_spec (t := (n + 146097).toNat) (by omega)
  have hy := hc.year
  have g1 : Cal.bY 400 = 146097 := by have := Cal.bY_form 400; omega
  have g2 : Cal.bY 401 = 146463 := by have := Cal.bY_form 401; omega
  generalize Cal.cK (n + 146097).toNat = K at *
  clear hc
  have : K = 400 := by
    rcases Nat.lt_trichotomy K 400 with c | c | c
    · have h5 := Cal.bY_mono (i := K + 1) (j := 400) (by omega)
      rw [g1] at h5
      clear g1 g2
      omega
    · exact c
    · have h5 := Cal.bY_mono (i := 401) (j := K) (by omega)
      rw [g2] at h5
      clear g1 g2
      omega
  omega
theorem clock9 (m : Int) (h0 : 0 ≤ (m + 60) / 1440) (h1 : (m + 60) / 1440 < 366) : clock m 60 60 90 300 = if 90 ≤ (m + 60) / 1440 + 1 ∧ (m + 60) / 1440 + 1 ≤ 299 then m + 120 else m + 60 := by
  unfold clock
  rw [(year9 h0 h1).2, day9]
  split <;> split <;> omega
theorem local9 (m : Int) (h0 : 0 ≤ (m + 60) / 1440) (h1 : (m + 60) / 1440 < 300) (d u : Int) (hd : 0 ≤ d) :
    (localE m 60 60 90 300 = 0 ∧ localD m 60 60 90 300 = d ∧ localM m 60 60 90 300 = u) ↔ (0 ≤ u ∧ u < 1440 ∧ 1440 * d + u = if 90 ≤ (m + 60) / 1440 + 1 ∧ (m + 60) / 1440 + 1 ≤ 299 then m + 120 else m + 60) := by
  have hc := clock9 m h0 (by omega)
  obtain ⟨c, hcc⟩ : ∃ c, c = clock m 60 60 90 300 := ⟨_, rfl⟩
  rw [← hcc] at hc
  have hcb : 0 ≤ c / 1440 ∧ c / 1440 ≤ 301 := by rw [hc]; split <;> omega
  have hE : localE m 60 60 90 300 = 0 := by
    unfold localE
    rw [← hcc, if_neg (by decide), if_neg (by omega), if_neg (by unfold Cal.known; omega), if_neg (by unfold Cal.known; omega)]
  have hD : localD m 60 60 90 300 = c / 1440 := by unfold localD; rw [if_pos hE, hcc]
  have hM : localM m 60 60 90 300 = c % 1440 := by unfold localM; rw [if_pos hE, hcc]
  rw [hE, hD, hM, ← hc]
  constructor
  · rintro ⟨-, h1, h2⟩; omega
  · rintro ⟨h1, h2, h3⟩; refine ⟨rfl, ?_, ?_⟩ <;> omega
theorem momUp_none {d u o s f t : Int} (a : Nat) : ∀ k, a ≤ k → (∀ j, a ≤ j → j < k → ¬ hit d u o s f t j) → momUp d u o s f t k = momUp d u o s f t a := by
  intro k
  induction k with
  | zero => intro h _; rw [show a = 0 by omega]
  | succ k ih =>
    intro h hn
    by_cases e : a = k + 1
    · rw [e]
    · rw [momUp_miss (hn k (by omega) (by omega))]
      exact ih (by omega) fun j h1 h2 => hn j h1 (by omega)
theorem mom10 : momL 89 30 60 60 90 300 = [] ∧ momE 89 30 60 60 90 300 = 0 := by
  have hE : momE 89 30 60 60 90 300 = 0 := by unfold momE; rw [if_neg (by decide), if_neg (by decide)]
  refine ⟨?_, hE⟩
  unfold momL
  rw [if_pos hE, momUp_none 0 121 (by omega)]
  · rfl
  · intro j _ hj h
    unfold hit at h
    have e : momN 89 30 60 j = 128010 + j := by unfold momN; omega
    rw [e] at h
    have := (local9 (128010 + j) (by omega) (by omega) 89 30 (by omega)).1 h
    split at this <;> omega
theorem mom11 : (momL 299 0 60 60 90 300).length = 2 ∧ momE 299 0 60 60 90 300 = 0 := by
  have hE : momE 299 0 60 60 90 300 = 0 := by unfold momE; rw [if_neg (by decide), if_neg (by decide)]
  refine ⟨?_, hE⟩
  have key : ∀ j, j ≤ 120 → (hit 299 0 60 60 90 300 j ↔ j = 60 ∨ j = 120) := by
    intro j hj
    have e : momN 299 0 60 j = 430380 + j := by unfold momN; omega
    unfold hit
    rw [e, local9 (430380 + j) (by omega) (by omega) 299 0 (by omega)]
    constructor
    · intro h; split at h <;> omega
    · intro h; refine ⟨by omega, by omega, ?_⟩; split <;> omega
  unfold momL
  rw [if_pos hE, momUp_hit ((key 120 (by omega)).2 (.inr rfl)), momUp_none 61 120 (by omega) (fun j h1 h2 h => by have := (key j (by omega)).1 h; omega),
    momUp_hit ((key 60 (by omega)).2 (.inl rfl)), momUp_none 0 60 (by omega) (fun j h1 h2 h => by have := (key j (by omega)).1 h; omega)]
  rfl
end Go.Proofs.YtkenfgifhebnpaaDoor
