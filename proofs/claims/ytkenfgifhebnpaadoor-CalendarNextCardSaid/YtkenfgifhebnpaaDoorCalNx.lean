/- Dates and their texts: what follows which (plain). -/
import Derived.Test.YtkenfgifhebnpaaDoorCalRf
import Derived.Test.YtkenfgifhebnpaaDoorCalRd
namespace Go.Proofs.YtkenfgifhebnpaaDoor
open Go.RowKit
set_option linter.unusedVariables false

namespace Cal
theorem civ_next {t k m d : Nat} (h : Civ t k m d) (ht : t + 1 < 292194) :
    Civ (t + 1) k m (d + 1) ∨ Civ (t + 1) k (m + 1) 1 ∨ (m = 12 ∧ Civ (t + 1) (k + 1) 1 1) := by
  obtain ⟨kl, m1, m12, d1, dm, te⟩ := h
  by_cases hd : d < md (1600 + k) m
  · exact .inl ⟨kl, m1, m12, by omega, hd, by omega⟩
  · have hd2 : d = md (1600 + k) m := by omega
    have hb : bM (1600 + k) m = bM (1600 + k) (m - 1) + md (1600 + k) m := by
      obtain ⟨j, rfl⟩ : ∃ j, m = j + 1 := ⟨m - 1, by omega⟩
      rfl
    by_cases hm : m < 12
    · exact .inr (.inl ⟨kl, by omega, by omega, Nat.le_refl _, by have := md_pos (1600 + k) (m + 1); omega, by rw [Nat.add_sub_cancel]; omega⟩)
    · have hm2 : m = 12 := by omega
      subst hm2
      have h12 := bM_12 (1600 + k)
      have hy : bY (k + 1) = bY k + yd (1600 + k) := rfl
      have hk : k + 1 < 800 := by
        apply Decidable.byContradiction
        intro hk
        have h8 : k + 1 = 800 := by omega
        have := bY_800
        rw [h8] at hy
        omega
      exact .inr (.inr ⟨rfl, hk, Nat.le_refl _, by omega, Nat.le_refl _, by have := md_pos (1600 + (k + 1)) 1; omega, by show t + 1 = bY (k + 1) + 0 + 0; omega⟩)
theorem yd_400 (y : Nat) : yd (y + 400) = yd y := by
  unfold yd
  have h : ((y + 400) % 400 = 0 ∨ ((y + 400) % 4 = 0 ∧ (y + 400) % 100 ≠ 0)) ↔ (y % 400 = 0 ∨ (y % 4 = 0 ∧ y % 100 ≠ 0)) := by omega
  by_cases h2 : y % 400 = 0 ∨ (y % 4 = 0 ∧ y % 100 ≠ 0)
  · rw [if_pos h2, if_pos (h.2 h2)]
  · rw [if_neg h2, if_neg (fun x => h2 (h.1 x))]
theorem md_400 (y m : Nat) : md (y + 400) m = md y m := by unfold md; rw [yd_400]
theorem bM_400 (y : Nat) : ∀ j, bM (y + 400) j = bM y j
  | 0 => rfl
  | j + 1 => by show bM (y + 400) j + md (y + 400) (j + 1) = bM y j + md y (j + 1); rw [bM_400 y j, md_400]
theorem bY_400 (k : Nat) : bY (k + 400) = bY k + 146097 := by
  have h1 := bY_form k
  have h2 := bY_form (k + 400)
  omega
theorem far_sum {a a' b b' d : Nat} (h1 : a' = a + 146097) (h2 : b' = b) : a + b + d + 146097 = a' + b' + d := by omega
theorem civ_far {t k m d : Nat} (h : Civ t k m d) (ht : t < 146097) : Civ (t + 146097) (k + 400) m d := by
  obtain ⟨kl, m1, m12, d1, dm, te⟩ := h
  have hk : k < 400 := by
    apply Decidable.byContradiction
    intro hk
    have h1 : bY 400 ≤ bY k := bY_mono (by omega)
    have h2 : bY 400 = 146097 := by have := bY_form 400; omega
    omega
  have e : 1600 + (k + 400) = 1600 + k + 400 := by omega
  have te2 : t + 146097 = bY (k + 400) + bM (1600 + (k + 400)) (m - 1) + (d - 1) := by
    have e4 : bM (1600 + (k + 400)) (m - 1) = bM (1600 + k) (m - 1) := (congrArg (fun z => bM z (m - 1)) e).trans (bM_400 _ _)
    exact (congrArg (· + 146097) te).trans (far_sum (bY_400 k) e4)
  have dm2 : d ≤ md (1600 + (k + 400)) m := Nat.le_trans dm (Nat.le_of_eq ((congrArg (fun z => md z m) e).trans (md_400 _ _)).symm)
  exact ⟨by omega, m1, m12, d1, dm2, te2⟩
theorem next_date {n : Int} (h : known n) (h2 : n < 146096) :
    (cy (n + 1) = cy n ∧ cm (n + 1) = cm n ∧ cd (n + 1) = cd n + 1) ∨ (cy (n + 1) = cy n ∧ cm (n + 1) = cm n + 1 ∧ cd (n + 1) = 1) ∨ (cy (n + 1) = cy n + 1 ∧ cm (n + 1) = 1 ∧ cm n = 12 ∧ cd (n + 1) = 1) := by
  have hk : known (n + 1) := ⟨by have := h.1; omega, by omega⟩
  have hn1 := h.1
  obtain ⟨t, ht⟩ : ∃ t, t = (n + 146097).toNat := ⟨_, rfl⟩
  have ht1 : (n + 1 + 146097).toNat = t + 1 := by omega
  have c := civ_spec (t := t) (by omega)
  unfold cy cm cd
  rw [if_pos h, if_pos h, if_pos h, if_pos hk, if_pos hk, if_pos hk, ht1, ← ht]
  rcases civ_next c (by omega) with h | h | ⟨h12, h⟩
  · obtain ⟨e1, e2, e3⟩ := civ_is h
    rw [e1, e2, e3]
    left; omega
  · obtain ⟨e1, e2, e3⟩ := civ_is h
    rw [e1, e2, e3]
    right; left; omega
  · obtain ⟨e1, e2, e3⟩ := civ_is h
    rw [e1, e2, e3]
    right; right; omega
theorem far_date {n : Int} (h : known n) (h2 : n < 0) : cy (n + 146097) = cy n + 400 ∧ cm (n + 146097) = cm n ∧ cd (n + 146097) = cd n := by
  have hn1 := h.1
  have hk : known (n + 146097) := ⟨by omega, by omega⟩
  obtain ⟨t, ht⟩ : ∃ t, t = (n + 146097).toNat := ⟨_, rfl⟩
  have ht1 : (n + 146097 + 146097).toNat = t + 146097 := by omega
  have c := civ_far (civ_spec (t := t) (by omega)) (by omega)
  obtain ⟨e1, e2, e3⟩ := civ_is c
  unfold cy cm cd
  rw [if_pos h, if_pos h, if_pos h, if_pos hk, if_pos hk, if_pos hk, ht1, ← ht, e1, e2, e3]
  omega
end Cal

/-! ### Digits -/
theorem dg_snoc (n k : Nat) : dg n (k + 1) = dg (n / 10) k ++ [UInt8.ofNat (48 + n % 10)] := by
  unfold dg
  rw [List.range_succ_eq_map, List.reverse_cons, List.map_append, ← List.map_reverse, List.map_map]
  congr 1
  · apply List.map_congr_left
    intro j _
    show UInt8.ofNat (48 + n / 10 ^ (j + 1) % 10) = UInt8.ofNat (48 + n / 10 / 10 ^ j % 10)
    rw [Nat.pow_succ, Nat.mul_comm, Nat.div_div_eq_div_mul]
  · simp
theorem val10_dg : ∀ (k n : Nat), Rt.val10 (dg n k) = n % 10 ^ k
  | 0, n => by simp [dg, Rt.val10, Nat.mod_one]
  | k + 1, n => by
    rw [dg_snoc, Rt.val10_snoc, val10_dg k]
    have e : (UInt8.ofNat (48 + n % 10)).toNat = 48 + n % 10 := by rw [UInt8.toNat_ofNat']; omega
    rw [e, Nat.pow_succ, Nat.mul_comm (10 ^ k) 10, Nat.mod_mul]
    omega
theorem dg_dig (n k : Nat) : ∀ c ∈ dg n k, Rt.Dig c := by
  intro c hc
  unfold dg at hc
  obtain ⟨j, -, rfl⟩ := List.mem_map.1 hc
  unfold Rt.Dig
  rw [UInt8.toNat_ofNat']
  omega
theorem numb_dg {n k : Nat} (h : n < 10 ^ k) : numb (dg n k) = n := by
  unfold numb
  rw [if_pos (dg_dig n k), val10_dg, Nat.mod_eq_of_lt h]
theorem split10 {A B C : List UInt8} (hA : A.length = 4) (hB : B.length = 2) (hC : C.length = 2) :
    (A ++ [45] ++ B ++ [45] ++ C).length = 10 ∧ (A ++ [45] ++ B ++ [45] ++ C).getD 4 0 = 45 ∧ (A ++ [45] ++ B ++ [45] ++ C).getD 7 0 = 45 ∧ (A ++ [45] ++ B ++ [45] ++ C).take 4 = A ∧ ((A ++ [45] ++ B ++ [45] ++ C).drop 5).take 2 = B ∧ ((A ++ [45] ++ B ++ [45] ++ C).drop 8).take 2 = C := by
  match A, hA, B, hB, C, hC with
  | [a, b, c, d], _, [e, f], _, [g, h], _ => exact ⟨rfl, rfl, rfl, rfl, rfl, rfl⟩
theorem date_small {n : Int} (h : Cal.known n) : (Cal.cy n).toNat < 10 ^ 4 ∧ (Cal.cm n).toNat < 10 ^ 2 ∧ (Cal.cd n).toNat < 10 ^ 2 ∧ 1600 ≤ Cal.cy n ∧ 1 ≤ Cal.cm n ∧ 1 ≤ Cal.cd n := by
  obtain ⟨⟨h1, h2, h3, h4, h5, h6⟩, -⟩ := Cal.day_back h
  have := Cal.md_pos (Cal.cy n).toNat (Cal.cm n).toNat
  refine ⟨by omega, by omega, by omega, h1, h3, h5⟩
theorem read_text {n : Int} (h : Cal.known n) : readV (dtext n) = n ∧ readE (dtext n) = 0 := by
  obtain ⟨hok, hv⟩ := Cal.day_back h
  obtain ⟨s1, s2, s3, s4, s5, s6⟩ := date_small h
  have e1 : (((Cal.cy n).toNat : Nat) : Int) = Cal.cy n := by omega
  have e2 : (((Cal.cm n).toNat : Nat) : Int) = Cal.cm n := by omega
  have e3 : (((Cal.cd n).toNat : Nat) : Int) = Cal.cd n := by omega
  have n1 := numb_dg s1
  have n2 := numb_dg s2
  have n3 := numb_dg s3
  rw [e1] at n1
  rw [e2] at n2
  rw [e3] at n3
  obtain ⟨p1, p2, p3, p4, p5, p6⟩ := split10 (dg_len (Cal.cy n).toNat 4) (dg_len (Cal.cm n).toNat 2) (dg_len (Cal.cd n).toNat 2)
  have ht : dtext n = dg (Cal.cy n).toNat 4 ++ [45] ++ dg (Cal.cm n).toNat 2 ++ [45] ++ dg (Cal.cd n).toNat 2 := if_pos h
  rw [← ht] at p1 p2 p3 p4 p5 p6
  unfold readV readE
  have hc : (dtext n).length = 10 ∧ (dtext n).getD 4 0 = 45 ∧ (dtext n).getD 7 0 = 45 := ⟨p1, p2, p3⟩
  rw [if_pos hc, if_pos hc, p4, p5, p6, n1, n2, n3, if_pos hok, if_pos hok]
  exact ⟨hv, rfl⟩

/-! ### The order of texts -/
theorem less_same (x u v : List UInt8) : Op.bytesLess (x ++ u) (x ++ v) = Op.bytesLess u v := by
  induction x with
  | nil => rfl
  | cons c x ih =>
    show (decide (c < c) || (c == c && Op.bytesLess (x ++ u) (x ++ v))) = _
    rw [ih]
    simp
theorem less_first : ∀ (x y u v : List UInt8), x.length = y.length → Op.bytesLess x y = true → Op.bytesLess (x ++ u) (y ++ v) = true
  | [], [], u, v, _, h => by simp [Op.bytesLess] at h
  | [], d :: y, u, v, hl, h => by simp at hl
  | c :: x, [], u, v, hl, h => by simp at hl
  | c :: x, d :: y, u, v, hl, h => by
    simp only [Op.bytesLess, Bool.or_eq_true, decide_eq_true_eq, Bool.and_eq_true, beq_iff_eq, List.cons_append] at h ⊢
    rcases h with h | ⟨h1, h2⟩
    · exact .inl h
    · exact .inr ⟨h1, less_first x y u v (by simpa using hl) h2⟩
theorem less_not : ∀ (x y : List UInt8), Op.bytesLess x y = true → Op.bytesLess y x = false ∧ x ≠ y
  | [], [], h => by simp [Op.bytesLess] at h
  | [], d :: y, h => by simp [Op.bytesLess]
  | c :: x, [], h => by simp [Op.bytesLess] at h
  | c :: x, d :: y, h => by
    simp only [Op.bytesLess, Bool.or_eq_true, decide_eq_true_eq, Bool.and_eq_true, beq_iff_eq] at h
    have hlt : ∀ a b : UInt8, a < b ↔ a.toNat < b.toNat := fun a b => Iff.rfl
    rcases h with h | ⟨rfl, h2⟩
    · have h' := (hlt _ _).1 h
      refine ⟨?_, fun e => ?_⟩
      · simp only [Op.bytesLess, Bool.or_eq_false_iff, decide_eq_false_iff_not, Bool.and_eq_false_iff, beq_eq_false_iff_ne]
        exact ⟨fun h2 => by have := (hlt _ _).1 h2; omega, .inl (fun e => by rw [e] at h'; omega)⟩
      · injection e with e1 e2; rw [e1] at h'; omega
    · obtain ⟨i1, i2⟩ := less_not x y h2
      refine ⟨?_, fun e => ?_⟩
      · simp only [Op.bytesLess, Bool.or_eq_false_iff, decide_eq_false_iff_not, Bool.and_eq_false_iff]
        exact ⟨fun h2 => by have := (hlt _ _).1 h2; omega, .inr i1⟩
      · injection e with e1 e2; exact i2 e2
theorem dg_mod (n k : Nat) : dg (n % 10 ^ k) k = dg n k := by
  unfold dg
  apply List.map_congr_left
  intro j hj
  have hj2 : j < k := by simpa using hj
  obtain ⟨i, rfl⟩ : ∃ i, k = j + 1 + i := ⟨k - (j + 1), by omega⟩
  show UInt8.ofNat (48 + n % 10 ^ (j + 1 + i) / 10 ^ j % 10) = UInt8.ofNat (48 + n / 10 ^ j % 10)
  congr 2
  rw [Nat.add_assoc, Nat.pow_add, Nat.mod_mul_right_div_self, Nat.pow_add, Nat.pow_one, Nat.mod_mul_right_mod]
theorem less_dg : ∀ (k a b : Nat), a < b → b < 10 ^ k → Op.bytesLess (dg a k) (dg b k) = true
  | 0, a, b, h1, h2 => by simp at h2; omega
  | k + 1, a, b, h1, h2 => by
    have hp : 0 < 10 ^ k := Nat.pow_pos (by decide)
    have hb : b / 10 ^ k < 10 := by rw [Nat.div_lt_iff_lt_mul hp, Nat.mul_comm, ← Nat.pow_succ]; exact h2
    have hab : a / 10 ^ k ≤ b / 10 ^ k := Nat.div_le_div_right (Nat.le_of_lt h1)
    have ma := Nat.div_add_mod a (10 ^ k)
    have mb := Nat.div_add_mod b (10 ^ k)
    rw [dg_succ, dg_succ]
    simp only [List.singleton_append, Op.bytesLess, Bool.or_eq_true, decide_eq_true_eq, Bool.and_eq_true, beq_iff_eq]
    rw [Nat.mod_eq_of_lt hb, Nat.mod_eq_of_lt (Nat.lt_of_le_of_lt hab hb)]
    by_cases e : a / 10 ^ k = b / 10 ^ k
    · rw [e] at ma
      refine .inr ⟨by rw [e], ?_⟩
      rw [← dg_mod a, ← dg_mod b]
      exact less_dg k _ _ (by omega) (Nat.mod_lt _ hp)
    · refine .inl ?_
      show (UInt8.ofNat _).toNat < (UInt8.ofNat _).toNat
      rw [UInt8.toNat_ofNat', UInt8.toNat_ofNat']
      generalize a / 10 ^ k = x at *
      generalize b / 10 ^ k = y at *
      clear ma mb h2 hp
      omega
theorem dtext_less {n : Int} (h : Cal.known n) (h2 : n < 146096) : Op.bytesLess (dtext n) (dtext (n + 1)) = true := by
  have hk : Cal.known (n + 1) := ⟨by have := h.1; omega, by omega⟩
  obtain ⟨s1, s2, s3, s4, s5, s6⟩ := date_small h
  obtain ⟨r1, r2, r3, r4, r5, r6⟩ := date_small hk
  unfold dtext
  rw [if_pos h, if_pos hk]
  rcases Cal.next_date h h2 with ⟨e1, e2, e3⟩ | ⟨e1, e2, e3⟩ | ⟨e1, e2, -, e3⟩
  · rw [e1, e2, less_same]
    exact less_dg 2 _ _ (by omega) r3
  · rw [e1]
    simp only [List.append_assoc]
    rw [less_same, less_same]
    exact less_first _ _ _ _ (by rw [dg_len, dg_len]) (less_dg 2 _ _ (by omega) r2)
  · simp only [List.append_assoc]
    exact less_first _ _ _ _ (by rw [dg_len, dg_len]) (less_dg 4 _ _ (by omega) r1)

/-! ### Weekdays, bounds -/
theorem wk_next {n : Int} (h : Cal.known n) (h2 : n < 146096) : Cal.wk (n + 1) = (Cal.wk n + 1).tmod 7 ∧ 0 ≤ Cal.wk n ∧ Cal.wk n ≤ 6 := by
  have hk : Cal.known (n + 1) := ⟨by have := h.1; omega, by omega⟩
  unfold Cal.wk
  rw [if_pos h, if_pos hk, Int.tmod_eq_emod_of_nonneg (by omega)]
  omega
theorem wk_far {n : Int} (h : Cal.known n) (h2 : n < 0) : Cal.wk (n + 146097) = Cal.wk n := by
  have hk : Cal.known (n + 146097) := ⟨by have := h.1; omega, by omega⟩
  unfold Cal.wk
  rw [if_pos h, if_pos hk]
  omega
theorem date_in {n : Int} (h : Cal.known n) : 1600 ≤ Cal.cy n ∧ Cal.cy n ≤ 2399 ∧ 1 ≤ Cal.cm n ∧ Cal.cm n ≤ 12 ∧ 1 ≤ Cal.cd n ∧ Cal.cd n ≤ 31 := by
  obtain ⟨⟨h1, h2, h3, h4, h5, h6⟩, -⟩ := Cal.day_back h
  have := Cal.md_pos (Cal.cy n).toNat (Cal.cm n).toNat
  omega

end Go.Proofs.YtkenfgifhebnpaaDoor
