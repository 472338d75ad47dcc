import GoSem.Op.String
import Derived.Test.YtkelfcgomeojeaaDoorJWireMathB

section
/- Decoding an encoding gives the value back, whatever follows it. -/

namespace Go.Proofs.YtkelfcgomeojeaaDoor.M

theorem getLen_enc (n : Nat) (t : List UInt8) (size : Nat) (hs : 1 ≤ size) (hn : n ≤ 9223372036854775807) (h : n * size ≤ t.length) : getLen (encI n ++ t) size = ((n : Int), (encI n).length, 0) := by
  unfold getLen
  rw [getI_encI n (I64_nat n hn) t]
  simp only [ne_eq, not_true_eq_false, if_false]
  rw [if_neg (by omega), if_neg]
  rw [List.length_append]
  have hsz : (0 : Int) < size := by omega
  have h1 : (n : Int) * size ≤ (t.length : Int) := by
    have : ((n * size : Nat) : Int) ≤ (t.length : Int) := by omega
    rwa [Int.natCast_mul] at this
  have h2 := Int.le_ediv_of_mul_le hsz h1
  have e : (((encI n).length + t.length : Nat) : Int) - ((encI n).length : Nat) = (t.length : Int) := by omega
  rw [e]
  omega

theorem getB_enc (s t : List UInt8) (hs : s.length ≤ 9223372036854775807) : getB (encB s ++ t) = (s, (encB s).length, 0) := by
  have h := getLen_enc s.length (s ++ t) 1 (Nat.le_refl _) hs (by simp)
  unfold getB encB
  rw [List.append_assoc, h]
  simp

theorem decN_enc {α : Type} (g : List UInt8 → α × Nat × Nat) (e : α → List UInt8) (l : List α) (t : List UInt8) (hg : ∀ a ∈ l, ∀ q, g (e a ++ q) = (a, (e a).length, 0)) :
    decN g l.length (l.flatMap e ++ t) = (l, (l.flatMap e).length, 0) := by
  induction l with
  | nil => rfl
  | cons a l ih =>
    have h1 := hg a (by simp) (l.flatMap e ++ t)
    have ih' := ih (fun b hb => hg b (by simp [hb]))
    rw [List.length_cons, List.flatMap_cons, List.append_assoc, decN_ok _ _ _ (by rw [h1]), h1]
    simp only [List.drop_left, ih']
    simp [comb]

theorem getLs_enc {α : Type} (g : List UInt8 → α × Nat × Nat) (e : α → List UInt8) (l : List α) (t : List UInt8) (size : Nat) (hs : 1 ≤ size) (hl : l.length ≤ 9223372036854775807) (hz : l.length * size ≤ (l.flatMap e).length)
    (hg : ∀ a ∈ l, ∀ q, g (e a ++ q) = (a, (e a).length, 0)) : getLs g size (encL e l ++ t) = (l, (encL e l).length, 0) := by
  have h := getLen_enc l.length (l.flatMap e ++ t) size hs hl (by rw [List.length_append]; omega)
  have hd := decN_enc g e l t hg
  unfold encL
  rw [List.append_assoc]
  rw [getLs_of g size _ (by rw [h]) (l, (l.flatMap e).length, 0) (by rw [h]; simpa using hd), h]
  simp [comb]

theorem flat_ge {α : Type} (e : α → List UInt8) (l : List α) (h : ∀ a ∈ l, 1 ≤ (e a).length) : l.length ≤ (l.flatMap e).length := by
  induction l with
  | nil => simp
  | cons a t ih =>
    have h1 := h a (by simp)
    have h2 := ih (fun b hb => h b (by simp [hb]))
    simp only [List.flatMap_cons, List.length_append, List.length_cons]; omega
theorem getInts_enc (l : List Int) (t : List UInt8) (hl : l.length ≤ 9223372036854775807) (hI : ∀ n ∈ l, I64 n) : getLs getI 1 (encL encI l ++ t) = (l, (encL encI l).length, 0) :=
  getLs_enc getI encI l t 1 (Nat.le_refl _) hl (by rw [Nat.mul_one]; exact flat_ge encI l (fun n _ => encI_pos n)) (fun n hn q => getI_encI n (hI n hn) q)
theorem encL_pos {α : Type} (e : α → List UInt8) (l : List α) : 1 ≤ (encL e l).length := by
  unfold encL; rw [List.length_append]; have := encI_pos l.length; omega
end Go.Proofs.YtkelfcgomeojeaaDoor.M
end

section
/- The order of encodings is that of the integers. -/


namespace Go.Proofs.YtkelfcgomeojeaaDoor.M

theorem less_len : ∀ (a b : List UInt8), a.length = b.length → Op.bytesLess a b = decide (val a < val b) := by
  intro a
  induction a with
  | nil => intro b h; cases b with
    | nil => simp [Op.bytesLess, val]
    | cons _ _ => simp at h
  | cons c t ih =>
    intro b h
    cases b with
    | nil => simp at h
    | cons d u =>
      have hl : t.length = u.length := by simpa using h
      have ht := val_lt t
      have hu := val_lt u
      rw [← hl] at hu
      rw [Op.bytesLess, ih u hl, val_cons, val_cons, ← hl, Bool.eq_iff_iff]
      simp only [Bool.or_eq_true, Bool.and_eq_true, decide_eq_true_iff, beq_iff_eq]
      have hcd : (c < d) ↔ c.toNat < d.toNat := UInt8.lt_iff_toNat_lt
      rw [hcd]
      constructor
      · rintro (h1 | ⟨rfl, h1⟩)
        · have : (c.toNat + 1) * 256 ^ t.length ≤ d.toNat * 256 ^ t.length := Nat.mul_le_mul_right _ h1
          rw [Nat.add_mul] at this
          omega
        · omega
      · intro h1
        rcases Nat.lt_trichotomy c.toNat d.toNat with h2 | h2 | h2
        · exact .inl h2
        · right
          refine ⟨UInt8.toNat_inj.1 h2, ?_⟩
          rw [h2] at h1
          omega
        · exfalso
          have : (d.toNat + 1) * 256 ^ t.length ≤ c.toNat * 256 ^ t.length := Nat.mul_le_mul_right _ h2
          rw [Nat.add_mul] at this
          omega
theorem less_head (c d : UInt8) (t u : List UInt8) (h : c.toNat ≠ d.toNat) : Op.bytesLess (c :: t) (d :: u) = decide (c.toNat < d.toNat) := by
  have hne : c ≠ d := fun e => h (by rw [e])
  rw [Op.bytesLess, Bool.eq_iff_iff]
  simp [hne, UInt8.lt_iff_toNat_lt]
theorem less_same (c : UInt8) (t u : List UInt8) : Op.bytesLess (c :: t) (c :: u) = Op.bytesLess t u := by
  rw [Op.bytesLess]
  simp
theorem val_flip : ∀ l : List UInt8, val (l.map (flip true)) + val l + 1 = 256 ^ l.length := by
  intro l
  induction l with
  | nil => simp [val]
  | cons c t ih =>
    rw [List.map_cons, val_cons, val_cons, List.length_map, List.length_cons, flip_toNat]
    have hc := c.toNat_lt
    have e : (255 - c.toNat) * 256 ^ t.length + c.toNat * 256 ^ t.length = 255 * 256 ^ t.length := by rw [← Nat.add_mul]; congr 1; omega
    rw [Nat.pow_succ]
    omega
theorem nb_ge1 (m : Nat) : 1 ≤ nb m ↔ 1 ≤ m := by
  unfold nb
  repeat' split
  all_goals omega
theorem nb_ge2 (m : Nat) : 2 ≤ nb m ↔ 256 ≤ m := by
  unfold nb
  repeat' split
  all_goals omega
theorem nb_ge3 (m : Nat) : 3 ≤ nb m ↔ 65536 ≤ m := by
  unfold nb
  repeat' split
  all_goals omega
theorem nb_ge4 (m : Nat) : 4 ≤ nb m ↔ 16777216 ≤ m := by
  unfold nb
  repeat' split
  all_goals omega
theorem nb_ge5 (m : Nat) : 5 ≤ nb m ↔ 4294967296 ≤ m := by
  unfold nb
  repeat' split
  all_goals omega
theorem nb_ge6 (m : Nat) : 6 ≤ nb m ↔ 1099511627776 ≤ m := by
  unfold nb
  repeat' split
  all_goals omega
theorem nb_ge7 (m : Nat) : 7 ≤ nb m ↔ 281474976710656 ≤ m := by
  unfold nb
  repeat' split
  all_goals omega
theorem nb_ge8 (m : Nat) : 8 ≤ nb m ↔ 72057594037927936 ≤ m := by
  unfold nb
  repeat' split
  all_goals omega
theorem nb_mono (a b : Nat) (h : a ≤ b) : nb a ≤ nb b := by
  have p1 := nb_ge1 a
  have q1 := nb_ge1 b
  have p2 := nb_ge2 a
  have q2 := nb_ge2 b
  have p3 := nb_ge3 a
  have q3 := nb_ge3 b
  have p4 := nb_ge4 a
  have q4 := nb_ge4 b
  have p5 := nb_ge5 a
  have q5 := nb_ge5 b
  have p6 := nb_ge6 a
  have q6 := nb_ge6 b
  have p7 := nb_ge7 a
  have q7 := nb_ge7 b
  have p8 := nb_ge8 a
  have q8 := nb_ge8 b
  have := nb_le a
  omega

theorem encI_less (m n : Int) (hm : I64 m) (hn : I64 n) : Op.bytesLess (encI m) (encI n) = decide (m < n) := by
  have gm := mag_lt m hm
  have gn := mag_lt n hn
  have lm := digs_len (mag m) (by omega)
  have ln := digs_len (mag n) (by omega)
  have vm := val_digs 8 (mag m) (by omega)
  have vn := val_digs 8 (mag n) (by omega)
  have b1 := nb_le (mag m)
  have b2 := nb_le (mag n)
  have h1 := head_toNat m
  have h2 := head_toNat n
  have e1 := nb_mono (mag m) (mag n)
  have e2 := nb_mono (mag n) (mag m)
  by_cases hd : (UInt8.ofNat (if m < 0 then 127 - nb (mag m) else 128 + nb (mag m))).toNat = (UInt8.ofNat (if n < 0 then 127 - nb (mag n) else 128 + nb (mag n))).toNat
  · unfold encI
    rw [UInt8.toNat_inj.1 hd, less_same]
    rw [h1, h2] at hd
    have hk : nb (mag m) = nb (mag n) ∧ (m < 0 ↔ n < 0) := by split at hd <;> split at hd <;> omega
    obtain ⟨hk, hs⟩ := hk
    rw [less_len _ _ (by simp [lm, ln, hk])]
    have fm := val_flip (digs 8 (mag m))
    have fn := val_flip (digs 8 (mag n))
    rw [vm, lm] at fm
    rw [vn, ln, ← hk] at fn
    by_cases h0 : m < 0
    · have h0' : n < 0 := hs.1 h0
      simp only [h0, h0', decide_true]
      rw [Bool.eq_iff_iff, decide_eq_true_iff, decide_eq_true_iff]
      have a1 : mag m = (-1 - m).toNat := by unfold mag; rw [if_pos h0]
      have a2 : mag n = (-1 - n).toNat := by unfold mag; rw [if_pos h0']
      omega
    · have h0' : ¬ n < 0 := fun h => h0 (hs.2 h)
      simp only [h0, h0', decide_false]
      have idm : ∀ l : List UInt8, l.map (flip false) = l := fun l => by
        have : flip false = id := by funext d; rfl
        rw [this, List.map_id]
      rw [idm, idm, vm, vn, Bool.eq_iff_iff, decide_eq_true_iff, decide_eq_true_iff]
      have a1 : mag m = m.toNat := by unfold mag; rw [if_neg h0]
      have a2 : mag n = n.toNat := by unfold mag; rw [if_neg h0']
      omega
  · unfold encI
    rw [less_head _ _ _ _ hd, h1, h2, Bool.eq_iff_iff, decide_eq_true_iff, decide_eq_true_iff]
    rw [h1, h2] at hd
    by_cases h0 : m < 0 <;> by_cases h0' : n < 0 <;> simp only [h0, h0', if_true, if_false] at hd ⊢
    · have a1 : mag m = (-1 - m).toNat := by unfold mag; rw [if_pos h0]
      have a2 : mag n = (-1 - n).toNat := by unfold mag; rw [if_pos h0']
      constructor <;> intro h <;> omega
    · constructor <;> intro h <;> omega
    · constructor <;> intro h <;> omega
    · have a1 : mag m = m.toNat := by unfold mag; rw [if_neg h0]
      have a2 : mag n = n.toNat := by unfold mag; rw [if_neg h0']
      constructor <;> intro h <;> omega

theorem encI_inj (m n : Int) (hm : I64 m) (hn : I64 n) (t u : List UInt8) (h : encI m ++ t = encI n ++ u) : m = n := by
  have h1 := getI_encI m hm t
  have h2 := getI_encI n hn u
  rw [h, h2] at h1
  simp only [Prod.mk.injEq] at h1
  exact h1.1.symm
theorem encI_take (m n : Int) (hm : I64 m) (hn : I64 n) (K : Nat) (hK : K = min (encI m).length (encI n).length) (h : (encI m).take K = (encI n).take K) : m = n := by
  rcases Nat.le_total (encI m).length (encI n).length with hl | hl
  · rw [Nat.min_eq_left hl] at hK
    subst hK
    rw [List.take_length] at h
    refine encI_inj m n hm hn ((encI n).drop (encI m).length) [] ?_
    rw [List.append_nil]
    conv => rhs; rw [← List.take_append_drop (encI m).length (encI n), ← h]
  · rw [Nat.min_eq_right hl] at hK
    subst hK
    rw [List.take_length] at h
    refine encI_inj m n hm hn [] ((encI m).drop (encI n).length) ?_
    rw [List.append_nil]
    conv => lhs; rw [← List.take_append_drop (encI n).length (encI m), h]
end Go.Proofs.YtkelfcgomeojeaaDoor.M
end

section
/- A proper beginning of an encoding wants more bytes. -/

namespace Go.Proofs.YtkelfcgomeojeaaDoor.M

theorem take_mid (a b : List UInt8) (j : Nat) (h : a.length ≤ j) : (a ++ b).take j = a ++ b.take (j - a.length) := by
  rw [List.take_append, List.take_of_length_le h]
theorem take_fore (a b : List UInt8) (j : Nat) (h : j < a.length) : (a ++ b).take j = a.take j := List.take_append_of_le_length (Nat.le_of_lt h)

theorem getLen_more (n : Nat) (t : List UInt8) (size j : Nat) (hn : n ≤ 9223372036854775807) (h : j < (encI n).length) : (getLen ((encI n ++ t).take j) size).2.2 = 3 := by
  rw [take_fore _ _ _ h]
  unfold getLen
  rw [getI_more n (I64_nat n hn) j h]
  simp
theorem getLen_few (n : Nat) (t : List UInt8) (size : Nat) (hs : 1 ≤ size) (hn : n ≤ 9223372036854775807) (h : t.length < n * size) : (getLen (encI n ++ t) size).2.2 = 3 := by
  unfold getLen
  rw [getI_encI n (I64_nat n hn) t]
  simp only [ne_eq, not_true_eq_false, if_false]
  rw [if_neg (by omega), if_pos]
  rw [List.length_append]
  have e : (((encI n).length + t.length : Nat) : Int) - ((encI n).length : Nat) = (t.length : Int) := by omega
  rw [e]
  refine Int.ediv_lt_of_lt_mul (by omega) ?_
  have : ((t.length : Nat) : Int) < ((n * size : Nat) : Int) := by omega
  rwa [Int.natCast_mul] at this

theorem getB_more (s : List UInt8) (j : Nat) (hs : s.length ≤ 9223372036854775807) (h : j < (encB s).length) : (getB ((encB s).take j)).2.2 = 3 := by
  have key : (getLen ((encB s).take j) 1).2.2 = 3 := by
    unfold encB at *
    by_cases hj : j < (encI s.length).length
    · exact getLen_more _ _ _ _ hs hj
    · rw [List.length_append] at h
      rw [take_mid _ _ _ (by omega)]
      exact getLen_few _ _ _ (Nat.le_refl _) hs (by rw [List.length_take]; omega)
  unfold getB
  rw [if_pos (by rw [key]; decide), key]

theorem decN_more {α : Type} (g : List UInt8 → α × Nat × Nat) (e : α → List UInt8) (l : List α) (hg : ∀ a ∈ l, ∀ q, g (e a ++ q) = (a, (e a).length, 0)) (hm : ∀ a ∈ l, ∀ j, j < (e a).length → (g ((e a).take j)).2.2 = 3) :
    ∀ j, j < (l.flatMap e).length → (decN g l.length ((l.flatMap e).take j)).2.2 = 3 := by
  induction l with
  | nil => intro j h; simp at h
  | cons a l ih =>
    intro j h
    have ih' := ih (fun b hb => hg b (by simp [hb])) (fun b hb => hm b (by simp [hb]))
    rw [List.length_cons, List.flatMap_cons] at *
    by_cases hj : j < (e a).length
    · rw [take_fore _ _ _ hj]
      have h3 := hm a (by simp) j hj
      rw [decN_err _ _ _ (by rw [h3]; decide)]
      exact h3
    · rw [take_mid _ _ _ (by omega)]
      have h1 := hg a (by simp) ((l.flatMap e).take (j - (e a).length))
      rw [List.length_append] at h
      have h4 := ih' (j - (e a).length) (by omega)
      rw [decN_ok _ _ _ (by rw [h1]), h1]
      simp only [List.drop_left]
      unfold comb
      rw [if_pos (by rw [h4]; decide)]
      exact h4

theorem getLs_more {α : Type} (g : List UInt8 → α × Nat × Nat) (e : α → List UInt8) (l : List α) (size : Nat) (hs : 1 ≤ size) (hl : l.length ≤ 9223372036854775807)
    (hg : ∀ a ∈ l, ∀ q, g (e a ++ q) = (a, (e a).length, 0)) (hm : ∀ a ∈ l, ∀ j, j < (e a).length → (g ((e a).take j)).2.2 = 3)
    (j : Nat) (h : j < (encL e l).length) : (getLs g size ((encL e l).take j)).2.2 = 3 := by
  unfold encL at *
  by_cases hj : j < (encI l.length).length
  · have h3 := getLen_more l.length (l.flatMap e) size j hl hj
    rw [getLs_err _ _ _ (by rw [h3]; decide)]
    exact h3
  · rw [List.length_append] at h
    rw [take_mid _ _ _ (by omega)]
    by_cases hf : ((l.flatMap e).take (j - (encI l.length).length)).length < l.length * size
    · have h3 := getLen_few l.length _ size hs hl hf
      rw [getLs_err _ _ _ (by rw [h3]; decide)]
      exact h3
    · have hE := getLen_enc l.length ((l.flatMap e).take (j - (encI l.length).length)) size hs hl (by omega)
      have h4 := decN_more g e l hg hm (j - (encI l.length).length) (by omega)
      rw [getLs_of g size _ (by rw [hE]) (decN g l.length ((l.flatMap e).take (j - (encI l.length).length))) (by rw [hE]; simp)]
      unfold comb
      rw [if_pos (by rw [h4]; decide)]
      exact h4

theorem getLs_short {α : Type} (g : List UInt8 → α × Nat × Nat) (n : Nat) (D : List UInt8) (size : Nat) (hs : 1 ≤ size) (hn : n ≤ 9223372036854775807) (hD : D.length = n * size)
    (j : Nat) (h : j < (encI n ++ D).length) : (getLs g size ((encI n ++ D).take j)).2.2 = 3 := by
  have key : (getLen ((encI n ++ D).take j) size).2.2 = 3 := by
    by_cases hj : j < (encI n).length
    · exact getLen_more _ _ _ _ hn hj
    · rw [List.length_append] at h
      rw [take_mid _ _ _ (by omega)]
      exact getLen_few _ _ _ hs hn (by rw [List.length_take]; omega)
  rw [getLs_err _ _ _ (by rw [key]; decide)]
  exact key
end Go.Proofs.YtkelfcgomeojeaaDoor.M
end

section
/- The number read by its own way: what is too great; what is not the shortest. -/

namespace Go.Proofs.YtkelfcgomeojeaaDoor.M

theorem val_big (L : List UInt8) (j : Nat) (hj : j < L.length) (h : 36028797018963967 < val (L.take j)) : 9223372036854775807 < val L := by
  have h1 : val L = val (L.take j) * 256 ^ (L.drop j).length + val (L.drop j) := by rw [← val_append, List.take_append_drop]
  have h2 : 256 ^ 1 ≤ 256 ^ (L.drop j).length := Nat.pow_le_pow_right (by decide) (by rw [List.length_drop]; omega)
  have h3 : val (L.take j) * 256 ^ 1 ≤ val (L.take j) * 256 ^ (L.drop j).length := Nat.mul_le_mul_left _ h2
  omega
theorem val_next (L : List UInt8) (j : Nat) (hj : j < L.length) : val (L.take (j + 1)) = val (L.take j) * 256 + (L[j]).toNat := by
  rw [List.take_succ_eq_append_getElem hj, val_snoc]

theorem getI_yes (c : UInt8) (rest : List UInt8) (h8 : kOf c ≤ 8) (hl : kOf c ≤ rest.length) (hX : mOf c rest ≤ 9223372036854775807) (n : Int) (hn : n = if c.toNat < 128 then -1 - (mOf c rest : Int) else (mOf c rest : Int))
    (hk : nb (mOf c rest) = kOf c) : getI (c :: rest) = (n, 1 + kOf c, 0) ∧ encI n = (c :: rest).take (kOf c + 1) := by
  have h1 : getI (c :: rest) = (n, 1 + kOf c, 0) := by rw [getI_cons, if_neg (by omega), if_neg (by omega), if_neg (by omega), hn]
  obtain ⟨-, -, h2, -⟩ := getI_back _ _ _ h1
  exact ⟨h1, by rw [← h2, Nat.add_comm]⟩
theorem getI_no (c : UInt8) (rest : List UInt8) (h8 : kOf c ≤ 8) (hl : kOf c ≤ rest.length) (hX : mOf c rest ≤ 9223372036854775807) (n : Int) (hn : n = if c.toNat < 128 then -1 - (mOf c rest : Int) else (mOf c rest : Int))
    (hk : nb (mOf c rest) ≠ kOf c) : getI (c :: rest) = (0, 0, 2) ∧ encI n ≠ (c :: rest).take (kOf c + 1) := by
  have hI : I64 n := by rw [hn]; unfold I64; split <;> omega
  have hm : mag n = mOf c rest := by rw [hn]; unfold mag; split <;> split <;> omega
  refine ⟨by rw [getI_cons, if_neg (by omega), if_neg (by omega), if_pos (by omega)], fun e => ?_⟩
  have h2 := congrArg List.length e
  rw [encI_len n hI, hm, List.length_take, List.length_cons] at h2
  omega
theorem getI_great (c : UInt8) (rest : List UInt8) (h8 : kOf c ≤ 8) (hl : kOf c ≤ rest.length) (hX : 9223372036854775807 < mOf c rest) : getI (c :: rest) = (0, 0, 2) := by
  rw [getI_cons, if_neg (by omega), if_neg (by omega), if_pos (by omega)]
end Go.Proofs.YtkelfcgomeojeaaDoor.M
end

