namespace Go.Proofs.YtkenfgifhebnpaaDoor.M

/-- Big-endian digits in base 256, at most f of them, none at the head zero. -/
def digs : Nat → Nat → List UInt8
  | 0, _ => []
  | f + 1, m => if m = 0 then [] else digs f (m / 256) ++ [UInt8.ofNat m]

/-- How many such digits a number below 2^64 has. -/
def nb (m : Nat) : Nat :=
  if m = 0 then 0 else if m < 256 then 1 else if m < 65536 then 2 else if m < 16777216 then 3 else if m < 4294967296 then 4
  else if m < 1099511627776 then 5 else if m < 281474976710656 then 6 else if m < 72057594037927936 then 7 else 8

def mag (n : Int) : Nat := if n < 0 then (-1 - n).toNat else n.toNat
def flip (neg : Bool) (d : UInt8) : UInt8 := if neg then 255 - d else d
def encI (n : Int) : List UInt8 :=
  UInt8.ofNat (if n < 0 then 127 - nb (mag n) else 128 + nb (mag n)) :: (digs 8 (mag n)).map (flip (decide (n < 0)))
def val (l : List UInt8) : Nat := l.foldl (fun a c => a * 256 + c.toNat) 0

def kOf (c : UInt8) : Nat := if c.toNat < 128 then 127 - c.toNat else c.toNat - 128
def mOf (c : UInt8) (rest : List UInt8) : Nat := val ((rest.take (kOf c)).map (flip (decide (c.toNat < 128))))
/-- The value, the number of bytes, the error (2: ErrForm, 3: ErrMore). -/
def getI : List UInt8 → Int × Nat × Nat
  | [] => (0, 0, 3)
  | c :: rest =>
    if 8 < kOf c then (0, 0, 2)
    else if rest.length < kOf c then (0, 0, 3)
    else if kOf c ≠ nb (mOf c rest) ∨ 9223372036854775807 < mOf c rest then (0, 0, 2)
    else (if c.toNat < 128 then -1 - (mOf c rest : Int) else (mOf c rest : Int), 1 + kOf c, 0)

theorem getI_cons (c : UInt8) (rest : List UInt8) : getI (c :: rest) = (if 8 < kOf c then (0, 0, 2)
    else if rest.length < kOf c then (0, 0, 3)
    else if kOf c ≠ nb (mOf c rest) ∨ 9223372036854775807 < mOf c rest then (0, 0, 2)
    else (if c.toNat < 128 then -1 - (mOf c rest : Int) else (mOf c rest : Int), 1 + kOf c, 0)) := rfl

theorem digs_zero (f : Nat) : digs f 0 = [] := by cases f <;> simp [digs]

theorem nb_le (m : Nat) : nb m ≤ 8 := by unfold nb; repeat' split <;> try omega

theorem digs_len1 (f m : Nat) (h : m < 256 ^ f) : (digs f m).length = if m = 0 then 0 else 1 + (digs (f - 1) (m / 256)).length := by
  cases f with
  | zero => have : m = 0 := by simp at h; exact h
            simp [digs, this]
  | succ f => by_cases hm : m = 0 <;> simp [digs, hm]; omega

theorem digs_len (m : Nat) (h : m < 18446744073709551616) : (digs 8 m).length = nb m := by
  have e : ∀ f x, (digs (f+1) x).length = if x = 0 then 0 else 1 + (digs f (x / 256)).length := by
    intro f x; by_cases hx : x = 0 <;> simp [digs, hx]; omega
  have e0 : ∀ x, (digs 0 x).length = 0 := fun x => rfl
  simp only [e, e0]
  unfold nb
  repeat' split
  all_goals omega

theorem val_append (a b : List UInt8) : val (a ++ b) = val a * 256 ^ b.length + val b := by
  have g : ∀ (l : List UInt8) (x : Nat), l.foldl (fun a c => a * 256 + c.toNat) x = x * 256 ^ l.length + l.foldl (fun a c => a * 256 + c.toNat) 0 := by
    intro l
    induction l with
    | nil => intro x; simp
    | cons c t ih => intro x; simp only [List.foldl_cons, List.length_cons]; rw [ih (x * 256 + c.toNat), ih (0 * 256 + c.toNat)]; rw [Nat.pow_succ]; simp only [Nat.zero_mul, Nat.zero_add, Nat.add_mul]; rw [Nat.mul_assoc, Nat.mul_comm 256, Nat.add_assoc]
  unfold val
  rw [List.foldl_append, g b]
theorem val_snoc (a : List UInt8) (c : UInt8) : val (a ++ [c]) = val a * 256 + c.toNat := by simp [val]

theorem val_cons (c : UInt8) (t : List UInt8) : val (c :: t) = c.toNat * 256 ^ t.length + val t := by
  rw [show c :: t = [c] ++ t from rfl, val_append]; simp [val]
theorem val_lt (l : List UInt8) : val l < 256 ^ l.length := by
  induction l with
  | nil => simp [val]
  | cons c t ih =>
    rw [val_cons, List.length_cons, Nat.pow_succ]
    have hc : c.toNat < 256 := c.toNat_lt
    have : c.toNat * 256 ^ t.length ≤ 255 * 256 ^ t.length := Nat.mul_le_mul_right _ (by omega)
    omega
theorem val_inj : ∀ (a b : List UInt8), a.length = b.length → val a = val b → a = b := by
  intro a
  induction a with
  | nil => intro b h _; cases b with
    | nil => rfl
    | cons _ _ => simp at h
  | cons c t ih =>
    intro b h hv
    cases b with
    | nil => simp at h
    | cons d u =>
      have hl : t.length = u.length := by simpa using h
      rw [val_cons, val_cons, ← hl] at hv
      have ht := val_lt t
      have hu := val_lt u
      rw [← hl] at hu
      have hp : 0 < 256 ^ t.length := Nat.pow_pos (by omega)
      have e1 : c.toNat = d.toNat := by
        have q1 : (c.toNat * 256 ^ t.length + val t) / 256 ^ t.length = c.toNat := by
          rw [Nat.mul_comm, Nat.mul_add_div hp, Nat.div_eq_of_lt ht]; rfl
        have q2 : (d.toNat * 256 ^ t.length + val u) / 256 ^ t.length = d.toNat := by
          rw [Nat.mul_comm, Nat.mul_add_div hp, Nat.div_eq_of_lt hu]; rfl
        rw [← q1, hv, q2]
      have e2 : val t = val u := by rw [e1] at hv; omega
      rw [ih u hl e2, UInt8.toNat_inj.1 e1]
theorem val_digs : ∀ (f m : Nat), m < 256 ^ f → val (digs f m) = m := by
  intro f
  induction f with
  | zero => intro m h; simp at h; subst h; simp [digs, val]
  | succ f ih =>
    intro m h
    by_cases hm : m = 0
    · subst hm; simp [digs, val]
    · simp only [digs, if_neg hm]
      rw [val_snoc, ih (m / 256) (by rw [Nat.pow_succ] at h; omega)]
      have : (UInt8.ofNat m).toNat = m % 256 := by simp
      omega
theorem digs_val (l : List UInt8) (h : l.length = nb (val l)) : digs 8 (val l) = l := by
  have h8 := nb_le (val l)
  have hv := val_lt l
  have h64 : val l < 256 ^ 8 := Nat.lt_of_lt_of_le hv (Nat.pow_le_pow_right (by omega) (by omega))
  refine val_inj _ _ ?_ (val_digs 8 _ h64)
  rw [digs_len _ (by omega), h]

theorem flip_flip (b : Bool) (d : UInt8) : flip b (flip b d) = d := by
  cases b
  · rfl
  · simp only [flip, if_true]
    apply UInt8.toNat_inj.1
    have h := d.toNat_lt
    have e : (255 - d).toNat = 255 - d.toNat := by rw [UInt8.toNat_sub_of_le _ _ (by rw [UInt8.le_iff_toNat_le]; simp; omega)]; rfl
    have h2 : (255 - d) ≤ 255 := by rw [UInt8.le_iff_toNat_le, e]; simp
    rw [UInt8.toNat_sub_of_le _ _ h2, e]; simp; omega
theorem flip_toNat (d : UInt8) : (flip true d).toNat = 255 - d.toNat := by
  have h := d.toNat_lt
  simp only [flip, if_true]
  rw [UInt8.toNat_sub_of_le _ _ (by rw [UInt8.le_iff_toNat_le]; simp; omega)]; rfl
theorem map_flip_flip (b : Bool) (l : List UInt8) : (l.map (flip b)).map (flip b) = l := by
  rw [List.map_map]
  have : (flip b ∘ flip b) = id := by funext d; exact flip_flip b d
  rw [this, List.map_id]

/-- An int of 64 bits. -/
def I64 (n : Int) : Prop := -9223372036854775808 ≤ n ∧ n ≤ 9223372036854775807
theorem mag_lt (n : Int) (h : I64 n) : mag n < 9223372036854775808 := by
  unfold I64 at h; unfold mag; split <;> omega

theorem encI_len (n : Int) (h : I64 n) : (encI n).length = 1 + nb (mag n) := by
  have := mag_lt n h
  simp [encI, digs_len (mag n) (by omega)]; omega
theorem encI_pos (n : Int) : 1 ≤ (encI n).length := by simp [encI]
theorem encI_len_le (n : Int) (h : I64 n) : (encI n).length ≤ 9 := by
  rw [encI_len n h]; have := nb_le (mag n); omega
theorem head_toNat (n : Int) : (UInt8.ofNat (if n < 0 then 127 - nb (mag n) else 128 + nb (mag n))).toNat = (if n < 0 then 127 - nb (mag n) else 128 + nb (mag n)) := by
  have := nb_le (mag n)
  simp only [UInt8.toNat_ofNat']
  split <;> omega
theorem kOf_head (n : Int) : kOf (UInt8.ofNat (if n < 0 then 127 - nb (mag n) else 128 + nb (mag n))) = nb (mag n) := by
  have := nb_le (mag n)
  unfold kOf
  rw [head_toNat]
  split <;> split <;> omega
theorem neg_head (n : Int) : ((UInt8.ofNat (if n < 0 then 127 - nb (mag n) else 128 + nb (mag n))).toNat < 128) ↔ n < 0 := by
  have := nb_le (mag n)
  rw [head_toNat]
  split <;> omega
theorem mag_back (n : Int) : (if n < 0 then -1 - (mag n : Int) else (mag n : Int)) = n := by
  unfold mag; split <;> omega

theorem getI_encI (n : Int) (h : I64 n) (t : List UInt8) : getI (encI n ++ t) = (n, (encI n).length, 0) := by
  have hm := mag_lt n h
  have h8 := nb_le (mag n)
  have hd := digs_len (mag n) (by omega)
  rw [encI_len n h]
  unfold encI
  rw [List.cons_append]
  unfold getI
  have hk := kOf_head n
  have hmOf : mOf (UInt8.ofNat (if n < 0 then 127 - nb (mag n) else 128 + nb (mag n))) ((digs 8 (mag n)).map (flip (decide (n < 0))) ++ t) = mag n := by
    unfold mOf
    rw [hk, List.take_append_of_le_length (by simp [hd]), List.take_of_length_le (by simp [hd])]
    have : decide ((UInt8.ofNat (if n < 0 then 127 - nb (mag n) else 128 + nb (mag n))).toNat < 128) = decide (n < 0) := by
      rw [decide_eq_decide]; exact neg_head n
    rw [this, map_flip_flip, val_digs 8 (mag n) (by omega)]
  simp only [hmOf, hk]
  rw [if_neg (by omega), if_neg (by simp [hd]), if_neg (by omega)]
  simp only [neg_head]
  rw [mag_back n]

theorem getI_more (n : Int) (h : I64 n) (j : Nat) (hj : j < (encI n).length) : getI ((encI n).take j) = (0, 0, 3) := by
  have hm := mag_lt n h
  have h8 := nb_le (mag n)
  have hd := digs_len (mag n) (by omega)
  rw [encI_len n h] at hj
  cases j with
  | zero => simp [getI]
  | succ j =>
    unfold encI
    rw [List.take_succ_cons]
    unfold getI
    simp only [kOf_head]
    rw [if_neg (by omega), if_pos (by simp [hd]; omega)]

theorem getI_back (l : List UInt8) (n : Int) (u : Nat) (h : getI l = (n, u, 0)) : I64 n ∧ u ≤ l.length ∧ l.take u = encI n ∧ u = (encI n).length := by
  cases l with
  | nil => simp [getI] at h
  | cons c rest =>
    rw [getI_cons] at h
    by_cases h1 : 8 < kOf c
    · rw [if_pos h1] at h; simp at h
    rw [if_neg h1] at h
    by_cases h2 : rest.length < kOf c
    · rw [if_pos h2] at h; simp at h
    rw [if_neg h2] at h
    by_cases h3 : kOf c ≠ nb (mOf c rest) ∨ 9223372036854775807 < mOf c rest
    · rw [if_pos h3] at h; simp at h
    rw [if_neg h3] at h
    simp only [Prod.mk.injEq, and_true] at h
    obtain ⟨hn, hu⟩ := h
    have h3a : kOf c = nb (mOf c rest) := by omega
    have h3b : mOf c rest ≤ 9223372036854775807 := by omega
    have hc := c.toNat_lt
    have hneg : n < 0 ↔ c.toNat < 128 := by split at hn <;> omega
    have hmag : mag n = mOf c rest := by unfold mag; split at hn <;> split <;> omega
    have hI : I64 n := by unfold I64; split at hn <;> omega
    have hlen : (List.take (kOf c) rest).length = kOf c := by simp; omega
    have hd : digs 8 (mOf c rest) = (rest.take (kOf c)).map (flip (decide (c.toNat < 128))) := by
      unfold mOf
      apply digs_val
      rw [List.length_map, hlen]
      exact h3a
    have hdec : decide (n < 0) = decide (c.toNat < 128) := by rw [decide_eq_decide]; exact hneg
    have henc : encI n = c :: rest.take (kOf c) := by
      unfold encI
      rw [hmag, hd, hdec, map_flip_flip]
      congr 1
      apply UInt8.toNat_inj.1
      simp only [UInt8.toNat_ofNat', hneg, ← h3a]
      unfold kOf
      unfold kOf at h1
      split <;> omega
    refine ⟨hI, by simp; omega, ?_, ?_⟩
    · rw [henc, ← hu, Nat.add_comm, List.take_succ_cons]
    · rw [henc, List.length_cons, hlen]; omega
theorem getI_err (l : List UInt8) (h : (getI l).2.2 ≠ 0) : (getI l).1 = 0 ∧ (getI l).2.1 = 0 := by
  cases l with
  | nil => exact ⟨rfl, rfl⟩
  | cons c rest =>
    rw [getI_cons] at h ⊢
    by_cases h1 : 8 < kOf c
    · rw [if_pos h1]; exact ⟨rfl, rfl⟩
    rw [if_neg h1] at h ⊢
    by_cases h2 : rest.length < kOf c
    · rw [if_pos h2]; exact ⟨rfl, rfl⟩
    rw [if_neg h2] at h ⊢
    by_cases h3 : kOf c ≠ nb (mOf c rest) ∨ 9223372036854775807 < mOf c rest
    · rw [if_pos h3]; exact ⟨rfl, rfl⟩
    · rw [if_neg h3] at h; exact absurd rfl h

/-- The j lowest digits, the most significant first. -/
def lowd : Nat → Nat → List UInt8
  | 0, _ => []
  | j + 1, m => UInt8.ofNat (m / 256 ^ j) :: lowd j m
theorem lowd_len (j m : Nat) : (lowd j m).length = j := by induction j with
  | zero => rfl
  | succ j ih => simp [lowd, ih]
theorem digs_step (g j m : Nat) (h : digs 8 m = digs (g + 1) (m / 256 ^ j) ++ lowd j m) (h0 : m / 256 ^ j ≠ 0) : digs 8 m = digs g (m / 256 ^ (j + 1)) ++ lowd (j + 1) m := by
  rw [h]
  simp only [digs, if_neg h0, lowd, List.append_assoc, List.singleton_append, Nat.div_div_eq_div_mul, Nat.pow_succ]
theorem div_pow_lt (m : Nat) (h : m < 9223372036854775808) : m / 256 ^ 8 = 0 := Nat.div_eq_of_lt (by omega)

def encB (l : List UInt8) : List UInt8 := encI l.length ++ l
def encL {α : Type} (e : α → List UInt8) (l : List α) : List UInt8 := encI l.length ++ l.flatMap e
theorem flat_take {α : Type} (e : α → List UInt8) (l : List α) (k : Nat) (h : k < l.length) : (l.take (k + 1)).flatMap e = (l.take k).flatMap e ++ e l[k] := by
  rw [List.take_succ_eq_append_getElem h, List.flatMap_append]; simp
theorem I64_nat (n : Nat) (h : n ≤ 9223372036854775807) : I64 n := ⟨by omega, by omega⟩
theorem flat_ints (l : List Int) (h : ∀ n ∈ l, I64 n) : (l.flatMap encI).length ≤ 9 * l.length := by
  induction l with
  | nil => simp
  | cons a t ih =>
    have h1 := encI_len_le a (h a (by simp))
    have h2 := ih (fun n hn => h n (by simp [hn]))
    simp only [List.flatMap_cons, List.length_append, List.length_cons]; omega
end Go.Proofs.YtkenfgifhebnpaaDoor.M
