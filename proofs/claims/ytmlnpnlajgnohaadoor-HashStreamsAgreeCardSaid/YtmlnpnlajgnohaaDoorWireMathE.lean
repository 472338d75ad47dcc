/- The order of encodings is that of the integers. -/
import Derived.Test.YtmlnpnlajgnohaaDoorWireMathC
import GoSem.Op.String
namespace Go.Proofs.YtmlnpnlajgnohaaDoor.M

theorem less_len : ∀ (a b : List UInt8), a.length = b.length → Op.bytesLess a b = decide (val a < val b) := by
  intro a
  induction a with
  | nil => intro b h; cases b with
    | nil => simp [Op.bytesLess, val]
    | cons _ _ => simp at h
  | cons c t ih =>
    intro b h
    cases b with
    | nil => simp at h
    | cons d u =>
      have hl : t.length = u.length := by simpa using h
      have ht := val_lt t
      have hu := val_lt u
      rw [← hl] at hu
      rw [Op.bytesLess, ih u hl, val_cons, val_cons, ← hl, Bool.eq_iff_iff]
      simp only [Bool.or_eq_true, Bool.and_eq_true, decide_eq_true_iff, beq_iff_eq]
      have hcd : (c < d) ↔ c.toNat < d.toNat := UInt8.lt_iff_toNat_lt
      rw [hcd]
      constructor
      · rintro (h1 | ⟨rfl, h1⟩)
        · have : (c.toNat + 1) * 256 ^ t.length ≤ d.toNat * 256 ^ t.length := Nat.mul_le_mul_right _ h1
          rw [Nat.add_mul] at this
          omega
        · omega
      · intro h1
        rcases Nat.lt_trichotomy c.toNat d.toNat with h2 | h2 | h2
        · exact .inl h2
        · right
          refine ⟨UInt8.toNat_inj.1 h2, ?_⟩
          rw [h2] at h1
          omega
        · exfalso
          have : (d.toNat + 1) * 256 ^ t.length ≤ c.toNat * 256 ^ t.length := Nat.mul_le_mul_right _ h2
          rw [Nat.add_mul] at this
          omega
theorem less_head (c d : UInt8) (t u : List UInt8) (h : c.toNat ≠ d.toNat) : Op.bytesLess (c :: t) (d :: u) = decide (c.toNat < d.toNat) := by
  have hne : c ≠ d := fun e => h (by rw [e])
  rw [Op.bytesLess, Bool.eq_iff_iff]
  simp [hne, UInt8.lt_iff_toNat_lt]
theorem less_same (c : UInt8) (t u : List UInt8) : Op.bytesLess (c :: t) (c :: u) = Op.bytesLess t u := by
  rw [Op.bytesLess]
  simp
theorem val_flip : ∀ l : List UInt8, val (l.map (flip true)) + val l + 1 = 256 ^ l.length := by
  intro l
  induction l with
  | nil => simp [val]
  | cons c t ih =>
    rw [List.map_cons, val_cons, val_cons, List.length_map, List.length_cons, flip_toNat]
    have hc := c.toNat_lt
    have e : (255 - c.toNat) * 256 ^ t.length + c.toNat * 256 ^ t.length = 255 * 256 ^ t.length := by rw [← Nat.add_mul]; congr 1; omega
    rw [Nat.pow_succ]
    omega
theorem nb_ge1 (m : Nat) : 1 ≤ nb m ↔ 1 ≤ m := by
  unfold nb
  repeat' split
  all_goals omega
theorem nb_ge2 (m : Nat) : 2 ≤ nb m ↔ 256 ≤ m := by
  unfold nb
  repeat' split
  all_goals omega
theorem nb_ge3 (m : Nat) : 3 ≤ nb m ↔ 65536 ≤ m := by
  unfold nb
  repeat' split
  all_goals omega
theorem nb_ge4 (m : Nat) : 4 ≤ nb m ↔ 16777216 ≤ m := by
  unfold nb
  repeat' split
  all_goals omega
theorem nb_ge5 (m : Nat) : 5 ≤ nb m ↔ 4294967296 ≤ m := by
  unfold nb
  repeat' split
  all_goals omega
theorem nb_ge6 (m : Nat) : 6 ≤ nb m ↔ 1099511627776 ≤ m := by
  unfold nb
  repeat' split
  all_goals omega
theorem nb_ge7 (m : Nat) : 7 ≤ nb m ↔ 281474976710656 ≤ m := by
  unfold nb
  repeat' split
  all_goals omega
theorem nb_ge8 (m : Nat) : 8 ≤ nb m ↔ 72057594037927936 ≤ m := by
  unfold nb
  repeat' split
  all_goals omega
theorem nb_mono (a b : Nat) (h : a ≤ b) : nb a ≤ nb b := by
  have p1 := nb_ge1 a
  have q1 := nb_ge1 b
  have p2 := nb_ge2 a
  have q2 := nb_ge2 b
  have p3 := nb_ge3 a
  have q3 := nb_ge3 b
  have p4 := nb_ge4 a
  have q4 := nb_ge4 b
  have p5 := nb_ge5 a
  have q5 := nb_ge5 b
  have p6 := nb_ge6 a
  have q6 := nb_ge6 b
  have p7 := nb_ge7 a
  have q7 := nb_ge7 b
  have p8 := nb_ge8 a
  have q8 := nb_ge8 b
  have := nb_le a
  omega

theorem encI_less (m n : Int) (hm : I64 m) (hn : I64 n) : Op.bytesLess (encI m) (encI n) = decide (m < n) := by
  have gm := mag_lt m hm
  have gn := mag_lt n hn
  have lm := digs_len (mag m) (by omega)
  have ln := digs_len (mag n) (by omega)
  have vm := val_digs 8 (mag m) (by omega)
  have vn := val_digs 8 (mag n) (by omega)
  have b1 := nb_le (mag m)
  have b2 := nb_le (mag n)
  have h1 := head_toNat m
  have h2 := head_toNat n
  have e1 := nb_mono (mag m) (mag n)
  have e2 := nb_mono (mag n) (mag m)
  by_cases hd : (UInt8.ofNat (if m < 0 then 127 - nb (mag m) else 128 + nb (mag m))).toNat = (UInt8.ofNat (if n < 0 then 127 - nb (mag n) else 128 + nb (mag n))).toNat
  · unfold encI
    rw [UInt8.toNat_inj.1 hd, less_same]
    rw [h1, h2] at hd
    have hk : nb (mag m) = nb (mag n) ∧ (m < 0 ↔ n < 0) := by split at hd <;> split at hd <;> omega
    obtain ⟨hk, hs⟩ := hk
    rw [less_len _ _ (by simp [lm, ln, hk])]
    have fm := val_flip (digs 8 (mag m))
    have fn := val_flip (digs 8 (mag n))
    rw [vm, lm] at fm
    rw [vn, ln, ← hk] at fn
    by_cases h0 : m < 0
    · have h0' : n < 0 := hs.1 h0
      simp only [h0, h0', decide_true]
      rw [Bool.eq_iff_iff, decide_eq_true_iff, decide_eq_true_iff]
      have a1 : mag m = (-1 - m).toNat := by unfold mag; rw [if_pos h0]
      have a2 : mag n = (-1 - n).toNat := by unfold mag; rw [if_pos h0']
      omega
    · have h0' : ¬ n < 0 := fun h => h0 (hs.2 h)
      simp only [h0, h0', decide_false]
      have idm : ∀ l : List UInt8, l.map (flip false) = l := fun l => by
        have : flip false = id := by funext d; rfl
        rw [this, List.map_id]
      rw [idm, idm, vm, vn, Bool.eq_iff_iff, decide_eq_true_iff, decide_eq_true_iff]
      have a1 : mag m = m.toNat := by unfold mag; rw [if_neg h0]
      have a2 : mag n = n.toNat := by unfold mag; rw [if_neg h0']
      omega
  · unfold encI
    rw [less_head _ _ _ _ hd, h1, h2, Bool.eq_iff_iff, decide_eq_true_iff, decide_eq_true_iff]
    rw [h1, h2] at hd
    by_cases h0 : m < 0 <;> by_cases h0' : n < 0 <;> simp only [h0, h0', if_true, if_false] at hd ⊢
    · have a1 : mag m = (-1 - m).toNat := by unfold mag; rw [if_pos h0]
      have a2 : mag n = (-1 - n).toNat := by unfold mag; rw [if_pos h0']
      constructor <;> intro h <;> omega
    · constructor <;> intro h <;> omega
    · constructor <;> intro h <;> omega
    · have a1 : mag m = m.toNat := by unfold mag; rw [if_neg h0]
      have a2 : mag n = n.toNat := by unfold mag; rw [if_neg h0']
      constructor <;> intro h <;> omega

theorem encI_inj (m n : Int) (hm : I64 m) (hn : I64 n) (t u : List UInt8) (h : encI m ++ t = encI n ++ u) : m = n := by
  have h1 := getI_encI m hm t
  have h2 := getI_encI n hn u
  rw [h, h2] at h1
  simp only [Prod.mk.injEq] at h1
  exact h1.1.symm
theorem encI_take (m n : Int) (hm : I64 m) (hn : I64 n) (K : Nat) (hK : K = min (encI m).length (encI n).length) (h : (encI m).take K = (encI n).take K) : m = n := by
  rcases Nat.le_total (encI m).length (encI n).length with hl | hl
  · rw [Nat.min_eq_left hl] at hK
    subst hK
    rw [List.take_length] at h
    refine encI_inj m n hm hn ((encI n).drop (encI m).length) [] ?_
    rw [List.append_nil]
    conv => rhs; rw [← List.take_append_drop (encI m).length (encI n), ← h]
  · rw [Nat.min_eq_right hl] at hK
    subst hK
    rw [List.take_length] at h
    refine encI_inj m n hm hn [] ((encI m).drop (encI n).length) ?_
    rw [List.append_nil]
    conv => lhs; rw [← List.take_append_drop (encI n).length (encI m), h]
end Go.Proofs.YtmlnpnlajgnohaaDoor.M
