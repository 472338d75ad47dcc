/- More plain mathematics of the encodings of lists. -/
import Derived.Test.YtmlnpnlajgnohaaDoorWireMath
namespace Go.Proofs.YtmlnpnlajgnohaaDoor.M

theorem flat_part {α : Type} (e : α → List UInt8) (l : List α) (k : Nat) : ((l.take k).flatMap e).length ≤ (l.flatMap e).length := by
  have h : l.flatMap e = (l.take k).flatMap e ++ (l.drop k).flatMap e := by rw [← List.flatMap_append, List.take_append_drop]
  rw [h, List.length_append]; omega
theorem flat_mem {α : Type} (e : α → List UInt8) (l : List α) (x : α) (h : x ∈ l) : (e x).length ≤ (l.flatMap e).length := by
  induction l with
  | nil => simp at h
  | cons a t ih =>
    simp only [List.flatMap_cons, List.length_append]
    rcases List.mem_cons.1 h with rfl | h
    · omega
    · have := ih h; omega

/-- A length before elements of at least size bytes: the number, the bytes used, the error. -/
def getLen (l : List UInt8) (size : Nat) : Int × Nat × Nat :=
  if (getI l).2.2 ≠ 0 then (0, 0, (getI l).2.2)
  else if (getI l).1 < 0 then (0, 0, 2)
  else if ((l.length : Int) - (getI l).2.1) / size < (getI l).1 then (0, 0, 3)
  else ((getI l).1, (getI l).2.1, 0)
def getB (l : List UInt8) : List UInt8 × Nat × Nat :=
  if (getLen l 1).2.2 ≠ 0 then ([], 0, (getLen l 1).2.2)
  else ((l.drop (getLen l 1).2.1).take (getLen l 1).1.toNat, (getLen l 1).2.1 + (getLen l 1).1.toNat, 0)
/-- k elements, one behind the other: the elements, the bytes used, the error. -/
def decN {α : Type} (g : List UInt8 → α × Nat × Nat) : Nat → List UInt8 → List α × Nat × Nat
  | 0, _ => ([], 0, 0)
  | k + 1, l =>
    if (g l).2.2 ≠ 0 then ([], 0, (g l).2.2)
    else if (decN g k (l.drop (g l).2.1)).2.2 ≠ 0 then ([], 0, (decN g k (l.drop (g l).2.1)).2.2)
    else ((g l).1 :: (decN g k (l.drop (g l).2.1)).1, (g l).2.1 + (decN g k (l.drop (g l).2.1)).2.1, 0)
def getLs {α : Type} (g : List UInt8 → α × Nat × Nat) (size : Nat) (l : List UInt8) : List α × Nat × Nat :=
  if (getLen l size).2.2 ≠ 0 then ([], 0, (getLen l size).2.2)
  else if (decN g (getLen l size).1.toNat (l.drop (getLen l size).2.1)).2.2 ≠ 0 then ([], 0, (decN g (getLen l size).1.toNat (l.drop (getLen l size).2.1)).2.2)
  else ((decN g (getLen l size).1.toNat (l.drop (getLen l size).2.1)).1, (getLen l size).2.1 + (decN g (getLen l size).1.toNat (l.drop (getLen l size).2.1)).2.1, 0)

theorem getI_ok (l : List UInt8) (h : (getI l).2.2 = 0) : I64 (getI l).1 ∧ (getI l).2.1 ≤ l.length ∧ l.take (getI l).2.1 = encI (getI l).1 ∧ (getI l).2.1 = (encI (getI l).1).length := by
  have := getI_back l (getI l).1 (getI l).2.1 (by rw [← h])
  exact this
theorem getI_used (l : List UInt8) : (getI l).2.1 ≤ l.length := by
  by_cases h : (getI l).2.2 = 0
  · exact (getI_ok l h).2.1
  · rw [(getI_err l h).2]; omega
theorem getLen_ok (l : List UInt8) (size : Nat) (hs : 1 ≤ size) (h : (getLen l size).2.2 = 0) :
    (getI l).2.2 = 0 ∧ (getLen l size).1 = (getI l).1 ∧ (getLen l size).2.1 = (getI l).2.1 ∧ 0 ≤ (getI l).1 ∧ (getI l).1 * size ≤ (l.length : Int) - (getI l).2.1 := by
  unfold getLen at h ⊢
  by_cases h1 : (getI l).2.2 ≠ 0
  · rw [if_pos h1] at h; exact absurd h h1
  rw [if_neg h1] at h ⊢
  by_cases h2 : (getI l).1 < 0
  · rw [if_pos h2] at h; exact absurd h (by simp)
  rw [if_neg h2] at h ⊢
  by_cases h3 : ((l.length : Int) - (getI l).2.1) / size < (getI l).1
  · rw [if_pos h3] at h; exact absurd h (by simp)
  rw [if_neg h3]
  refine ⟨by omega, rfl, rfl, by omega, ?_⟩
  have hsz : (0 : Int) < size := by omega
  exact Int.mul_le_of_le_ediv hsz (by omega)
theorem getLen_err (l : List UInt8) (size : Nat) (h : (getLen l size).2.2 ≠ 0) : (getLen l size).1 = 0 ∧ (getLen l size).2.1 = 0 := by
  unfold getLen at h ⊢
  repeat' split
  all_goals first | exact ⟨rfl, rfl⟩ | (exfalso; simp_all)

def comb {α : Type} (L : List α) (u : Nat) (r : List α × Nat × Nat) : List α × Nat × Nat := if r.2.2 ≠ 0 then ([], 0, r.2.2) else (L ++ r.1, u + r.2.1, 0)
theorem decN_err {α : Type} (g : List UInt8 → α × Nat × Nat) (k : Nat) (q : List UInt8) (h : (g q).2.2 ≠ 0) : decN g (k + 1) q = ([], 0, (g q).2.2) := by
  rw [decN, if_pos h]
theorem decN_ok {α : Type} (g : List UInt8 → α × Nat × Nat) (k : Nat) (q : List UInt8) (h : (g q).2.2 = 0) : decN g (k + 1) q = comb [(g q).1] (g q).2.1 (decN g k (q.drop (g q).2.1)) := by
  rw [decN, if_neg (by rw [h]; simp)]
  rfl
theorem comb_nil {α : Type} (g : List UInt8 → α × Nat × Nat) (k : Nat) (q : List UInt8) : comb [] 0 (decN g k q) = decN g k q := by
  have key : ∀ r : List α × Nat × Nat, (r.2.2 ≠ 0 → r = ([], 0, r.2.2)) → comb [] 0 r = r := by
    intro r hr
    obtain ⟨x, y, z⟩ := r
    unfold comb
    by_cases h : z = 0
    · subst h; simp
    · have := hr h
      simp only at this ⊢
      rw [if_pos h, this]
  apply key
  intro h
  cases k with
  | zero => exact absurd rfl h
  | succ k =>
    by_cases h1 : (g q).2.2 = 0
    · rw [decN_ok g k q h1] at h ⊢
      unfold comb at h ⊢
      split
      · rfl
      · rename_i h2
        rw [if_neg h2] at h
        exact absurd rfl h
    · rw [decN_err g k q h1]
theorem comb_err {α : Type} (g : List UInt8 → α × Nat × Nat) (L : List α) (u k : Nat) (q : List UInt8) (h : (g q).2.2 ≠ 0) : comb L u (decN g (k + 1) q) = ([], 0, (g q).2.2) := by
  rw [decN_err g k q h]
  unfold comb
  rw [if_pos h]
theorem comb_comb {α : Type} (L M : List α) (u v : Nat) (r : List α × Nat × Nat) : comb L u (comb M v r) = comb (L ++ M) (u + v) r := by
  obtain ⟨x, y, z⟩ := r
  unfold comb
  by_cases h : z = 0
  · subst h; simp [Nat.add_assoc]
  · simp [h]
theorem comb_ok {α : Type} (g : List UInt8 → α × Nat × Nat) (L : List α) (u k : Nat) (q : List UInt8) (h : (g q).2.2 = 0) :
    comb L u (decN g (k + 1) q) = comb (L ++ [(g q).1]) (u + (g q).2.1) (decN g k (q.drop (g q).2.1)) := by
  rw [decN_ok g k q h, comb_comb]
theorem comb_end {α : Type} (g : List UInt8 → α × Nat × Nat) (L : List α) (u : Nat) (q : List UInt8) : comb L u (decN g 0 q) = (L, u, 0) := by
  simp [comb, decN]
theorem getLs_err {α : Type} (g : List UInt8 → α × Nat × Nat) (size : Nat) (l : List UInt8) (h : (getLen l size).2.2 ≠ 0) : getLs g size l = ([], 0, (getLen l size).2.2) := by
  unfold getLs; rw [if_pos h]
theorem getLs_of {α : Type} (g : List UInt8 → α × Nat × Nat) (size : Nat) (l : List UInt8) (h : (getLen l size).2.2 = 0) (r : List α × Nat × Nat) (hr : decN g (getLen l size).1.toNat (l.drop (getLen l size).2.1) = r) :
    getLs g size l = comb [] (getLen l size).2.1 r := by
  unfold getLs comb
  rw [if_neg (by omega), hr]; simp

theorem comb_zero {α : Type} (L : List α) (u : Nat) (r : List α × Nat × Nat) (h : (comb L u r).2.2 ≠ 0) : (comb L u r).1 = [] ∧ (comb L u r).2.1 = 0 := by
  unfold comb at h ⊢
  by_cases h1 : r.2.2 ≠ 0
  · rw [if_pos h1]; exact ⟨rfl, rfl⟩
  · rw [if_neg h1] at h; exact absurd rfl h
theorem getLs_zero {α : Type} (g : List UInt8 → α × Nat × Nat) (size : Nat) (l : List UInt8) (h : (getLs g size l).2.2 ≠ 0) : (getLs g size l).1 = [] ∧ (getLs g size l).2.1 = 0 := by
  by_cases h1 : (getLen l size).2.2 = 0
  · have := getLs_of g size l h1 _ rfl
    rw [this] at h ⊢
    exact comb_zero _ _ _ h
  · rw [getLs_err g size l h1]; exact ⟨rfl, rfl⟩
end Go.Proofs.YtmlnpnlajgnohaaDoor.M
