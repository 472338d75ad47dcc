/- What is decoded is encoded as the bytes that were consumed. -/
import Derived.Test.YtacgekhphhhmpaaWireMathC
namespace Go.Proofs.Ytacgekhphhhmpaa.M

theorem getI_I64 (l : List UInt8) : I64 (getI l).1 := by
  by_cases h : (getI l).2.2 = 0
  · exact (getI_ok l h).1
  · rw [(getI_err l h).1]; unfold I64; omega

theorem take_add_drop (l : List UInt8) (a b : Nat) : l.take (a + b) = l.take a ++ (l.drop a).take b := List.take_add

theorem getB_ok (l : List UInt8) (h : (getB l).2.2 = 0) : (getB l).2.1 ≤ l.length ∧ l.take (getB l).2.1 = encB (getB l).1 := by
  unfold getB at h ⊢
  by_cases h1 : (getLen l 1).2.2 ≠ 0
  · rw [if_pos h1] at h; exact absurd h h1
  rw [if_neg h1]
  obtain ⟨e1, e2, e3, e4, e5⟩ := getLen_ok l 1 (Nat.le_refl _) (by omega)
  obtain ⟨-, u1, u2, u3⟩ := getI_ok l e1
  rw [e2, e3]
  show (getI l).2.1 + (getI l).1.toNat ≤ l.length ∧ l.take ((getI l).2.1 + (getI l).1.toNat) = encB ((l.drop (getI l).2.1).take (getI l).1.toNat)
  have hle : (getI l).2.1 + (getI l).1.toNat ≤ l.length := by omega
  refine ⟨hle, ?_⟩
  rw [take_add_drop, u2]
  unfold encB
  rw [show ((((l.drop (getI l).2.1).take (getI l).1.toNat).length : Nat) : Int) = (getI l).1 from by simp; omega]

/-- A decoder that consumes the encoding of what it gives. -/
def Canon {α : Type} (g : List UInt8 → α × Nat × Nat) (e : α → List UInt8) : Prop := ∀ q, (g q).2.2 = 0 → (g q).2.1 ≤ q.length ∧ q.take (g q).2.1 = e (g q).1

theorem decN_ok_canon {α : Type} {g : List UInt8 → α × Nat × Nat} {e : α → List UInt8} (hc : Canon g e) : ∀ (k : Nat) (q : List UInt8), (decN g k q).2.2 = 0 →
    (decN g k q).2.1 ≤ q.length ∧ q.take (decN g k q).2.1 = (decN g k q).1.flatMap e ∧ (decN g k q).1.length = k := by
  intro k
  induction k with
  | zero => intro q _; exact ⟨Nat.zero_le _, by simp [decN], rfl⟩
  | succ k ih =>
    intro q h
    by_cases h1 : (g q).2.2 = 0
    · obtain ⟨c1, c2⟩ := hc q h1
      rw [decN_ok g k q h1] at h ⊢
      unfold comb at h ⊢
      by_cases h2 : (decN g k (q.drop (g q).2.1)).2.2 ≠ 0
      · rw [if_pos h2] at h; exact absurd h h2
      rw [if_neg h2]
      obtain ⟨d1, d2, d3⟩ := ih (q.drop (g q).2.1) (by omega)
      simp only [List.length_drop] at d1
      refine ⟨by show (g q).2.1 + _ ≤ _; omega, ?_, by show ([(g q).1] ++ _).length = _; simp [d3]⟩
      show q.take ((g q).2.1 + _) = ([(g q).1] ++ _).flatMap e
      rw [take_add_drop, c2, d2]
      simp
    · rw [decN_err g k q h1] at h
      exact absurd h h1

theorem getLs_parts {α : Type} (g : List UInt8 → α × Nat × Nat) (size : Nat) (l : List UInt8) (hs : 1 ≤ size) (h : (getLs g size l).2.2 = 0) : ∃ n : Nat, (getI l).2.2 = 0 ∧ (getI l).1 = n ∧ n * size + (getI l).2.1 ≤ l.length ∧
    (decN g n (l.drop (getI l).2.1)).2.2 = 0 ∧ (getLs g size l).1 = (decN g n (l.drop (getI l).2.1)).1 ∧ (getLs g size l).2.1 = (getI l).2.1 + (decN g n (l.drop (getI l).2.1)).2.1 := by
  by_cases h1 : (getLen l size).2.2 = 0
  · obtain ⟨e1, e2, e3, e4, e5⟩ := getLen_ok l size hs h1
    obtain ⟨n, hn⟩ := Int.eq_ofNat_of_zero_le e4
    have hof := getLs_of g size l h1 (decN g n (l.drop (getI l).2.1)) (by rw [e2, e3, hn, Int.toNat_natCast])
    rw [hof] at h ⊢
    unfold comb at h ⊢
    by_cases h2 : (decN g n (l.drop (getI l).2.1)).2.2 ≠ 0
    · rw [if_pos h2] at h; exact absurd h h2
    rw [if_neg h2, e3]
    refine ⟨n, e1, hn, ?_, by omega, by simp, rfl⟩
    rw [hn] at e5
    have := (getI_ok l e1).2.1
    have h3 : ((n * size : Nat) : Int) ≤ (l.length : Int) - (getI l).2.1 := by rw [Int.natCast_mul]; exact e5
    omega
  · rw [getLs_err g size l h1] at h
    exact absurd h h1

theorem getLs_canon {α : Type} {g : List UInt8 → α × Nat × Nat} {e : α → List UInt8} (hc : Canon g e) (size : Nat) (l : List UInt8) (hs : 1 ≤ size) (h : (getLs g size l).2.2 = 0) :
    (getLs g size l).2.1 ≤ l.length ∧ l.take (getLs g size l).2.1 = encL e (getLs g size l).1 := by
  obtain ⟨n, p1, p2, p3, p4, p5, p6⟩ := getLs_parts g size l hs h
  obtain ⟨-, u1, u2, u3⟩ := getI_ok l p1
  obtain ⟨d1, d2, d3⟩ := decN_ok_canon hc n _ p4
  rw [p5, p6]
  simp only [List.length_drop] at d1
  refine ⟨by omega, ?_⟩
  rw [take_add_drop, u2, d2]
  unfold encL
  rw [d3, p2]

theorem canon_getI : Canon getI encI := fun q h => ⟨(getI_ok q h).2.1, (getI_ok q h).2.2.1⟩

theorem decN_all {α : Type} {g : List UInt8 → α × Nat × Nat} {P : α → Prop} (hp : ∀ q, P (g q).1) : ∀ (k : Nat) (q : List UInt8), ∀ a ∈ (decN g k q).1, P a := by
  intro k
  induction k with
  | zero => intro q a h; simp [decN] at h
  | succ k ih =>
    intro q a h
    by_cases h1 : (g q).2.2 = 0
    · rw [decN_ok g k q h1] at h
      unfold comb at h
      split at h
      · simp at h
      · simp at h
        rcases h with rfl | h
        · exact hp q
        · exact ih _ a h
    · rw [decN_err g k q h1] at h
      simp at h
theorem getLs_all {α : Type} {g : List UInt8 → α × Nat × Nat} {P : α → Prop} (hp : ∀ q, P (g q).1) (size : Nat) (l : List UInt8) (hs : 1 ≤ size) : ∀ a ∈ (getLs g size l).1, P a := by
  by_cases h : (getLs g size l).2.2 = 0
  · obtain ⟨n, -, -, -, -, p5, -⟩ := getLs_parts g size l hs h
    rw [p5]; exact decN_all hp n _
  · rw [(getLs_zero g size l h).1]; simp
end Go.Proofs.Ytacgekhphhhmpaa.M
