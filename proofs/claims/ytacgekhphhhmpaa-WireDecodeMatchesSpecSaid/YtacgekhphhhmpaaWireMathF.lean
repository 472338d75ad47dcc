/- A proper beginning of an encoding wants more bytes. -/
import Derived.Test.YtacgekhphhhmpaaWireMathC
namespace Go.Proofs.Ytacgekhphhhmpaa.M

theorem take_mid (a b : List UInt8) (j : Nat) (h : a.length ≤ j) : (a ++ b).take j = a ++ b.take (j - a.length) := by
  rw [List.take_append, List.take_of_length_le h]
theorem take_fore (a b : List UInt8) (j : Nat) (h : j < a.length) : (a ++ b).take j = a.take j := List.take_append_of_le_length (Nat.le_of_lt h)

theorem getLen_more (n : Nat) (t : List UInt8) (size j : Nat) (hn : n ≤ 9223372036854775807) (h : j < (encI n).length) : (getLen ((encI n ++ t).take j) size).2.2 = 3 := by
  rw [take_fore _ _ _ h]
  unfold getLen
  rw [getI_more n (I64_nat n hn) j h]
  simp
theorem getLen_few (n : Nat) (t : List UInt8) (size : Nat) (hs : 1 ≤ size) (hn : n ≤ 9223372036854775807) (h : t.length < n * size) : (getLen (encI n ++ t) size).2.2 = 3 := by
  unfold getLen
  rw [getI_encI n (I64_nat n hn) t]
  simp only [ne_eq, not_true_eq_false, if_false]
  rw [if_neg (by omega), if_pos]
  rw [List.length_append]
  have e : (((encI n).length + t.length : Nat) : Int) - ((encI n).length : Nat) = (t.length : Int) := by omega
  rw [e]
  refine Int.ediv_lt_of_lt_mul (by omega) ?_
  have : ((t.length : Nat) : Int) < ((n * size : Nat) : Int) := by omega
  rwa [Int.natCast_mul] at this

theorem getB_more (s : List UInt8) (j : Nat) (hs : s.length ≤ 9223372036854775807) (h : j < (encB s).length) : (getB ((encB s).take j)).2.2 = 3 := by
  have key : (getLen ((encB s).take j) 1).2.2 = 3 := by
    unfold encB at *
    by_cases hj : j < (encI s.length).length
    · exact getLen_more _ _ _ _ hs hj
    · rw [List.length_append] at h
      rw [take_mid _ _ _ (by omega)]
      exact getLen_few _ _ _ (Nat.le_refl _) hs (by rw [List.length_take]; omega)
  unfold getB
  rw [if_pos (by rw [key]; decide), key]

theorem decN_more {α : Type} (g : List UInt8 → α × Nat × Nat) (e : α → List UInt8) (l : List α) (hg : ∀ a ∈ l, ∀ q, g (e a ++ q) = (a, (e a).length, 0)) (hm : ∀ a ∈ l, ∀ j, j < (e a).length → (g ((e a).take j)).2.2 = 3) :
    ∀ j, j < (l.flatMap e).length → (decN g l.length ((l.flatMap e).take j)).2.2 = 3 := by
  induction l with
  | nil => intro j h; simp at h
  | cons a l ih =>
    intro j h
    have ih' := ih (fun b hb => hg b (by simp [hb])) (fun b hb => hm b (by simp [hb]))
    rw [List.length_cons, List.flatMap_cons] at *
    by_cases hj : j < (e a).length
    · rw [take_fore _ _ _ hj]
      have h3 := hm a (by simp) j hj
      rw [decN_err _ _ _ (by rw [h3]; decide)]
      exact h3
    · rw [take_mid _ _ _ (by omega)]
      have h1 := hg a (by simp) ((l.flatMap e).take (j - (e a).length))
      rw [List.length_append] at h
      have h4 := ih' (j - (e a).length) (by omega)
      rw [decN_ok _ _ _ (by rw [h1]), h1]
      simp only [List.drop_left]
      unfold comb
      rw [if_pos (by rw [h4]; decide)]
      exact h4

theorem getLs_more {α : Type} (g : List UInt8 → α × Nat × Nat) (e : α → List UInt8) (l : List α) (size : Nat) (hs : 1 ≤ size) (hl : l.length ≤ 9223372036854775807)
    (hg : ∀ a ∈ l, ∀ q, g (e a ++ q) = (a, (e a).length, 0)) (hm : ∀ a ∈ l, ∀ j, j < (e a).length → (g ((e a).take j)).2.2 = 3)
    (j : Nat) (h : j < (encL e l).length) : (getLs g size ((encL e l).take j)).2.2 = 3 := by
  unfold encL at *
  by_cases hj : j < (encI l.length).length
  · have h3 := getLen_more l.length (l.flatMap e) size j hl hj
    rw [getLs_err _ _ _ (by rw [h3]; decide)]
    exact h3
  · rw [List.length_append] at h
    rw [take_mid _ _ _ (by omega)]
    by_cases hf : ((l.flatMap e).take (j - (encI l.length).length)).length < l.length * size
    · have h3 := getLen_few l.length _ size hs hl hf
      rw [getLs_err _ _ _ (by rw [h3]; decide)]
      exact h3
    · have hE := getLen_enc l.length ((l.flatMap e).take (j - (encI l.length).length)) size hs hl (by omega)
      have h4 := decN_more g e l hg hm (j - (encI l.length).length) (by omega)
      rw [getLs_of g size _ (by rw [hE]) (decN g l.length ((l.flatMap e).take (j - (encI l.length).length))) (by rw [hE]; simp)]
      unfold comb
      rw [if_pos (by rw [h4]; decide)]
      exact h4

theorem getLs_short {α : Type} (g : List UInt8 → α × Nat × Nat) (n : Nat) (D : List UInt8) (size : Nat) (hs : 1 ≤ size) (hn : n ≤ 9223372036854775807) (hD : D.length = n * size)
    (j : Nat) (h : j < (encI n ++ D).length) : (getLs g size ((encI n ++ D).take j)).2.2 = 3 := by
  have key : (getLen ((encI n ++ D).take j) size).2.2 = 3 := by
    by_cases hj : j < (encI n).length
    · exact getLen_more _ _ _ _ hn hj
    · rw [List.length_append] at h
      rw [take_mid _ _ _ (by omega)]
      exact getLen_few _ _ _ hs hn (by rw [List.length_take]; omega)
  rw [getLs_err _ _ _ (by rw [key]; decide)]
  exact key
end Go.Proofs.Ytacgekhphhhmpaa.M
