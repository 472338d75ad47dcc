import Derived.Lib.Bytealg
import Derived.Test.YtcejokbbiinbkaaDoorJRatioAlg

section
/- Plain mathematics: the first slash of a text. -/


namespace Go.Proofs.YtcejokbbiinbkaaDoor.Rt
open Go.Lib (indexByte)

theorem index_cases : ∀ l : List UInt8, (indexByte l 47 = -1 ∧ bef l = l ∧ l.dropWhile notSlash = []) ∨
    ∃ i : Nat, indexByte l 47 = (i : Int) ∧ i < l.length ∧ bef l = l.take i ∧ l.dropWhile notSlash = 47 :: l.drop (i + 1) := by
  intro l
  induction l with
  | nil => exact Or.inl ⟨rfl, rfl, rfl⟩
  | cons b l ih =>
    by_cases hb : b = 47
    · right
      subst hb
      exact ⟨0, rfl, by simp, rfl, rfl⟩
    · have hn : notSlash b = true := by unfold notSlash; simpa using hb
      have hbe : (b == 47) = false := by simpa using hb
      have e1 : bef (b :: l) = b :: bef l := by unfold bef; rw [List.takeWhile_cons_of_pos hn]
      have e2 : (b :: l).dropWhile notSlash = l.dropWhile notSlash := List.dropWhile_cons_of_pos hn
      rcases ih with ⟨h1, h2, h3⟩ | ⟨i, h1, h2, h3, h4⟩
      · left
        refine ⟨?_, by rw [e1, h2], by rw [e2, h3]⟩
        unfold indexByte
        rw [hbe, h1]; rfl
      · right
        refine ⟨i + 1, ?_, by simp; omega, by rw [e1, h3]; rfl, by rw [e2, h4]; rfl⟩
        unfold indexByte
        rw [hbe, h1]
        have : ((i : Int) == -1) = false := by
          rw [beq_eq_false_iff_ne]; omega
        rw [this]; rfl

theorem cut_cases (l : List UInt8) : (indexByte l 47 = -1 ∧ bef l = l ∧ sec l = [49]) ∨
    ∃ i : Nat, indexByte l 47 = (i : Int) ∧ i < l.length ∧ bef l = l.take i ∧ sec l = l.drop (i + 1) := by
  rcases index_cases l with ⟨h1, h2, h3⟩ | ⟨i, h1, h2, h3, h4⟩
  · exact Or.inl ⟨h1, h2, by unfold sec; rw [h3]⟩
  · exact Or.inr ⟨i, h1, h2, h3, by unfold sec; rw [h4]⟩

/-- A text is looked through up to its first slash. -/
theorem scan_cases (l : List UInt8) (i : Nat) (hi : i ≤ l.length) (h : ∀ j, j < i → l.getD j 0 ≠ 47) :
    (i < l.length → l.getD i 0 = 47 → bef l = l.take i ∧ sec l = l.drop (i + 1)) ∧ (i = l.length → bef l = l ∧ sec l = [49]) := by
  have key : ∀ j, j < i → notSlash (l.getD j 0) = true := fun j hj => by unfold notSlash; simpa using h j hj
  have t1 : ∀ c ∈ l.take i, notSlash c = true := by
    intro c hc
    obtain ⟨j, hj, rfl⟩ := List.getElem_of_mem hc
    rw [List.length_take] at hj
    have := key j (by omega)
    rw [List.getElem_take]
    rw [List.getD_eq_getElem?_getD, List.getElem?_eq_getElem (by omega)] at this
    exact this
  have e : l = l.take i ++ l.drop i := (List.take_append_drop i l).symm
  constructor
  · intro h1 h2
    have e3 : l.drop i = 47 :: l.drop (i + 1) := by
      rw [List.drop_eq_getElem_cons h1]
      congr 1
      rw [List.getD_eq_getElem?_getD, List.getElem?_eq_getElem h1] at h2
      exact h2
    constructor
    · unfold bef
      conv => lhs; rw [e]
      rw [List.takeWhile_append_of_pos t1, e3, List.takeWhile_cons_of_neg (by decide), List.append_nil]
    · unfold sec
      have : l.dropWhile notSlash = 47 :: l.drop (i + 1) := by
        conv => lhs; rw [e]
        rw [List.dropWhile_append_of_pos t1, e3, List.dropWhile_cons_of_neg (by decide)]
      rw [this]
  · intro h1
    have e4 : l.take i = l := by rw [h1]; exact List.take_length
    rw [e4] at t1
    constructor
    · unfold bef
      have := List.takeWhile_append_of_pos (l₂ := []) t1
      simpa using this
    · unfold sec
      have : l.dropWhile notSlash = [] := by
        have := List.dropWhile_append_of_pos (l₂ := []) t1
        simpa using this
      rw [this]

end Go.Proofs.YtcejokbbiinbkaaDoor.Rt
end

