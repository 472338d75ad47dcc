import Derived.Test.YtkelfcgomeojeaaDoorJSignPr

section
/- The digits of two digests cross. -/

namespace Go.Proofs.YtkelfcgomeojeaaDoor
open Go.RowKit
set_option maxRecDepth 100000

theorem check_cons (x : Nat) (q : List Nat) : Sg.check (x :: q) = (3 - x) + Sg.check q := by simp [Sg.check]
theorem quad_is (x : UInt8) : ∃ a b c d, quad x = [a, b, c, d] ∧ x.toNat = 64 * a + 16 * b + 4 * c + d ∧ a < 4 ∧ b < 4 ∧ c < 4 ∧ d < 4 := by
  have hx := x.toNat_lt
  refine ⟨_, _, _, _, rfl, ?_, ?_, ?_, ?_, ?_⟩ <;> omega
theorem quads_ge : ∀ (d e : List UInt8), d.length = e.length → (∀ i, i < 4 * d.length → (Sg.quads e).getD i 0 ≤ (Sg.quads d).getD i 0) → Sg.check (Sg.quads d) ≤ Sg.check (Sg.quads e) ∧ (Sg.check (Sg.quads d) = Sg.check (Sg.quads e) → d = e) := by
  intro d
  induction d with
  | nil =>
    intro e hl _
    have : e = [] := List.eq_nil_of_length_eq_zero (by simpa using hl.symm)
    subst this
    exact ⟨Nat.le_refl _, fun _ => rfl⟩
  | cons x d ih =>
    intro e hl h
    cases e with
    | nil => simp at hl
    | cons y e =>
      have hl' : d.length = e.length := by simpa using hl
      have e1 : Sg.quads (x :: d) = quad x ++ Sg.quads d := rfl
      have e2 : Sg.quads (y :: e) = quad y ++ Sg.quads e := rfl
      rw [e1, e2] at h ⊢
      have hx := x.toNat_lt
      have hy := y.toNat_lt
      have ih' := ih e hl' (fun i hi => by
        have := h (4 + i) (by simp; omega)
        rw [List.getD_eq_getElem?_getD, List.getD_eq_getElem?_getD, List.getElem?_append_right (by rw [quad_len]; omega), List.getElem?_append_right (by rw [quad_len]; omega), quad_len, quad_len, Nat.add_sub_cancel_left, ← List.getD_eq_getElem?_getD, ← List.getD_eq_getElem?_getD] at this
        exact this)
      have h0 := h 0 (by simp)
      have h1 := h 1 (by simp; omega)
      have h2 := h 2 (by simp; omega)
      have h3 := h 3 (by simp; omega)
      simp only [quad, List.cons_append, List.nil_append, List.getD_cons_zero, List.getD_cons_succ] at h0 h1 h2 h3
      obtain ⟨a0, a1, a2, a3, qa, ra⟩ := quad_is x
      obtain ⟨b0, b1, b2, b3, qb, rb⟩ := quad_is y
      simp only [quad, List.cons.injEq, and_true] at qa qb
      obtain ⟨ea0, ea1, ea2, ea3⟩ := qa
      obtain ⟨eb0, eb1, eb2, eb3⟩ := qb
      simp only [quad, check_cons, List.cons_append, List.nil_append]
      rw [ea0, eb0] at h0
      rw [ea1, eb1] at h1
      rw [ea2, eb2] at h2
      rw [ea3, eb3] at h3
      rw [ea0, ea1, ea2, ea3, eb0, eb1, eb2, eb3]
      have hle := ih'.1
      obtain ⟨ra1, r0, r1, r2, r3⟩ := ra
      obtain ⟨rb1, s0, s1, s2, s3⟩ := rb
      obtain ⟨ua0, hua0⟩ : ∃ u, u + a0 = 3 := ⟨3 - a0, by omega⟩
      rw [show 3 - a0 = ua0 by omega]
      obtain ⟨ua1, hua1⟩ : ∃ u, u + a1 = 3 := ⟨3 - a1, by omega⟩
      rw [show 3 - a1 = ua1 by omega]
      obtain ⟨ua2, hua2⟩ : ∃ u, u + a2 = 3 := ⟨3 - a2, by omega⟩
      rw [show 3 - a2 = ua2 by omega]
      obtain ⟨ua3, hua3⟩ : ∃ u, u + a3 = 3 := ⟨3 - a3, by omega⟩
      rw [show 3 - a3 = ua3 by omega]
      obtain ⟨ub0, hub0⟩ : ∃ u, u + b0 = 3 := ⟨3 - b0, by omega⟩
      rw [show 3 - b0 = ub0 by omega]
      obtain ⟨ub1, hub1⟩ : ∃ u, u + b1 = 3 := ⟨3 - b1, by omega⟩
      rw [show 3 - b1 = ub1 by omega]
      obtain ⟨ub2, hub2⟩ : ∃ u, u + b2 = 3 := ⟨3 - b2, by omega⟩
      rw [show 3 - b2 = ub2 by omega]
      obtain ⟨ub3, hub3⟩ : ∃ u, u + b3 = 3 := ⟨3 - b3, by omega⟩
      rw [show 3 - b3 = ub3 by omega]
      clear hx hy h e1 e2 ea0 ea1 ea2 ea3 eb0 eb1 eb2 eb3 ih hl
      refine ⟨by omega, fun heq => ?_⟩
      have hq : Sg.check (Sg.quads d) = Sg.check (Sg.quads e) := by omega
      rw [ih'.2 hq, UInt8.toNat_inj.1 (show x.toNat = y.toNat by rw [ra1, rb1]; omega)]
theorem digits_at (d : List UInt8) (hd : d.length = 16) (i : Nat) (hi : i < 64) : (Sg.digits d).getD i 0 = (Sg.quads d).getD i 0 := by
  unfold Sg.digits
  rw [List.getD_eq_getElem?_getD, List.getElem?_append_left (by rw [quads_len, hd]; omega), ← List.getD_eq_getElem?_getD]
theorem digits_end (d : List UInt8) (hd : d.length = 16) (k : Nat) : (Sg.digits d).getD (64 + k) 0 = [Sg.check (Sg.quads d) / 64, Sg.check (Sg.quads d) / 16 % 4, Sg.check (Sg.quads d) / 4 % 4, Sg.check (Sg.quads d) % 4].getD k 0 := by
  unfold Sg.digits
  have l : (Sg.quads d).length = 64 := by rw [quads_len, hd]
  rw [List.getD_eq_getElem?_getD, List.getElem?_append_right (by omega), l, Nat.add_sub_cancel_left, ← List.getD_eq_getElem?_getD]
theorem four_eq (C D : Nat) (h0 : D / 64 ≤ C / 64) (h1 : D / 16 % 4 ≤ C / 16 % 4) (h2 : D / 4 % 4 ≤ C / 4 % 4) (h3 : D % 4 ≤ C % 4) (h : C ≤ D) : C = D := by
  have e (x : Nat) : x = 64 * (x / 64) + 16 * (x / 16 % 4) + 4 * (x / 4 % 4) + x % 4 := by omega
  have eC := e C
  have eD := e D
  generalize C / 64 = a0 at *
  generalize C / 16 % 4 = a1 at *
  generalize C / 4 % 4 = a2 at *
  generalize C % 4 = a3 at *
  generalize D / 64 = b0 at *
  generalize D / 16 % 4 = b1 at *
  generalize D / 4 % 4 = b2 at *
  generalize D % 4 = b3 at *
  omega
/-- No digit is less: the digests are one. -/
theorem digits_ge (d e : List UInt8) (hd : d.length = 16) (he : e.length = 16) (h : ∀ i, i < 68 → (Sg.digits e).getD i 0 ≤ (Sg.digits d).getD i 0) : d = e := by
  have hq := quads_ge d e (by omega) (fun i hi => by
    have := h i (by omega)
    rwa [digits_at d hd i (by omega), digits_at e he i (by omega)] at this)
  refine hq.2 ?_
  have h0 := h (64 + 0) (by omega)
  have h1 := h (64 + 1) (by omega)
  have h2 := h (64 + 2) (by omega)
  have h3 := h (64 + 3) (by omega)
  rw [digits_end d hd, digits_end e he] at h0 h1 h2 h3
  simp only [List.getD_cons_zero, List.getD_cons_succ] at h0 h1 h2 h3
  exact four_eq _ _ h0 h1 h2 h3 hq.1
/-- What the loop finds among the first k digits. -/
def lessK (x y : List Nat) (k : Nat) : Bool := (List.range k).any fun i => decide (x.getD i 0 < y.getD i 0)
theorem lessK_succ (x y : List Nat) (k : Nat) : lessK x y (k + 1) = (lessK x y k || decide (x.getD k 0 < y.getD k 0)) := by
  unfold lessK
  rw [List.range_succ, List.any_append]
  simp
theorem cross (d e : List UInt8) (hd : d.length = 16) (he : e.length = 16) (h : d ≠ e) : lessK (Sg.digits d) (Sg.digits e) 68 = true := by
  cases hc : lessK (Sg.digits d) (Sg.digits e) 68 with
  | true => rfl
  | false =>
    refine absurd (digits_ge d e hd he fun i hi => ?_) h
    unfold lessK at hc
    have := List.any_eq_false.1 hc i (List.mem_range.2 hi)
    simp at this
    simpa using this
end Go.Proofs.YtkelfcgomeojeaaDoor
end

