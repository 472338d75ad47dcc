/- Plain mathematics: the texts of fractions, and how they are read. -/
import Derived.Lib.AtoiAllCases
import Derived.Lib.ItoaNum
import Derived.Test.YtkenfgifhebnpaaDoorRatioMath
namespace Go.Proofs.YtkenfgifhebnpaaDoor.Rt
open Go.Lib (decDigits itoa atoiAll parseMag parseUint10 NumEnd signless signed nDigits)

def Dig (c : UInt8) : Prop := 48 ≤ c.toNat ∧ c.toNat ≤ 57

instance (c : UInt8) : Decidable (Dig c) := by unfold Dig; infer_instance

theorem ofNat_dig {k : Nat} (h : k < 10) : (UInt8.ofNat (48 + k)).toNat = 48 + k := by
  simp only [UInt8.toNat_ofNat']; omega

theorem dec_dig : ∀ (u : Nat), ∀ c ∈ decDigits u, Dig c := by
  intro u
  induction u using Nat.strongRecOn with
  | _ u ih =>
    intro c hc
    rw [decDigits] at hc
    split at hc
    · rename_i h
      simp only [List.mem_singleton] at hc
      subst hc
      unfold Dig; rw [ofNat_dig h]; omega
    · rename_i h
      rcases List.mem_append.1 hc with hc | hc
      · exact ih _ (by omega) _ hc
      · simp only [List.mem_singleton] at hc
        subst hc
        unfold Dig; rw [ofNat_dig (Nat.mod_lt _ (by decide))]; omega

theorem dec_ne (u : Nat) : decDigits u ≠ [] := by
  rw [decDigits]; split <;> simp

theorem parse_dec : ∀ (u : Nat) (l : List UInt8), u < 18446744073709551616 → parseUint10 0 (decDigits u ++ l) = parseUint10 u l := by
  intro u
  induction u using Nat.strongRecOn with
  | _ u ih =>
    intro l hu
    rw [decDigits]
    split
    · rename_i h
      simp only [List.singleton_append, parseUint10]
      rw [ofNat_dig h, if_pos (by omega), if_neg (by omega), if_neg (by omega)]
      congr 1; omega
    · rename_i h
      rw [List.append_assoc, ih (u / 10) (by omega) _ (by omega)]
      simp only [List.singleton_append, parseUint10]
      rw [ofNat_dig (Nat.mod_lt _ (by decide)), if_pos (by omega), if_neg (by omega), if_neg (by omega)]
      congr 1; omega

theorem mag_dec (u : Nat) (h : u < 18446744073709551616) : parseMag (decDigits u) = .ok u := by
  have := parse_dec u [] h
  rw [List.append_nil] at this
  unfold parseMag
  rw [if_neg (dec_ne u), this]; rfl

theorem dec_cons (u : Nat) : ∃ c r, decDigits u = c :: r ∧ Dig c := by
  have h := dec_ne u
  have h' := dec_dig u
  generalize decDigits u = l at *
  cases l with
  | nil => exact absurd rfl h
  | cons c r => exact ⟨c, r, rfl, h' c (by simp)⟩

theorem itoa_pos {n : Int} (h : 0 ≤ n) : itoa n = decDigits n.toNat := by unfold itoa; rw [if_neg (by omega)]

theorem itoa_below {n : Int} (h : n < 0) : itoa n = 45 :: decDigits n.natAbs := by unfold itoa; rw [if_pos h]

theorem atoi_itoa {n : Int} (h1 : -9223372036854775808 ≤ n) (h2 : n < 9223372036854775808) : atoiAll (itoa n) = .ok n := by
  rcases Int.lt_or_le n 0 with h | h
  · rw [itoa_below h, Go.Lib.atoiAll_minus, mag_dec _ (by omega)]
    simp only [signed]
    rw [if_neg (by omega)]
    congr 1; omega
  · rw [itoa_pos h]
    obtain ⟨c, r, hc, hd⟩ := dec_cons n.toNat
    have hm := mag_dec n.toNat (by omega)
    rw [hc] at hm ⊢
    unfold Dig at hd
    rw [Go.Lib.atoiAll_plain c r (by omega) (by omega), hm]
    simp only [signless]
    rw [if_neg (by omega)]
    congr 1; omega

/-! ### Texts -/

def txt (P Q : Int) : List UInt8 := itoa P ++ (if den Q = 1 then [] else 47 :: itoa (den Q))

def text (P Q : Int) : List UInt8 := if Ok P Q then txt P Q else []

def notSlash (c : UInt8) : Bool := decide (c ≠ 47)

def bef (s : List UInt8) : List UInt8 := s.takeWhile notSlash

def sec (s : List UInt8) : List UInt8 := match s.dropWhile notSlash with
  | [] => [49]
  | _ :: r => r

/-- What `Parse` answers. -/
def prs (s : List UInt8) : Tri := match atoiAll (bef s), atoiAll (sec s) with
  | .ok p, .ok q => if text p q = s then (p, q, 0) else (0, 0, 2)
  | _, _ => (0, 0, 2)

theorem itoa_notSlash (n : Int) : ∀ c ∈ itoa n, notSlash c = true := by
  have key : ∀ u : Nat, ∀ c ∈ decDigits u, notSlash c = true := fun u c hc => by
    have := dec_dig u c hc
    unfold Dig at this
    unfold notSlash
    simp only [decide_eq_true_eq]
    rintro rfl
    exact absurd this.1 (by decide)
  intro c hc
  rcases Int.lt_or_le n 0 with h | h
  · rw [itoa_below h] at hc
    rcases List.mem_cons.1 hc with rfl | hc
    · rfl
    · exact key _ c hc
  · rw [itoa_pos h] at hc
    exact key _ c hc

theorem itoa_ne (n : Int) : itoa n ≠ [] := by
  unfold itoa; split
  · simp
  · exact dec_ne _

theorem txt_ne (P Q : Int) : txt P Q ≠ [] := by
  unfold txt; intro h
  exact itoa_ne P (List.append_eq_nil_iff.1 h).1

theorem bef_txt (P Q : Int) : bef (txt P Q) = itoa P := by
  unfold bef txt
  rw [List.takeWhile_append_of_pos (itoa_notSlash P)]
  split
  · simp
  · rw [List.takeWhile_cons_of_neg (by decide), List.append_nil]

theorem sec_txt (P Q : Int) : sec (txt P Q) = if den Q = 1 then [49] else itoa (den Q) := by
  unfold sec txt
  rw [List.dropWhile_append_of_pos (itoa_notSlash P)]
  by_cases h : den Q = 1
  · simp only [h, if_true, List.dropWhile_nil]
  · simp only [h, if_false]
    rw [List.dropWhile_cons_of_neg (by decide)]

theorem den_one {Q : Int} (h : 1 ≤ Q) : den Q = Q := by unfold den; rw [if_neg (by omega)]

theorem one_ok : atoiAll [49] = .ok 1 := by decide

theorem prs_txt {P Q : Int} (h : Ok P Q) (hQ : 1 ≤ Q) : prs (txt P Q) = (P, Q, 0) := by
  have hb := h.bounds
  have ht : text P Q = txt P Q := by unfold text; rw [if_pos h]
  unfold prs
  rw [bef_txt, sec_txt, atoi_itoa (by omega) (by omega)]
  have : atoiAll (if den Q = 1 then [49] else itoa (den Q)) = .ok Q := by
    have hd := den_one hQ
    rw [hd]
    split
    · rename_i h1
      subst h1
      exact one_ok
    · exact atoi_itoa (by omega) (by omega)
  rw [this]
  simp only [ht, if_true]

/-- A text that was read back: the fraction is valid and written so. -/
theorem text_eq {p q : Int} {s : List UInt8} (h : text p q = s) (hs : s ≠ []) : Ok p q ∧ txt p q = s := by
  unfold text at h
  split at h
  · rename_i ho; exact ⟨ho, h⟩
  · exact absurd h.symm hs

theorem sec_zero {s : List UInt8} (h : txt 0 0 = s) : sec s = [49] := by
  subst h; rw [sec_txt]; rfl

theorem prs_cases (s : List UInt8) : (∃ P Q, Ok P Q ∧ 1 ≤ Q ∧ txt P Q = s ∧ prs s = (P, Q, 0)) ∨ (prs s = (0, 0, 2) ∧ ∀ P Q, Ok P Q → 1 ≤ Q → txt P Q ≠ s) := by
  by_cases h : ∃ P Q, Ok P Q ∧ 1 ≤ Q ∧ txt P Q = s
  · obtain ⟨P, Q, h1, h2, h3⟩ := h
    exact Or.inl ⟨P, Q, h1, h2, h3, by rw [← h3]; exact prs_txt h1 h2⟩
  · right
    refine ⟨?_, fun P Q h1 h2 h3 => h ⟨P, Q, h1, h2, h3⟩⟩
    unfold prs
    split
    · rename_i p q hp hq
      split
      · rename_i ht
        exfalso
        have hs : s ≠ [] := by
          rintro rfl
          simp [bef, atoiAll] at hp
        obtain ⟨ho, hx⟩ := text_eq ht hs
        have hb := ho.bounds
        by_cases hq1 : 1 ≤ q
        · exact h ⟨p, q, ho, hq1, hx⟩
        · have : p = 0 ∧ q = 0 := by rcases ho with ho | ho <;> omega
          obtain ⟨rfl, rfl⟩ := this
          rw [sec_zero hx, one_ok] at hq
          simp at hq
      · rfl
    · rfl

/-! ### How the specification reads -/

def val10 (l : List UInt8) : Nat := l.foldl (fun n c => 10 * n + (c.toNat - 48)) 0

def numb (l : List UInt8) : Option Nat := if l ≠ [] ∧ l.length ≤ 10 ∧ ∀ c ∈ l, Dig c then some (val10 l) else none

theorem val10_snoc (l : List UInt8) (c : UInt8) : val10 (l ++ [c]) = 10 * val10 l + (c.toNat - 48) := by
  unfold val10; rw [List.foldl_append]; rfl

theorem val10_dec : ∀ u : Nat, val10 (decDigits u) = u := by
  intro u
  induction u using Nat.strongRecOn with
  | _ u ih =>
    rw [decDigits]
    split
    · rename_i h
      simp only [val10, List.foldl_cons, List.foldl_nil, ofNat_dig h]; omega
    · rename_i h
      rw [val10_snoc, ih _ (by omega), ofNat_dig (Nat.mod_lt _ (by decide))]; omega

theorem val10_lt : ∀ l : List UInt8, (∀ c ∈ l, Dig c) → val10 l < 10 ^ l.length := by
  have key : ∀ (r l : List UInt8), (∀ c ∈ l, Dig c) → ∀ n, n < 10 ^ r.length → l.foldl (fun n c => 10 * n + (c.toNat - 48)) n < 10 ^ (r.length + l.length) := by
    intro r l
    induction l generalizing r with
    | nil => intro _ n hn; simpa using hn
    | cons c l ih =>
      intro h n hn
      have hc := h c (by simp)
      unfold Dig at hc
      have := ih (c :: r) (fun x hx => h x (by simp [hx])) (10 * n + (c.toNat - 48)) (by rw [List.length_cons, Nat.pow_succ]; omega)
      rw [List.foldl_cons]
      rw [show r.length + (c :: l).length = (c :: r).length + l.length by simp; omega]
      exact this
  intro l h
  have := key [] l h 0 (by decide)
  simpa [val10] using this

theorem dec_len {u : Nat} (h : u < 10000000000) : (decDigits u).length ≤ 10 := by
  have key : ∀ (k u : Nat), u < 10 ^ (k + 1) → (decDigits u).length ≤ k + 1 := by
    intro k
    induction k with
    | zero => intro u hu; rw [decDigits, dif_pos (by simpa using hu)]; simp
    | succ k ih =>
      intro u hu
      rw [decDigits]
      split
      · simp
      · rw [List.length_append]
        have := ih (u / 10) (by rw [Nat.pow_succ] at hu; omega)
        simp only [List.length_singleton]; omega
  exact key 9 u (by simpa using h)

theorem numb_dec {u : Nat} (h : u < 10000000000) : numb (decDigits u) = some u := by
  unfold numb
  rw [if_pos ⟨dec_ne u, dec_len h, dec_dig u⟩, val10_dec]

/-- The sign and the digits behind it. -/
def sgnOf (s : List UInt8) : Int × List UInt8 := match bef s with
  | 45 :: r => (-1, r)
  | l => (1, l)

def prsR (s : List UInt8) : Tri := match numb (sgnOf s).2, numb (sec s) with
  | some p, some q => if q ≠ 0 ∧ text ((sgnOf s).1 * p) q = s then ((sgnOf s).1 * p, (q : Int), 0) else (0, 0, 2)
  | _, _ => (0, 0, 2)

theorem sgnOf_itoa {P Q : Int} (h : P.natAbs < 10000000000) : ∃ p : Nat, numb (sgnOf (txt P Q)).2 = some p ∧ (sgnOf (txt P Q)).1 * p = P := by
  unfold sgnOf
  rw [bef_txt]
  rcases Int.lt_or_le P 0 with h' | h'
  · rw [itoa_below h']
    exact ⟨P.natAbs, numb_dec h, by simp only; omega⟩
  · rw [itoa_pos h']
    obtain ⟨c, r, hc, hd⟩ := dec_cons P.toNat
    have hn := numb_dec (u := P.toNat) (by omega)
    rw [hc] at hn ⊢
    have : (match c :: r with | 45 :: r => ((-1 : Int), r) | l => (1, l)) = (1, c :: r) := by
      split
      · rename_i heq
        injection heq with h1 h2
        subst h1
        exact absurd hd (by decide)
      · rfl
    rw [this]
    exact ⟨P.toNat, hn, by simp only; omega⟩

theorem prsR_txt {P Q : Int} (h : Ok P Q) (hQ : 1 ≤ Q) : prsR (txt P Q) = (P, Q, 0) := by
  have hb := h.bounds
  have ht : text P Q = txt P Q := by unfold text; rw [if_pos h]
  obtain ⟨p, h1, h2⟩ := sgnOf_itoa (P := P) (Q := Q) (by omega)
  have h3 : numb (sec (txt P Q)) = some Q.toNat := by
    rw [sec_txt, den_one hQ]
    split
    · rename_i h1; subst h1; decide
    · rw [itoa_pos (by omega)]; exact numb_dec (by omega)
  have h4 : (Q.toNat : Int) = Q := by omega
  unfold prsR
  rw [h1, h3]
  simp only [h2, h4, ht]
  rw [if_pos ⟨by omega, trivial⟩]

theorem prsR_eq (s : List UInt8) : prsR s = prs s := by
  rcases prs_cases s with ⟨P, Q, h1, h2, h3, h4⟩ | ⟨h1, h2⟩
  · rw [h4, ← h3]; exact prsR_txt h1 h2
  · rw [h1]
    unfold prsR
    split
    · rename_i p q hp hq
      split
      · rename_i ht
        exfalso
        have hs : s ≠ [] := by
          rintro rfl
          simp [sgnOf, bef, numb] at hp
        obtain ⟨ho, hx⟩ := text_eq ht.2 hs
        exact h2 _ _ ho (by omega) hx
      · rfl
    · rfl

/-! ### Texts and values -/

theorem txt_den (P Q : Int) : txt P (den Q) = txt P Q := by
  unfold txt
  rw [den_one (den_pos Q)]

theorem txt_val {P Q P' Q' : Int} (h : Ok P Q) (h' : Ok P' Q') : txt P Q = txt P' Q' ↔ val P Q = val P' Q' := by
  constructor
  · intro he
    have h1 := prs_txt h.den' (den_pos Q)
    have h2 := prs_txt h'.den' (den_pos Q')
    rw [txt_den] at h1 h2
    rw [he, h2] at h1
    simp only [Prod.mk.injEq, and_true] at h1
    rw [← val_den (Q := Q), ← val_den (Q := Q'), h1.1, h1.2]
  · intro he
    obtain ⟨h1, h2⟩ := eq_val h h' he
    rw [← txt_den P Q, ← txt_den P' Q', h1, h2]

end Go.Proofs.YtkenfgifhebnpaaDoor.Rt
