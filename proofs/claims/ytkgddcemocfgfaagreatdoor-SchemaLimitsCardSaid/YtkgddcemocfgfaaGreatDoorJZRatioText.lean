import Derived.Lib.AtoiAllCases
import Derived.Lib.ItoaNum

section
/- Plain mathematics: fractions in lowest terms, over the rational numbers. -/
namespace Go.Proofs.YtkgddcemocfgfaaGreatDoor.Rt

/-- A fraction beside the number of an error. -/
abbrev Tri := Int × Int × Int

/-- What `Make` answers. -/
def mk (p q : Int) : Tri :=
 if q = 0 then (0, 0, 1)
 else if 2147483648 < p.natAbs / Nat.gcd p.natAbs q.natAbs ∨ 2147483648 < q.natAbs / Nat.gcd p.natAbs q.natAbs then (0, 0, 5)
 else (if (p < 0 ∧ 0 < q) ∨ (0 < p ∧ q < 0) then -((p.natAbs / Nat.gcd p.natAbs q.natAbs : Nat) : Int)
  else ((p.natAbs / Nat.gcd p.natAbs q.natAbs : Nat) : Int), ((q.natAbs / Nat.gcd p.natAbs q.natAbs : Nat) : Int), 0)

/-- A number as a fraction of limited size. -/
def box (r : Rat) : Tri :=
 if 2147483648 < r.num.natAbs ∨ 2147483648 < r.den then (0, 0, 5) else (r.num, (r.den : Int), 0)

/-- The valid fractions. -/
def Ok (P Q : Int) : Prop :=
 (P = 0 ∧ Q = 0) ∨ (1 ≤ Q ∧ Q ≤ 2147483648 ∧ -2147483648 ≤ P ∧ P ≤ 2147483648 ∧ Nat.gcd P.natAbs Q.natAbs = 1)

instance (P Q : Int) : Decidable (Ok P Q) := by unfold Ok; infer_instance

def den (Q : Int) : Int := if Q < 1 then 1 else Q

def val (P Q : Int) : Rat := Rat.divInt P (den Q)

theorem Ok.bounds {P Q : Int} (h : Ok P Q) : -2147483648 ≤ P ∧ P ≤ 2147483648 ∧ 0 ≤ Q ∧ Q ≤ 2147483648 := by
 rcases h with ⟨h, h'⟩ | h <;> omega

theorem Ok.gcd {P Q : Int} (h : Ok P Q) : Nat.gcd P.natAbs (den Q).natAbs = 1 := by
 rcases h with ⟨rfl, rfl⟩ | ⟨h, -, -, -, h'⟩
 ·rfl
 ·have : den Q = Q := by unfold den; split <;> omega
  rw [this]; exact h'

theorem Ok.neg {P Q : Int} (h : Ok P Q) : Ok (-P) Q := by
 rcases h with ⟨rfl, rfl⟩ | ⟨h1, h2, h3, h4, h5⟩
 ·exact Or.inl ⟨rfl, rfl⟩
 ·exact Or.inr ⟨h1, h2, by omega, by omega, by rw [Int.natAbs_neg]; exact h5⟩

end Go.Proofs.YtkgddcemocfgfaaGreatDoor.Rt
end

section
/- Plain mathematics: the texts of fractions, and how they are read. -/



namespace Go.Proofs.YtkgddcemocfgfaaGreatDoor.Rt
open Go.Lib (decDigits itoa atoiAll parseMag parseUint10 NumEnd signless signed nDigits)

def Dig (c : UInt8) : Prop := 48 ≤ c.toNat ∧ c.toNat ≤ 57

instance (c : UInt8) : Decidable (Dig c) := by unfold Dig; infer_instance

theorem ofNat_dig {k : Nat} (h : k < 10) : (UInt8.ofNat (48 + k)).toNat = 48 + k := by
 simp only [UInt8.toNat_ofNat']; omega

theorem dec_dig : ∀ (u : Nat), ∀ c ∈ decDigits u, Dig c := by
 intro u
 induction u using Nat.strongRecOn with
 | _ u ih =>
  intro c hc
  rw [decDigits] at hc
  split at hc
  ·rename_i h
   simp only [List.mem_singleton] at hc
   subst hc
   unfold Dig; rw [ofNat_dig h]; omega
  ·rename_i h
   rcases List.mem_append.1 hc with hc | hc
   ·exact ih _ (by omega) _ hc
   ·simp only [List.mem_singleton] at hc
    subst hc
    unfold Dig; rw [ofNat_dig (Nat.mod_lt _ (by decide))]; omega

theorem dec_ne (u : Nat) : decDigits u ≠ [] := by
 rw [decDigits]; split <;> simp

theorem dec_cons (u : Nat) : ∃ c r, decDigits u = c :: r ∧ Dig c := by
 have h := dec_ne u
 have h' := dec_dig u
 generalize decDigits u = l at *
 cases l with
 | nil => exact absurd rfl h
 | cons c r => exact ⟨c, r, rfl, h' c (by simp)⟩

theorem itoa_pos {n : Int} (h : 0 ≤ n) : itoa n = decDigits n.toNat := by unfold itoa; rw [if_neg (by omega)]

theorem itoa_below {n : Int} (h : n < 0) : itoa n = 45 :: decDigits n.natAbs := by unfold itoa; rw [if_pos h]

/-! ### Texts -/

def txt (P Q : Int) : List UInt8 := itoa P ++ (if den Q = 1 then [] else 47 :: itoa (den Q))

def text (P Q : Int) : List UInt8 := if Ok P Q then txt P Q else []

/-! ### How the specification reads -/

def val10 (l : List UInt8) : Nat := l.foldl (fun n c => 10 * n + (c.toNat - 48)) 0

theorem val10_snoc (l : List UInt8) (c : UInt8) : val10 (l ++ [c]) = 10 * val10 l + (c.toNat - 48) := by
 unfold val10; rw [List.foldl_append]; rfl

theorem val10_dec : ∀ u : Nat, val10 (decDigits u) = u := by
 intro u
 induction u using Nat.strongRecOn with
 | _ u ih =>
  rw [decDigits]
  split
  ·rename_i h
   simp only [val10, List.foldl_cons, List.foldl_nil, ofNat_dig h]; omega
  ·rename_i h
   rw [val10_snoc, ih _ (by omega), ofNat_dig (Nat.mod_lt _ (by decide))]; omega

theorem val10_lt : ∀ l : List UInt8, (∀ c ∈ l, Dig c) → val10 l < 10 ^ l.length := by
 have key : ∀ (r l : List UInt8), (∀ c ∈ l, Dig c) → ∀ n, n < 10 ^ r.length → l.foldl (fun n c => 10 * n + (c.toNat - 48)) n < 10 ^ (r.length + l.length) := by
  intro r l
  induction l generalizing r with
  | nil => intro _ n hn; simpa using hn
  | cons c l ih =>
   intro h n hn
   have hc := h c (by simp)
   unfold Dig at hc
   have := ih (c :: r) (fun x hx => h x (by simp [hx])) (10 * n + (c.toNat - 48)) (by rw [List.length_cons, Nat.pow_succ]; omega)
   rw [List.foldl_cons]
   rw [show r.length + (c :: l).length = (c :: r).length + l.length by simp; omega]
   exact this
 intro l h
 have := key [] l h 0 (by decide)
 simpa [val10] using this

/-! ### Texts and values -/

end Go.Proofs.YtkgddcemocfgfaaGreatDoor.Rt
end

