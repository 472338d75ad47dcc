import GoSem.Op.String

section
namespace Go.Proofs.YtkgddcemocfgfaaGreatDoor.M

/-- Big-endian digits in base 256, at most f of them, none at the head zero. -/
def digs : Nat → Nat → List UInt8
 | 0, _ => []
 | f + 1, m => if m = 0 then [] else digs f (m / 256) ++ [UInt8.ofNat m]

/-- How many such digits a number below 2^64 has. -/
def nb (m : Nat) : Nat :=
 if m = 0 then 0 else if m < 256 then 1 else if m < 65536 then 2 else if m < 16777216 then 3 else if m < 4294967296 then 4
 else if m < 1099511627776 then 5 else if m < 281474976710656 then 6 else if m < 72057594037927936 then 7 else 8

def mag (n : Int) : Nat := if n < 0 then (-1 - n).toNat else n.toNat
def flip (neg : Bool) (d : UInt8) : UInt8 := if neg then 255 - d else d
def encI (n : Int) : List UInt8 :=
 UInt8.ofNat (if n < 0 then 127 - nb (mag n) else 128 + nb (mag n)) :: (digs 8 (mag n)).map (flip (decide (n < 0)))
def val (l : List UInt8) : Nat := l.foldl (fun a c => a * 256 + c.toNat) 0

theorem digs_zero (f : Nat) : digs f 0 = [] := by cases f <;> simp [digs]

theorem nb_le (m : Nat) : nb m ≤ 8 := by unfold nb; repeat' split <;> try omega

theorem digs_len (m : Nat) (h : m < 18446744073709551616) : (digs 8 m).length = nb m := by
 have e : ∀ f x, (digs (f+1) x).length = if x = 0 then 0 else 1 + (digs f (x / 256)).length := by
  intro f x; by_cases hx : x = 0 <;> simp [digs, hx]; omega
 have e0 : ∀ x, (digs 0 x).length = 0 := fun x => rfl
 simp only [e, e0]
 unfold nb
 repeat' split
 all_goals omega

theorem flip_toNat (d : UInt8) : (flip true d).toNat = 255 - d.toNat := by
 have h := d.toNat_lt
 simp only [flip, if_true]
 rw [UInt8.toNat_sub_of_le _ _ (by rw [UInt8.le_iff_toNat_le]; simp; omega)]; rfl
/-- An int of 64 bits. -/
def I64 (n : Int) : Prop := -9223372036854775808 ≤ n ∧ n ≤ 9223372036854775807
theorem mag_lt (n : Int) (h : I64 n) : mag n < 9223372036854775808 := by
 unfold I64 at h; unfold mag; split <;> omega

theorem encI_len (n : Int) (h : I64 n) : (encI n).length = 1 + nb (mag n) := by
 have := mag_lt n h
 simp [encI, digs_len (mag n) (by omega)]; omega
theorem encI_pos (n : Int) : 1 ≤ (encI n).length := by simp [encI]
theorem encI_len_le (n : Int) (h : I64 n) : (encI n).length ≤ 9 := by
 rw [encI_len n h]; have := nb_le (mag n); omega
/-- The j lowest digits, the most significant first. -/
def lowd : Nat → Nat → List UInt8
 | 0, _ => []
 | j + 1, m => UInt8.ofNat (m / 256 ^ j) :: lowd j m
theorem lowd_len (j m : Nat) : (lowd j m).length = j := by induction j with
 | zero => rfl
 | succ j ih => simp [lowd, ih]
theorem digs_step (g j m : Nat) (h : digs 8 m = digs (g + 1) (m / 256 ^ j) ++ lowd j m) (h0 : m / 256 ^ j ≠ 0) : digs 8 m = digs g (m / 256 ^ (j + 1)) ++ lowd (j + 1) m := by
 rw [h]
 simp only [digs, if_neg h0, lowd, List.append_assoc, List.singleton_append, Nat.div_div_eq_div_mul, Nat.pow_succ]
theorem div_pow_lt (m : Nat) (h : m < 9223372036854775808) : m / 256 ^ 8 = 0 := Nat.div_eq_of_lt (by omega)

def encB (l : List UInt8) : List UInt8 := encI l.length ++ l
def encL {α : Type} (e : α → List UInt8) (l : List α) : List UInt8 := encI l.length ++ l.flatMap e
theorem flat_take {α : Type} (e : α → List UInt8) (l : List α) (k : Nat) (h : k < l.length) : (l.take (k + 1)).flatMap e = (l.take k).flatMap e ++ e l[k] := by
 rw [List.take_succ_eq_append_getElem h, List.flatMap_append]; simp
theorem I64_nat (n : Nat) (h : n ≤ 9223372036854775807) : I64 n := ⟨by omega, by omega⟩
theorem flat_ints (l : List Int) (h : ∀ n ∈ l, I64 n) : (l.flatMap encI).length ≤ 9 * l.length := by
 induction l with
 | nil => simp
 | cons a t ih =>
  have h1 := encI_len_le a (h a (by simp))
  have h2 := ih (fun n hn => h n (by simp [hn]))
  simp only [List.flatMap_cons, List.length_append, List.length_cons]; omega
end Go.Proofs.YtkgddcemocfgfaaGreatDoor.M
end

section
/- More plain mathematics of the encodings of lists. -/

namespace Go.Proofs.YtkgddcemocfgfaaGreatDoor.M

theorem flat_part {α : Type} (e : α → List UInt8) (l : List α) (k : Nat) : ((l.take k).flatMap e).length ≤ (l.flatMap e).length := by
 have h : l.flatMap e = (l.take k).flatMap e ++ (l.drop k).flatMap e := by rw [← List.flatMap_append, List.take_append_drop]
 rw [h, List.length_append]; omega
theorem flat_mem {α : Type} (e : α → List UInt8) (l : List α) (x : α) (h : x ∈ l) : (e x).length ≤ (l.flatMap e).length := by
 induction l with
 | nil => simp at h
 | cons a t ih =>
  simp only [List.flatMap_cons, List.length_append]
  rcases List.mem_cons.1 h with rfl | h
  ·omega
  ·have := ih h; omega

end Go.Proofs.YtkgddcemocfgfaaGreatDoor.M
end

section
/- Decoding an encoding gives the value back, whatever follows it. -/

namespace Go.Proofs.YtkgddcemocfgfaaGreatDoor.M

end Go.Proofs.YtkgddcemocfgfaaGreatDoor.M
end

section
/- The order of encodings is that of the integers. -/


namespace Go.Proofs.YtkgddcemocfgfaaGreatDoor.M

end Go.Proofs.YtkgddcemocfgfaaGreatDoor.M
end

