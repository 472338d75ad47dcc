/- Decoding an encoding gives the value back, whatever follows it. -/
import Derived.Test.YtmlnpnlajgnohaaDoorWireMathB
namespace Go.Proofs.YtmlnpnlajgnohaaDoor.M

theorem getLen_enc (n : Nat) (t : List UInt8) (size : Nat) (hs : 1 ≤ size) (hn : n ≤ 9223372036854775807) (h : n * size ≤ t.length) : getLen (encI n ++ t) size = ((n : Int), (encI n).length, 0) := by
  unfold getLen
  rw [getI_encI n (I64_nat n hn) t]
  simp only [ne_eq, not_true_eq_false, if_false]
  rw [if_neg (by omega), if_neg]
  rw [List.length_append]
  have hsz : (0 : Int) < size := by omega
  have h1 : (n : Int) * size ≤ (t.length : Int) := by
    have : ((n * size : Nat) : Int) ≤ (t.length : Int) := by omega
    rwa [Int.natCast_mul] at this
  have h2 := Int.le_ediv_of_mul_le hsz h1
  have e : (((encI n).length + t.length : Nat) : Int) - ((encI n).length : Nat) = (t.length : Int) := by omega
  rw [e]
  omega

theorem getB_enc (s t : List UInt8) (hs : s.length ≤ 9223372036854775807) : getB (encB s ++ t) = (s, (encB s).length, 0) := by
  have h := getLen_enc s.length (s ++ t) 1 (Nat.le_refl _) hs (by simp)
  unfold getB encB
  rw [List.append_assoc, h]
  simp

theorem decN_enc {α : Type} (g : List UInt8 → α × Nat × Nat) (e : α → List UInt8) (l : List α) (t : List UInt8) (hg : ∀ a ∈ l, ∀ q, g (e a ++ q) = (a, (e a).length, 0)) :
    decN g l.length (l.flatMap e ++ t) = (l, (l.flatMap e).length, 0) := by
  induction l with
  | nil => rfl
  | cons a l ih =>
    have h1 := hg a (by simp) (l.flatMap e ++ t)
    have ih' := ih (fun b hb => hg b (by simp [hb]))
    rw [List.length_cons, List.flatMap_cons, List.append_assoc, decN_ok _ _ _ (by rw [h1]), h1]
    simp only [List.drop_left, ih']
    simp [comb]

theorem getLs_enc {α : Type} (g : List UInt8 → α × Nat × Nat) (e : α → List UInt8) (l : List α) (t : List UInt8) (size : Nat) (hs : 1 ≤ size) (hl : l.length ≤ 9223372036854775807) (hz : l.length * size ≤ (l.flatMap e).length)
    (hg : ∀ a ∈ l, ∀ q, g (e a ++ q) = (a, (e a).length, 0)) : getLs g size (encL e l ++ t) = (l, (encL e l).length, 0) := by
  have h := getLen_enc l.length (l.flatMap e ++ t) size hs hl (by rw [List.length_append]; omega)
  have hd := decN_enc g e l t hg
  unfold encL
  rw [List.append_assoc]
  rw [getLs_of g size _ (by rw [h]) (l, (l.flatMap e).length, 0) (by rw [h]; simpa using hd), h]
  simp [comb]

theorem flat_ge {α : Type} (e : α → List UInt8) (l : List α) (h : ∀ a ∈ l, 1 ≤ (e a).length) : l.length ≤ (l.flatMap e).length := by
  induction l with
  | nil => simp
  | cons a t ih =>
    have h1 := h a (by simp)
    have h2 := ih (fun b hb => h b (by simp [hb]))
    simp only [List.flatMap_cons, List.length_append, List.length_cons]; omega
theorem getInts_enc (l : List Int) (t : List UInt8) (hl : l.length ≤ 9223372036854775807) (hI : ∀ n ∈ l, I64 n) : getLs getI 1 (encL encI l ++ t) = (l, (encL encI l).length, 0) :=
  getLs_enc getI encI l t 1 (Nat.le_refl _) hl (by rw [Nat.mul_one]; exact flat_ge encI l (fun n _ => encI_pos n)) (fun n hn q => getI_encI n (hI n hn) q)
theorem encL_pos {α : Type} (e : α → List UInt8) (l : List α) : 1 ≤ (encL e l).length := by
  unfold encL; rw [List.length_append]; have := encI_pos l.length; omega
end Go.Proofs.YtmlnpnlajgnohaaDoor.M
