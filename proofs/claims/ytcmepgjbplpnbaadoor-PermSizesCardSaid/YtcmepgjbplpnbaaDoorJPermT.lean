import Derived.Test.YtcmepgjbplpnbaaDoorJDrawC
import Derived.Test.YtcmepgjbplpnbaaDoorJPermMathB

section
/- What perm answers, by the chapter: over words. -/


namespace Go.Proofs.YtcmepgjbplpnbaaDoor
open Go.RowKit
set_option linter.unusedVariables false

/-- The number that a round takes. -/
def fw (s : ByteArray) (p : List Int) (B r x : Nat) : Nat := wordN s p ((65536 * r + x : Nat) : Int) % B
def mixS (s : ByteArray) (p : List Int) (n : Nat) : Nat → Nat := Pm.mix (fw s p (2 ^ Pm.lg n)) (2 ^ Pm.lg n)
def unmixS (s : ByteArray) (p : List Int) (n : Nat) : Nat → Nat := Pm.unmix (fw s p (2 ^ Pm.lg n)) (2 ^ Pm.lg n)
noncomputable def placeS (s : ByteArray) (p : List Int) (n x : Nat) : Nat := Pm.place (mixS s p n) n x
noncomputable def backS (s : ByteArray) (p : List Int) (n x : Nat) : Nat := Pm.place (unmixS s p n) n x
theorem fw_lt (s : ByteArray) (p : List Int) (k r x : Nat) : fw s p (2 ^ k) r x < 2 ^ k := Nat.mod_lt _ (Nat.two_pow_pos k)
theorem placeS_lt (s : ByteArray) (p : List Int) {n x : Nat} (hn : n ≤ 65536) (hx : x < n) : placeS s p n x < n := Pm.place_lt (fw_lt s p _) hx (Pm.lg_cap hn)
theorem backS_lt (s : ByteArray) (p : List Int) {n x : Nat} (hn : n ≤ 65536) (hx : x < n) : backS s p n x < n := Pm.unplace_lt (fw_lt s p _) hx (Pm.lg_cap hn)
theorem back_place (s : ByteArray) (p : List Int) {n x : Nat} (hn : n ≤ 65536) (hx : x < n) : backS s p n (placeS s p n x) = x := Pm.unplace_place (fw_lt s p _) hx (Pm.lg_cap hn)
theorem place_back (s : ByteArray) (p : List Int) {n x : Nat} (hn : n ≤ 65536) (hx : x < n) : placeS s p n (backS s p n x) = x := Pm.place_unplace (fw_lt s p _) hx (Pm.lg_cap hn)
theorem placeS_hit (s : ByteArray) (p : List Int) {n x : Nat} (hn : n ≤ 65536) (hx : x < n) : ∃ K, Pm.Hit (mixS s p n) n x K ∧ placeS s p n x = Pm.iter (mixS s p n) K x := by
  obtain ⟨K, -, h⟩ := Pm.mix_hit (fw_lt s p _) hx (Pm.lg_cap hn)
  exact ⟨K, h, Pm.place_is h⟩
theorem backS_hit (s : ByteArray) (p : List Int) {n x : Nat} (hn : n ≤ 65536) (hx : x < n) : ∃ K, Pm.Hit (unmixS s p n) n x K ∧ backS s p n x = Pm.iter (unmixS s p n) K x := by
  obtain ⟨K, -, h⟩ := Pm.unmix_hit (fw_lt s p _) hx (Pm.lg_cap hn)
  exact ⟨K, h, Pm.place_is h⟩
theorem iter_mix_lt (s : ByteArray) (p : List Int) {n x : Nat} (hn : n ≤ 65536) (hx : x < n) (k : Nat) : Pm.iter (mixS s p n) k x < 2 ^ Pm.lg n * 2 ^ Pm.lg n :=
  Pm.iter_lt (fun _ h => Pm.mix_lt (fw_lt s p _) h) (Nat.lt_of_lt_of_le hx (Pm.lg_cap hn)) k
theorem iter_unmix_lt (s : ByteArray) (p : List Int) {n x : Nat} (hn : n ≤ 65536) (hx : x < n) (k : Nat) : Pm.iter (unmixS s p n) k x < 2 ^ Pm.lg n * 2 ^ Pm.lg n :=
  Pm.iter_lt (fun _ h => Pm.unmix_lt (fw_lt s p _) h) (Nat.lt_of_lt_of_le hx (Pm.lg_cap hn)) k
theorem side_le (n : Nat) : 2 ^ Pm.lg n ≤ 256 := by
  have h : 2 ^ Pm.lg n ≤ 2 ^ 8 := Nat.pow_le_pow_right (by decide) (Pm.lg_le n)
  simpa using h
theorem side_sq (n : Nat) : 2 ^ Pm.lg n * 2 ^ Pm.lg n ≤ 65536 := by
  have h := side_le n
  have := Nat.mul_le_mul h h
  omega

/-- The error of a draw that is not given: 4; of a number out of range: 1. -/
def errP (s : ByteArray) (p : List Int) (n i : Int) : Int := if s.size > 32 ∨ p.length > 8 ∨ n > 65536 then 4 else if i < 0 ∨ i ≥ n then 1 else 0
noncomputable def atP (s : ByteArray) (p : List Int) (n i : Int) : Int := if errP s p n i = 0 then (placeS s p n.toNat i.toNat : Int) else 0
noncomputable def backP (s : ByteArray) (p : List Int) (n i : Int) : Int := if errP s p n i = 0 then (backS s p n.toNat i.toNat : Int) else 0
def errA (s : ByteArray) (p : List Int) (n : Int) : Int := if s.size > 32 ∨ p.length > 8 ∨ n > 65536 then 4 else if n < 0 then 1 else 0
/-- The places of all numbers. -/
noncomputable def allS (s : ByteArray) (p : List Int) (n : Nat) : List Int := (List.range n).map fun x => (placeS s p n x : Int)
noncomputable def allP (s : ByteArray) (p : List Int) (n : Int) : List Int := if errA s p n = 0 then allS s p n.toNat else []
theorem allS_len (s : ByteArray) (p : List Int) (n : Nat) : (allS s p n).length = n := by simp [allS]
theorem allS_at (s : ByteArray) (p : List Int) (n x : Nat) (h : x < n) : (allS s p n)[x]? = some (placeS s p n x : Int) := by
  unfold allS
  rw [List.getElem?_map, List.getElem?_range h]
  rfl
theorem allS_nums (s : ByteArray) (p : List Int) {n : Nat} (hn : n ≤ 65536) : ∀ z ∈ allS s p n, 0 ≤ z ∧ z < n := by
  intro z hz
  obtain ⟨x, hx, rfl⟩ := List.mem_map.1 hz
  have := placeS_lt s p hn (List.mem_range.1 hx)
  omega
end Go.Proofs.YtcmepgjbplpnbaaDoor
end

section
/- The places of all numbers are these numbers, each once: their sum; two of them. -/

namespace Go.Proofs.YtcmepgjbplpnbaaDoor
open Go.RowKit
set_option linter.unusedVariables false

theorem place_inj (s : ByteArray) (p : List Int) {n x y : Nat} (hn : n ≤ 65536) (hx : x < n) (hy : y < n) (h : placeS s p n x = placeS s p n y) : x = y := by
  rw [← back_place s p hn hx, h, back_place s p hn hy]
theorem places_nodup (s : ByteArray) (p : List Int) {n : Nat} (hn : n ≤ 65536) : ((List.range n).map (placeS s p n)).Nodup := by
  unfold List.Nodup
  rw [List.pairwise_map]
  refine List.Pairwise.imp_of_mem ?_ List.nodup_range
  intro a b ha hb hab h
  exact hab (place_inj s p hn (List.mem_range.1 ha) (List.mem_range.1 hb) h)
/-- The sum of the first k places. -/
noncomputable def psum (s : ByteArray) (p : List Int) (n k : Nat) : Nat := Pm.sumN ((List.range k).map (placeS s p n))
theorem sumN_append (l m : List Nat) : Pm.sumN (l ++ m) = Pm.sumN l + Pm.sumN m := by
  induction l with
  | nil => simp [Pm.sumN]
  | cons x r ih => simp [Pm.sumN, ih]; omega
theorem psum_succ (s : ByteArray) (p : List Int) (n k : Nat) : psum s p n (k + 1) = psum s p n k + placeS s p n k := by
  unfold psum
  rw [List.range_succ, List.map_append, sumN_append]
  simp [Pm.sumN]
theorem psum_all (s : ByteArray) (p : List Int) {n : Nat} (hn : n ≤ 65536) : 2 * psum s p n n + n = n * n :=
  Pm.sum_all n _ (places_nodup s p hn) (by
    intro x hx
    obtain ⟨y, hy, rfl⟩ := List.mem_map.1 hx
    exact placeS_lt s p hn (List.mem_range.1 hy)) (by simp)
theorem psum_nine (s : ByteArray) (p : List Int) : psum s p 9 9 = 36 := by
  have := psum_all s p (n := 9) (by decide)
  omega
theorem two_places (s : ByteArray) (p : List Int) : placeS s p 2 0 + placeS s p 2 1 = 1 ∧ placeS s p 2 0 * placeS s p 2 1 = 0 := by
  have h0 := placeS_lt s p (n := 2) (x := 0) (by decide) (by decide)
  have h1 := placeS_lt s p (n := 2) (x := 1) (by decide) (by decide)
  have hne : placeS s p 2 0 ≠ placeS s p 2 1 := fun h => by
    have := place_inj s p (n := 2) (by decide) (by decide) (by decide) h
    omega
  generalize placeS s p 2 0 = x at *
  generalize placeS s p 2 1 = y at *
  have h : (x = 0 ∧ y = 1) ∨ (x = 1 ∧ y = 0) := by omega
  rcases h with ⟨rfl, rfl⟩ | ⟨rfl, rfl⟩ <;> decide
end Go.Proofs.YtcmepgjbplpnbaaDoor
end

