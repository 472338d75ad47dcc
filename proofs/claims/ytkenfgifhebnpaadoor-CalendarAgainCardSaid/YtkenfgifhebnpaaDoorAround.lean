/- The reference's Around and At: numbers made of numbers. -/
import Derived.Test.YtkenfgifhebnpaaDoorBase
import Derived.Test.YtkenfgifhebnpaaDoorWireMath
namespace Go.Proofs.YtkenfgifhebnpaaDoor
open Go.RowKit
set_option linter.unusedVariables false
set_option maxRecDepth 100000

/-- A number from 0 to most - 1; 0, if there is none. -/
def around (n most : Int) : Int := if most < 1 then 0 else (if n < 0 then -(n + 1) else n).tmod most
theorem around_lt (n most : Int) (h : 1 ≤ most) : 0 ≤ around n most ∧ around n most < most := by
  unfold around
  rw [if_neg (by omega)]
  have hn : 0 ≤ (if n < 0 then -(n + 1) else n) := by split <;> omega
  rw [Int.tmod_eq_emod_of_nonneg hn]
  exact ⟨Int.emod_nonneg _ (by omega), Int.emod_lt_of_pos _ (by omega)⟩
theorem around_low (n most : Int) (h : most < 1) : around n most = 0 := by unfold around; rw [if_pos h]

set_option maxHeartbeats 2000000 in
theorem around_any (n most : Int) (w : World) (hn : M.I64 n) (hm : M.I64 most) :
    Calls Tryd.prog 17 #[.int .i64 n, .int .i64 most] w fun e w' => e = .returned (.int .i64 (around n most)) ∧ w' = w := by
  unfold M.I64 at hn hm
  obtain ⟨z, hz⟩ : ∃ z, z = around n most := ⟨_, rfl⟩
  have hlo : most < 1 → z = 0 := fun h => by rw [hz]; exact around_low n most h
  have hhi : ¬ most < 1 → n < 0 → (-(n + 1)).tmod most = z ∧ (-(n + 1)) % most = z := fun h h2 => by
    rw [hz]; unfold around; rw [if_neg h, if_pos h2]
    exact ⟨rfl, (Int.tmod_eq_emod_of_nonneg (by omega)).symm⟩
  have hhj : ¬ most < 1 → ¬ n < 0 → n.tmod most = z ∧ n % most = z := fun h h2 => by
    rw [hz]; unfold around; rw [if_neg h, if_neg h2]
    exact ⟨rfl, (Int.tmod_eq_emod_of_nonneg (by omega)).symm⟩
  have hzb : ¬ most < 1 → 0 ≤ z ∧ z < most := fun h => by rw [hz]; exact around_lt n most (by omega)
  rw [← hz]
  have HH := Lib.hid (And.intro hlo (And.intro hhi (And.intro hhj hzb)))
  clear hlo hhi hhj hzb hz
  by_cases h0 : n < 0
  · have hw1 : wrap64 (n + 1) = n + 1 := by unfold wrap64; omega
    by_cases hm1 : most < 1
    · obtain rfl := HH.out.1 hm1
      clear HH
      go_enter Tryd.func17, Tryd.ntmps17
      go_wp2_with fail
      go_ret
      exact ⟨rfl, rfl⟩
    · obtain ⟨e1, e2⟩ := HH.out.2.1 hm1 h0
      obtain ⟨b1, b2⟩ := HH.out.2.2.2 hm1
      have hm0 : ¬ most = 0 := by omega
      clear HH
      go_enter Tryd.func17, Tryd.ntmps17
      go_wp2_with fail
      go_ret
      exact ⟨rfl, rfl⟩
  · by_cases hm1 : most < 1
    · obtain rfl := HH.out.1 hm1
      clear HH
      go_enter Tryd.func17, Tryd.ntmps17
      go_wp2_with fail
      go_ret
      exact ⟨rfl, rfl⟩
    · obtain ⟨e1, e2⟩ := HH.out.2.2.1 hm1 h0
      obtain ⟨b1, b2⟩ := HH.out.2.2.2 hm1
      have hm0 : ¬ most = 0 := by omega
      clear HH
      go_enter Tryd.func17, Tryd.ntmps17
      go_wp2_with fail
      go_ret
      exact ⟨rfl, rfl⟩

/-- A number made of a list's element; 0 behind its end. -/
def atN (l : List Int) (i : Nat) (most : Int) : Int := if i < l.length then around (l.getD i 0) most else 0
theorem atN_lt (l : List Int) (i : Nat) (most : Int) (h : 1 ≤ most) : 0 ≤ atN l i most ∧ atN l i most < most := by
  unfold atN
  split
  · exact around_lt _ _ h
  · omega
set_option maxHeartbeats 2000000 in
theorem atN_any (A : Option Addr) (cap : Nat) (l : List Int) (i : Nat) (most : Int) (w : World) (hr : Rd w w.heap.size A (l.map iv)) (hI : ∀ n ∈ l, M.I64 n) (hm : M.I64 most) (hl : l.length ≤ 9223372036854775807) :
    Calls Tryd.prog 34 #[.slice A l.length cap, .int .i64 i, .int .i64 most] w fun e w' => e = .returned (.int .i64 (atN l i most)) ∧ w' = w := by
  by_cases h : i < l.length
  · have e : atN l i most = around (l.getD i 0) most := if_pos h
    have c := around_any (l.getD i 0) most w (hI _ (by rw [show l.getD i 0 = l[i] by simp [h]]; exact List.getElem_mem h)) hm
    obtain ⟨b, off, rfl, hb, hcell⟩ := hr (by simp; omega)
    have hck := hcell i (iv (l.getD i 0)) (by simp [List.getElem?_eq_getElem h])
    rw [e]
    obtain ⟨x, hx⟩ : ∃ x, x = l.getD i 0 := ⟨_, rfl⟩
    obtain ⟨N, hN⟩ : ∃ N, N = l.length := ⟨_, rfl⟩
    rw [← hx] at c hck
    rw [← hx, ← hN]
    rw [← hN] at h hl
    unfold iv at hck
    obtain ⟨z, hz⟩ : ∃ z, z = around x most := ⟨_, rfl⟩
    rw [← hz] at c ⊢
    have C := Lib.hid c
    have h2 : (i : Int) < N := by omega
    clear c hz hx hN e hcell hI hr
    go_enter Tryd.func34, Tryd.ntmps34
    go_wp2_with fail
    refine C.out.mono ?_
    rintro e w' ⟨rfl, rfl⟩
    go_wp2_with fail
    go_ret
    exact ⟨rfl, rfl⟩
  · have e : atN l i most = 0 := if_neg h
    rw [e]
    have h2 : ¬ (i : Int) < l.length := by omega
    clear e
    go_enter Tryd.func34, Tryd.ntmps34
    go_wp2_with fail
    go_ret
    exact ⟨rfl, rfl⟩
end Go.Proofs.YtkenfgifhebnpaaDoor
