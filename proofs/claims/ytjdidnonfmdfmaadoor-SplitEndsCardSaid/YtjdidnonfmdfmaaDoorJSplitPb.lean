import Derived.Test.YtjdidnonfmdfmaaDoorJSplitPa

section
/- split: exceeds, Valid. -/

namespace Go.Proofs.YtjdidnonfmdfmaaDoor
open Go.RowKit
set_option linter.unusedVariables false
set_option maxRecDepth 100000

set_option maxHeartbeats 1000000 in
theorem splitExceeds_ok (v : Int) (w : World) (h1 : -1048576 ≤ v) (h2 : v ≤ 1048576) : Calls Tryd.prog 28 #[.int .i64 v] w fun e w' => e = .returned (.bool false) ∧ w' = w := by
  have h3 : ¬ v < -1048576 := by omega
  have h4 : ¬ v > 1048576 := by omega
  clear h1 h2
  go_enter Tryd.func28, Tryd.ntmps28
  go_wp2_with fail
  all_goals (go_ret; exact ⟨rfl, rfl⟩)

/-- What Valid says of a split whose limits are kept. -/
def rangeE (t n lo hi : Int) : Int := if t < n * lo ∨ t > n * hi then 5 else 0
set_option maxHeartbeats 4000000 in
theorem splitValid_in (s : ByteArray) (A : Option Addr) (len cap : Nat) (t n lo hi : Int) (w : World) (hs : s.size ≤ 32) (hp : len ≤ 6) (hn0 : 0 ≤ n) (hn : n ≤ 65536) (hlo : -1048576 ≤ lo) (hlh : lo ≤ hi) (hhi : hi ≤ 1048576) :
    Calls Tryd.prog 12 #[spl s A len cap t n lo hi] w fun e w' => e = .returned (.int .i64 (rangeE t n lo hi)) ∧ Below w.heap.size w w' := by
  have m1 := mul_in hn0 hn hlo (by omega)
  have m2 := mul_in hn0 hn (show -1048576 ≤ hi by omega) hhi
  obtain ⟨a1, e1⟩ : ∃ a, a = n * lo := ⟨_, rfl⟩
  obtain ⟨a2, e2⟩ : ∃ a, a = n * hi := ⟨_, rfl⟩
  have hR : rangeE t n lo hi = if t < a1 ∨ t > a2 then 5 else 0 := by rw [e1, e2]; rfl
  rw [← e1] at m1
  rw [← e2] at m2
  have p1 : wrap64 (n * lo) = a1 := by rw [← e1]; exact wrap_id (by omega) (by omega)
  have p2 : wrap64 (n * hi) = a2 := by rw [← e2]; exact wrap_id (by omega) (by omega)
  have q1 : ¬ n > 65536 := by omega
  have q2 : ¬ (s.size : Int) > 32 := by omega
  have q3 : ¬ (len : Int) > 6 := by omega
  have q4 : ¬ n < 0 := by omega
  have q5 : ¬ lo > hi := by omega
  have c1 := fun W => splitExceeds_ok lo W hlo (by omega)
  have c2 := fun W => splitExceeds_ok hi W (by omega) hhi
  have C1 := Lib.hid c1
  have C2 := Lib.hid c2
  obtain ⟨z, hz⟩ : ∃ z, z = rangeE t n lo hi := ⟨_, rfl⟩
  rw [← hz]
  have HR := Lib.hid (hz.trans hR)
  rw [spl_def]
  clear m1 m2 e1 e2 hz hR c1 c2 hs hp hn0 hn hlo hlh hhi
  go_enter Tryd.func12, Tryd.ntmps12
  go_wp2_with fail
  refine (C1.out _).mono ?_
  rintro e w1 ⟨rfl, rfl⟩
  go_wp2_with fail
  refine (C2.out _).mono ?_
  rintro e w1 ⟨rfl, rfl⟩
  clear C1 C2
  by_cases h1 : t < a1
  · obtain rfl : z = 5 := by rw [HR.out, if_pos (.inl h1)]
    go_wp2_with fail
    go_ret
    exact ⟨rfl, (Below.refl _ _).alloc (Nat.le_refl _) _⟩
  · by_cases h2 : t > a2
    · obtain rfl : z = 5 := by rw [HR.out, if_pos (.inr h2)]
      go_wp2_with fail
      go_ret
      exact ⟨rfl, (Below.refl _ _).alloc (Nat.le_refl _) _⟩
    · obtain rfl : z = 0 := by rw [HR.out, if_neg (by omega)]
      go_wp2_with fail
      go_ret
      exact ⟨rfl, (Below.refl _ _).alloc (Nat.le_refl _) _⟩
end Go.Proofs.YtjdidnonfmdfmaaDoor
end

