import Derived.Test.YtjdidnonfmdfmaaDoorJDrawF
import Derived.Test.YtjdidnonfmdfmaaDoorJHashBlk

section
/- The contracts of draw.size, Between. -/

namespace Go.Proofs.YtjdidnonfmdfmaaDoor
open Go.RowKit
set_option linter.unusedVariables false
set_option maxRecDepth 100000

def sizeN (lo hi : Int) : Int := if lo < -1099511627776 ∨ lo > hi ∨ hi > 1099511627776 then 0 else hi - lo + 1
set_option maxHeartbeats 2000000 in
theorem size_of (lo hi : Int) (w : World) : Calls Tryd.prog 37 #[.int .i64 lo, .int .i64 hi] w fun e w' => e = .returned (.int .i64 (sizeN lo hi)) ∧ w' = w := by
  unfold sizeN
  by_cases h : lo < -1099511627776 ∨ lo > hi ∨ hi > 1099511627776
  · rw [if_pos h]
    go_enter Tryd.func37, Tryd.ntmps37
    go_wp2_with fail
    all_goals first | (go_ret; exact ⟨rfl, rfl⟩) | (exfalso; go_light; omega)
  · rw [if_neg h]
    have h1 : ¬ lo < -1099511627776 := by omega
    have h2 : ¬ lo > hi := by omega
    have h3 : ¬ hi > 1099511627776 := by omega
    have h4 : wrap64 (hi - lo) = hi - lo := by unfold wrap64; omega
    have h5 : wrap64 (hi - lo + 1) = hi - lo + 1 := by unfold wrap64; omega
    clear h
    go_enter Tryd.func37, Tryd.ntmps37
    go_wp2_with fail
    all_goals (go_ret; exact ⟨rfl, rfl⟩)

set_option maxHeartbeats 2000000 in
theorem between_at (s : ByteArray) (A : Option Addr) (cap : Nat) (p : List Int) (lo hi : Int) (n k : Nat) (w : World) (hr : Rd w w.heap.size A (p.map iv)) (hc : p.length ≤ cap) (hm : cap ≤ maxLen) (hs : s.size ≤ 32) (hn : p.length ≤ 8)
    (hI : ∀ n ∈ p, M.I64 n) (hT : HTab w) (hlo : -1099511627776 ≤ lo) (hhi : hi ≤ 1099511627776) (h1 : 1 ≤ n) (h2 : n ≤ 1099511627776) (hnn : hi - lo + 1 = n) (hk : k ≤ 1000000000) (hF : First s p n k) :
    Calls Tryd.prog 26 #[.string s, .slice A p.length cap, .int .i64 lo, .int .i64 hi] w fun e w' => e = .returned (.tuple #[.int .i64 (lo + ((wordN s p k % n : Nat) : Int)), .int .i64 0]) ∧ Below w.heap.size w w' := by
  have cN := num_at s A cap p n k w hr hc hm hs hn hI hT h1 h2 hk hF
  have hsz : sizeN lo hi = (n : Int) := by unfold sizeN; rw [if_neg (by omega), hnn]
  have cS := size_of lo hi w
  rw [hsz] at cS
  obtain ⟨y, hy⟩ : ∃ y : Nat, y = wordN s p k % n := ⟨_, rfl⟩
  obtain ⟨L, hL⟩ : ∃ L, L = p.length := ⟨_, rfl⟩
  have hyn : y < n := by rw [hy]; exact Nat.mod_lt _ (by omega)
  rw [← hy, ← hL] at cN
  rw [← hy, ← hL]
  have hwr : wrap64 (lo + (y : Int)) = lo + (y : Int) := by unfold wrap64; omega
  have CN := Lib.hid cN
  have CS := Lib.hid cS
  clear cN cS hy hL hr hc hm hI hT hk hF hsz hn hs
  go_enter Tryd.func26, Tryd.ntmps26
  go_wp2_with (go_at_call 37; refine CS.out.mono ?_; rintro e w' ⟨rfl, rfl⟩)
  refine CN.out.mono ?_
  rintro e w' ⟨rfl, hb⟩
  go_wp2_with fail
  refine bodyPost_ret (results_tmp2 rfl _ _ _) rfl ⟨rfl, hb⟩
end Go.Proofs.YtjdidnonfmdfmaaDoor
end

section
/- draw.Between over one value, and over two: the first try is always good. -/

namespace Go.Proofs.YtjdidnonfmdfmaaDoor
open Go.RowKit
set_option linter.unusedVariables false
set_option maxRecDepth 100000

theorem first_one (s : ByteArray) (p : List Int) : First s p 1 0 := ⟨by
  have := wordN_lt s p ((0 : Nat) : Int)
  have e : limN 1 = 281474976710656 := by decide
  omega, fun j hj => absurd hj (Nat.not_lt_zero j)⟩
theorem first_two (s : ByteArray) (p : List Int) : First s p 2 0 := ⟨by
  have := wordN_lt s p ((0 : Nat) : Int)
  have e : limN 2 = 281474976710656 := by decide
  omega, fun j hj => absurd hj (Nat.not_lt_zero j)⟩
theorem between_one (s : ByteArray) (A : Option Addr) (cap : Nat) (p : List Int) (lo : Int) (w : World) (hr : Rd w w.heap.size A (p.map iv)) (hc : p.length ≤ cap) (hm : cap ≤ maxLen) (hs : s.size ≤ 32) (hn : p.length ≤ 8)
    (hI : ∀ n ∈ p, M.I64 n) (hT : HTab w) (hlo : -1099511627776 ≤ lo) (hhi : lo ≤ 1099511627776) :
    Calls Tryd.prog 26 #[.string s, .slice A p.length cap, .int .i64 lo, .int .i64 lo] w fun e w' => e = .returned (.tuple #[.int .i64 lo, .int .i64 0]) ∧ Below w.heap.size w w' := by
  have h := between_at s A cap p lo lo 1 0 w hr hc hm hs hn hI hT hlo hhi (by omega) (by omega) (by omega) (by omega) (first_one s p)
  have e : lo + ((wordN s p ((0 : Nat) : Int) % 1 : Nat) : Int) = lo := by rw [Nat.mod_one]; simp
  rwa [e] at h
/-- Which of two values is drawn. -/
def coinAt (s : ByteArray) (p : List Int) : Int := ((wordN s p ((0 : Nat) : Int) % 2 : Nat) : Int)
theorem coinAt_in (s : ByteArray) (p : List Int) : 0 ≤ coinAt s p ∧ coinAt s p ≤ 1 := by unfold coinAt; omega
theorem between_two (s : ByteArray) (A : Option Addr) (cap : Nat) (p : List Int) (lo hi : Int) (hlh : hi = lo + 1) (w : World) (hr : Rd w w.heap.size A (p.map iv)) (hc : p.length ≤ cap) (hm : cap ≤ maxLen) (hs : s.size ≤ 32) (hn : p.length ≤ 8)
    (hI : ∀ n ∈ p, M.I64 n) (hT : HTab w) (hlo : -1099511627776 ≤ lo) (hhi : hi ≤ 1099511627776) :
    Calls Tryd.prog 26 #[.string s, .slice A p.length cap, .int .i64 lo, .int .i64 hi] w fun e w' => e = .returned (.tuple #[.int .i64 (lo + coinAt s p), .int .i64 0]) ∧ Below w.heap.size w w' :=
  between_at s A cap p lo hi 2 0 w hr hc hm hs hn hI hT hlo hhi (by omega) (by omega) (by omega) (by omega) (first_two s p)
end Go.Proofs.YtjdidnonfmdfmaaDoor
end

section
/- The statement's own: a split by value. -/


namespace Go.Proofs.YtjdidnonfmdfmaaDoor
open Go.RowKit
set_option linter.unusedVariables false
set_option maxRecDepth 100000

/-- A split as a value. -/
def spl (s : ByteArray) (A : Option Addr) (len cap : Nat) (t n lo hi : Int) : Value := .agg #[.string s, .slice A len cap, .int .i64 t, .int .i64 n, .int .i64 lo, .int .i64 hi]
set_option maxHeartbeats 2000000 in
theorem splitOwn_any (s : ByteArray) (A : Option Addr) (len cap : Nat) (t n lo hi : Int) (w : World) : Calls Tryd.prog 11 #[spl s A len cap t n lo hi] w fun e w' => e = .returned (spl s A len cap t n lo hi) ∧ Below w.heap.size w w' := by
  unfold spl
  go_enter Tryd.func11, Tryd.ntmps11
  go_wp2_with fail
  exact bodyPost_ret (results_cell_row rfl _ _ (w.heap.size + 1) 28 #[.string s, .slice A len cap, .int .i64 t, .int .i64 n, .int .i64 lo, .int .i64 hi] (0, 0) _ rfl (by simpa using heap_alloc_new (w.alloc (.cells #[.string s, .slice A len cap, .int .i64 t, .int .i64 n, .int .i64 lo, .int .i64 hi] 24)) (.cells #[.string s, .slice A len cap, .int .i64 t, .int .i64 n, .int .i64 lo, .int .i64 hi] 28)) Tryd.underlying28 rfl (by kernel_rfl)) rfl
    ⟨rfl, ((Below.refl _ _).alloc (Nat.le_refl _) _).alloc (by simp) _⟩
end Go.Proofs.YtjdidnonfmdfmaaDoor
end

