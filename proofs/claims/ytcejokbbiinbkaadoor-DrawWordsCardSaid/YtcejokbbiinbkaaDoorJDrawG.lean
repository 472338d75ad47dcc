import Derived.Test.YtcejokbbiinbkaaDoorJDrawF
import Derived.Test.YtcejokbbiinbkaaDoorJTake

section
/- The contracts of draw.size, Between, sum, total. -/


namespace Go.Proofs.YtcejokbbiinbkaaDoor
open Go.RowKit
set_option linter.unusedVariables false
set_option maxRecDepth 100000

def sizeN (lo hi : Int) : Int := if lo < -1099511627776 ∨ lo > hi ∨ hi > 1099511627776 then 0 else hi - lo + 1
set_option maxHeartbeats 2000000 in
theorem size_of (lo hi : Int) (w : World) : Calls Tryd.prog 40 #[.int .i64 lo, .int .i64 hi] w fun e w' => e = .returned (.int .i64 (sizeN lo hi)) ∧ w' = w := by
  unfold sizeN
  by_cases h : lo < -1099511627776 ∨ lo > hi ∨ hi > 1099511627776
  · rw [if_pos h]
    go_enter Tryd.func40, Tryd.ntmps40
    go_wp2_with fail
    all_goals first | (go_ret; exact ⟨rfl, rfl⟩) | (exfalso; go_light; omega)
  · rw [if_neg h]
    have h1 : ¬ lo < -1099511627776 := by omega
    have h2 : ¬ lo > hi := by omega
    have h3 : ¬ hi > 1099511627776 := by omega
    have h4 : wrap64 (hi - lo) = hi - lo := by unfold wrap64; omega
    have h5 : wrap64 (hi - lo + 1) = hi - lo + 1 := by unfold wrap64; omega
    clear h
    go_enter Tryd.func40, Tryd.ntmps40
    go_wp2_with fail
    all_goals (go_ret; exact ⟨rfl, rfl⟩)

set_option maxHeartbeats 2000000 in
theorem between_at (s : ByteArray) (A : Option Addr) (cap : Nat) (p : List Int) (lo hi : Int) (n k : Nat) (w : World) (hr : Rd w w.heap.size A (p.map iv)) (hc : p.length ≤ cap) (hm : cap ≤ maxLen) (hs : s.size ≤ 32) (hn : p.length ≤ 8)
    (hI : ∀ n ∈ p, M.I64 n) (hT : HTab w) (hlo : -1099511627776 ≤ lo) (hhi : hi ≤ 1099511627776) (h1 : 1 ≤ n) (h2 : n ≤ 1099511627776) (hnn : hi - lo + 1 = n) (hk : k ≤ 1000000000) (hF : First s p n k) :
    Calls Tryd.prog 21 #[.string s, .slice A p.length cap, .int .i64 lo, .int .i64 hi] w fun e w' => e = .returned (.tuple #[.int .i64 (lo + ((wordN s p k % n : Nat) : Int)), .int .i64 0]) ∧ Below w.heap.size w w' := by
  have cN := num_at s A cap p n k w hr hc hm hs hn hI hT h1 h2 hk hF
  have hsz : sizeN lo hi = (n : Int) := by unfold sizeN; rw [if_neg (by omega), hnn]
  have cS := size_of lo hi w
  rw [hsz] at cS
  obtain ⟨y, hy⟩ : ∃ y : Nat, y = wordN s p k % n := ⟨_, rfl⟩
  obtain ⟨L, hL⟩ : ∃ L, L = p.length := ⟨_, rfl⟩
  have hyn : y < n := by rw [hy]; exact Nat.mod_lt _ (by omega)
  rw [← hy, ← hL] at cN
  rw [← hy, ← hL]
  have hwr : wrap64 (lo + (y : Int)) = lo + (y : Int) := by unfold wrap64; omega
  have CN := Lib.hid cN
  have CS := Lib.hid cS
  clear cN cS hy hL hr hc hm hI hT hk hF hsz hn hs
  go_enter Tryd.func21, Tryd.ntmps21
  go_wp2_with (go_at_call 40; refine CS.out.mono ?_; rintro e w' ⟨rfl, rfl⟩)
  refine CN.out.mono ?_
  rintro e w' ⟨rfl, hb⟩
  go_wp2_with fail
  refine bodyPost_ret (results_tmp2 rfl _ _ _) rfl ⟨rfl, hb⟩

/-- The sum of some numbers. -/
def tot : List Int → Int
  | [] => 0
  | x :: r => x + tot r
theorem tot_append (l m : List Int) : tot (l ++ m) = tot l + tot m := by
  induction l with
  | nil => simp [tot]
  | cons x r ih => simp [tot, ih]; omega
theorem tot_step (l : List Int) (k : Nat) (h : k < l.length) : tot (l.take (k + 1)) = tot (l.take k) + l.getD k 0 := by
  rw [List.take_add_one, List.getElem?_eq_getElem h, tot_append, show l.getD k 0 = l[k] by simp [h]]
  simp [tot]
def OkW (l : List Int) : Prop := l.length ≤ 64 ∧ ∀ x ∈ l, 0 ≤ x ∧ x ≤ 1048576
theorem tot_le (l : List Int) (h : ∀ x ∈ l, 0 ≤ x ∧ x ≤ 1048576) : 0 ≤ tot l ∧ tot l ≤ 1048576 * l.length := by
  induction l with
  | nil => simp [tot]
  | cons x r ih =>
    have h1 := h x (by simp)
    have h2 := ih (fun y hy => h y (by simp [hy]))
    simp only [tot, List.length_cons]
    omega
theorem OkW.take {l : List Int} (h : OkW l) (k : Nat) : OkW (l.take k) := ⟨by rw [List.length_take]; have := h.1; omega, fun x hx => h.2 x (List.mem_of_mem_take hx)⟩
theorem OkW.tot {l : List Int} (h : OkW l) : 0 ≤ tot l ∧ tot l ≤ 67108864 := by
  have h1 := tot_le l h.2
  have h2 := h.1
  omega
theorem OkW.at {l : List Int} (h : OkW l) (k : Nat) (hk : k < l.length) : 0 ≤ l.getD k 0 ∧ l.getD k 0 ≤ 1048576 := by
  rw [show l.getD k 0 = l[k] by simp [hk]]
  exact h.2 _ (List.getElem_mem hk)

set_option maxHeartbeats 2000000 in
theorem sum_any' (A : Option Addr) (cap : Nat) (l : List Int) (w : World) (hr : Rd w w.heap.size A (l.map iv)) (hl : OkW l) :
    Calls Tryd.prog 42 #[.slice A l.length cap] w fun e w' => e = .returned (.int .i64 (tot l)) ∧ w' = w := by
  have HO := Lib.hid hl
  have HR := Lib.hid hr
  have h64 := hl.1
  clear hl hr
  go_enter Tryd.func42, Tryd.ntmps42
  go_wp2_with fail
  go_loopw [3, 5, 8] (fun s x i wr => ∃ k : Nat, k ≤ l.length ∧ i = .int .i64 k ∧ s = .int .i64 (tot (l.take k)) ∧ w = wr) (fun _ _ i _ => l.length - (intOf i).toNat)
  case atStart => exact ⟨0, Nat.zero_le _, rfl, rfl, rfl⟩
  case round =>
    obtain ⟨k, hk, rfl, rfl, hw⟩ := hrel
    have hw := hw.symm
    subst hw
    by_cases hlt : k < l.length
    · obtain ⟨b, off, rfl, hb, hcell⟩ := HR.out (by simp; omega)
      have hck := hcell k (iv (l.getD k 0)) (by simp [List.getElem?_eq_getElem hlt])
      have hst := tot_step l k hlt
      have h1 := HO.out.at k hlt
      have h2 := (HO.out.take k).tot
      unfold iv at hck
      obtain ⟨x, hx⟩ : ∃ x, x = l.getD k 0 := ⟨_, rfl⟩
      obtain ⟨T, hT⟩ : ∃ T, T = tot (l.take k) := ⟨_, rfl⟩
      rw [← hx] at hck hst h1
      rw [← hT] at hst h2 ⊢
      have HS := Lib.hid hst
      have hwr : wrap64 (T + x) = T + x := by unfold wrap64; omega
      clear hst hx hT hcell
      go_wp2_with fail
      refine ⟨⟨k + 1, by omega, by go_num, by rw [HS.out], trivial⟩, by simp [intOf]; omega⟩
    · obtain rfl : k = l.length := by omega
      rw [List.take_length]
      go_wp2_with fail
      go_ret
      exact ⟨rfl, rfl⟩

set_option maxHeartbeats 2000000 in
theorem total_ok (A : Option Addr) (cap : Nat) (l : List Int) (w : World) (hr : Rd w w.heap.size A (l.map iv)) (hl : OkW l) :
    Calls Tryd.prog 41 #[.slice A l.length cap] w fun e w' => e = .returned (.int .i64 (tot l)) ∧ w' = w := by
  have cS := sum_any' A cap l w hr hl
  have HO := Lib.hid hl
  have HR := Lib.hid hr
  have h64 : (l.length : Int) ≤ 64 := by have := hl.1; omega
  have CS := Lib.hid cS
  clear hl hr cS
  go_enter Tryd.func41, Tryd.ntmps41
  go_wp2_with fail
  go_loopw [4, 10] (fun x i wr => ∃ k : Nat, k ≤ l.length ∧ i = .int .i64 k ∧ w = wr) (fun _ i _ => l.length - (intOf i).toNat)
  case atStart => exact ⟨0, Nat.zero_le _, rfl, rfl⟩
  case round =>
    obtain ⟨k, hk, rfl, hw⟩ := hrel
    have hw := hw.symm
    subst hw
    by_cases hlt : k < l.length
    · obtain ⟨b, off, rfl, hb, hcell⟩ := HR.out (by simp; omega)
      have hck := hcell k (iv (l.getD k 0)) (by simp [List.getElem?_eq_getElem hlt])
      have h1 := HO.out.at k hlt
      unfold iv at hck
      obtain ⟨x, hx⟩ : ∃ x, x = l.getD k 0 := ⟨_, rfl⟩
      rw [← hx] at hck h1
      obtain ⟨h1, h2⟩ := h1
      clear hx hcell
      go_wp2_with fail
      refine ⟨⟨k + 1, by omega, by go_num, trivial⟩, by simp [intOf]; omega⟩
    · obtain rfl : k = l.length := by omega
      go_wp2_with (refine CS.out.mono ?_; rintro e w' ⟨rfl, rfl⟩)
      go_ret
      exact ⟨rfl, rfl⟩
end Go.Proofs.YtcejokbbiinbkaaDoor
end

