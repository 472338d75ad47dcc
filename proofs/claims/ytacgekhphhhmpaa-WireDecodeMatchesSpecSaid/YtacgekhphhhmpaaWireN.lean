/- The law's few: whether strings are few. -/
import Derived.Test.YtacgekhphhhmpaaWireO
namespace Go.Proofs.Ytacgekhphhhmpaa
open Go.RowKit
set_option linter.unusedVariables false

/-- The sum of the sizes. -/
def sum : List ByteArray → Nat
  | [] => 0
  | s :: l => s.size + sum l
theorem sum_le (K : Nat) : ∀ l : List ByteArray, (∀ s ∈ l, s.size ≤ K) → sum l ≤ l.length * K := by
  intro l
  induction l with
  | nil => intro _; simp [sum]
  | cons s l ih =>
    intro h
    have h1 := h s (by simp)
    have h2 := ih (fun t ht => h t (by simp [ht]))
    rw [List.length_cons, Nat.add_mul]; unfold sum; omega
theorem sum_take : ∀ (l : List ByteArray) (k : Nat) (h : k < l.length), sum (l.take (k + 1)) = sum (l.take k) + l[k].size := by
  intro l
  induction l with
  | nil => intro k h; simp at h
  | cons s l ih =>
    intro k h
    cases k with
    | zero => simp [sum]
    | succ k => simp only [List.take_succ_cons, sum, List.getElem_cons_succ]; rw [ih k (by simp at h; omega)]; omega
theorem sum_part : ∀ (l : List ByteArray) (k : Nat), sum (l.take k) ≤ sum l := by
  intro l
  induction l with
  | nil => intro k; simp
  | cons s l ih =>
    intro k
    cases k with
    | zero => simp [sum]
    | succ k => simp only [List.take_succ_cons, sum]; have := ih k; omega
theorem sum_mem (l : List ByteArray) (s : ByteArray) (h : s ∈ l) : s.size ≤ sum l := by
  induction l with
  | nil => simp at h
  | cons t l ih =>
    rcases List.mem_cons.1 h with rfl | h
    · unfold sum; omega
    · have := ih h; unfold sum; omega

set_option maxHeartbeats 1000000 in
theorem few_any (A : Option Addr) (cap : Nat) (l : List ByteArray) (w : World) (hr : Rd w w.heap.size A (l.map sv)) (hc : l.length ≤ cap) (hm : cap ≤ maxLen) (hs : l.length + sum l ≤ 9000000000000000000) :
    Calls Try.prog 11 #[.slice A l.length cap] w (Tells (decide (l.length + sum l ≤ 2000)) w) := by
  unfold maxLen at hm
  have Hr := Lib.hid hr
  clear hr
  go_enter Try.func11, Try.ntmps11
  go_wp2_with fail
  go_loopw [3, 10] (fun s i wr => ∃ k : Nat, k ≤ l.length ∧ i = .int .i64 k ∧ s = .int .i64 ((l.length : Int) + sum (l.take k)) ∧ Below w.heap.size w wr) (fun _ i _ => l.length - (intOf i).toNat)
  case atStart => exact ⟨0, Nat.zero_le _, rfl, by simp [sum], Below.refl _ _⟩
  case round =>
    obtain ⟨k, hk, rfl, rfl, hbel⟩ := hrel
    by_cases hlt : k < l.length
    · obtain ⟨b, off, rfl, hb, hcell⟩ := Hr.out (by simp; omega)
      have hc1 : wr.cell? ⟨b, off + k, none⟩ = some (.string l[k]) := (hbel.cell hb).trans (hcell k (sv l[k]) (by simp [hlt]))
      have hst := sum_take l k hlt
      have hsp := sum_part l (k + 1)
      obtain ⟨x, hx⟩ : ∃ x, x = l[k] := ⟨_, rfl⟩
      rw [← hx] at hc1 hst
      have i0 : (0 : Int) ≤ k := by omega
      have i1 : (k : Int) < l.length := by omega
      have Hx := Lib.hid hx
      have Hst := Lib.hid hst
      rw [hst] at hsp
      clear hcell hx hst
      go_wp2_with fail
      go_roundw
      case rel => exact ⟨k + 1, by omega, by go_num, by rw [Hst.out]; congr 1; omega, hbel⟩
      case measure => simp [intOf]; omega
    · obtain rfl : k = l.length := by omega
      rw [List.take_length] at *
      go_wp2_with fail
      go_ret
      refine ⟨?_, hbel⟩
      congr 2
      by_cases h : l.length + sum l ≤ 2000
      · simp [h]; omega
      · simp [h]; omega
end Go.Proofs.Ytacgekhphhhmpaa
