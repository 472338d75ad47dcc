/- The contracts of the reference's Working and Work. -/
import Derived.Test.YtkenfgifhebnpaaDoorCalRc
namespace Go.Proofs.YtkenfgifhebnpaaDoor
open Go.RowKit
set_option linter.unusedVariables false
set_option maxRecDepth 100000

/-- Whether a day is a working day. -/
def works (d : Int) (l : List Int) : Bool := decide (∀ x ∈ l, x ≠ d) && decide (Cal.wk d ≤ 4)

set_option maxHeartbeats 2000000 in
theorem working_any (d : Int) (A : Option Addr) (cap : Nat) (l : List Int) (w : World) (hr : Rd w w.heap.size A (l.map iv)) (hl : l.length ≤ 1000000000) :
    Calls Tryd.prog 35 #[.int .i64 d, .slice A l.length cap] w fun e w' => e = .returned (.bool (works d l)) ∧ w' = w := by
  have cW := fun W => refWeekday_any d W
  obtain ⟨r, hr'⟩ : ∃ r, r = works d l := ⟨_, rfl⟩
  rw [← hr']
  unfold works at hr'
  obtain ⟨N, hN⟩ : ∃ N, N = l.length := ⟨_, rfl⟩
  obtain ⟨k, hk⟩ : ∃ k, k = Cal.wk d := ⟨_, rfl⟩
  rw [← hk] at cW hr'
  have CW := Lib.hid cW
  have HR := Lib.hid (And.intro hr' hr)
  rw [← hN] at hl ⊢
  have HN := Lib.hid hN
  clear hr' hr cW hk hN
  go_enter Tryd.func35, Tryd.ntmps35
  go_wp2_with fail
  go_loopw [5] (fun i wr => ∃ j : Nat, j ≤ N ∧ i = .int .i64 (j : Int) ∧ (∀ x ∈ l.take j, x ≠ d) ∧ w = wr) (fun i _ => N - (intOf i).toNat)
  case atStart => exact ⟨0, by omega, rfl, by simp, rfl⟩
  case round =>
    obtain ⟨j, hj, rfl, hd, rfl⟩ := hrel
    by_cases hlt : j < N
    · have hli : (j : Int) < N := by omega
      have hlt2 : j < l.length := by rw [← HN.out]; exact hlt
      obtain ⟨b, off, rfl, hb, hcell⟩ := HR.out.2 (by simp; omega)
      obtain ⟨x, hx⟩ : ∃ x, x = l[j] := ⟨_, rfl⟩
      have hck := hcell j (iv x) (by rw [List.getElem?_map, List.getElem?_eq_getElem hlt2, ← hx]; rfl)
      unfold iv at hck
      have htk : l.take (j + 1) = l.take j ++ [x] := by rw [List.take_add_one, List.getElem?_eq_getElem hlt2, ← hx]; rfl
      have hmem : x ∈ l := by rw [hx]; exact List.getElem_mem hlt2
      have HD := Lib.hid (And.intro hd (And.intro htk hmem))
      clear hd htk hmem hx hcell hb
      by_cases he : x = d
      · have hf : r = false := by
          rw [HR.out.1]
          have : ¬ ∀ y ∈ l, y ≠ d := fun h => h x HD.out.2.2 he
          rw [decide_eq_false this]; rfl
        clear HR
        subst he hf
        go_wp2_with fail
        go_ret
        exact ⟨rfl, rfl⟩
      · go_wp2_with fail
        refine ⟨⟨j + 1, by omega, by go_num, ?_, by first | rfl | trivial⟩, by simp [intOf]; omega⟩
        rw [HD.out.2.1]
        intro y hy
        rcases List.mem_append.1 hy with h | h
        · exact HD.out.1 y h
        · rw [List.mem_singleton.1 h]; exact he
    · obtain rfl : j = N := by omega
      have hall : ∀ x ∈ l, x ≠ d := by
        rw [HN.out, List.take_length] at hd
        exact hd
      have hf : r = decide (k ≤ 4) := by rw [HR.out.1, decide_eq_true hall]; rfl
      clear HR hd hall hj
      subst hf
      go_wp2_with fail
      refine (CW.out _).mono ?_
      rintro e w' ⟨rfl, hw'⟩
      obtain rfl := hw'.symm
      go_wp2_with fail
      go_ret
      exact ⟨rfl, rfl⟩

/-- Working days, counted one after the other: at most f days, in steps of s; n are left. -/
def worked (l : List Int) (s : Int) : Nat → Int → Nat → Int × Int
  | 0, _, _ => (0, 5)
  | f + 1, d, n => if n = 0 then (d, 0) else if Cal.known (d + s) then worked l s f (d + s) (if works (d + s) l = true then n - 1 else n) else (0, 5)
theorem worked_end (l : List Int) (s : Int) (f : Nat) (d : Int) : worked l s (f + 1) d 0 = (d, 0) := if_pos rfl
theorem worked_out (l : List Int) (s : Int) (f : Nat) (d : Int) (n : Nat) (hn : n ≠ 0) (h : ¬ Cal.known (d + s)) : worked l s (f + 1) d n = (0, 5) := by
  unfold worked; rw [if_neg hn, if_neg h]
theorem worked_next (l : List Int) (s : Int) (f : Nat) (d : Int) (n : Nat) (hn : n ≠ 0) (h : Cal.known (d + s)) : worked l s (f + 1) d n = worked l s f (d + s) (if works (d + s) l = true then n - 1 else n) := by
  conv => lhs; unfold worked
  rw [if_neg hn, if_pos h]
/-- What Work answers. -/
def workR (d n : Int) (l : List Int) : Int × Int :=
  if n < -1000 ∨ n > 1000 ∨ l.length > 400 then (0, 4) else if Cal.known d then worked l (if 0 < n then 1 else -1) 292195 d n.natAbs else (0, 5)
end Go.Proofs.YtkenfgifhebnpaaDoor
