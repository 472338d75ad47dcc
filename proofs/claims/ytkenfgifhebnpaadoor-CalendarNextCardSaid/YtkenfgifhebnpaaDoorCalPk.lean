/- The contracts of slices.Index and slices.Contains at ints, and of Work's closure. -/
import Derived.Test.YtkenfgifhebnpaaDoorCalPa
import Derived.Test.YtkenfgifhebnpaaDoorCalRg
namespace Go.Proofs.YtkenfgifhebnpaaDoor
open Go.RowKit
set_option linter.unusedVariables false
set_option maxRecDepth 100000

/-- An index, or -1. -/
def Found (l : List Int) (d : Int) (w : World) (e : Ending) (w' : World) : Prop := ∃ r : Int, e = .returned (.int .i64 r) ∧ (0 ≤ r ↔ ¬ ∀ x ∈ l, x ≠ d) ∧ w' = w
set_option maxHeartbeats 2000000 in
theorem index_any (d : Int) (A : Option Addr) (cap : Nat) (l : List Int) (w : World) (hr : Rd w w.heap.size A (l.map iv)) (hl : l.length ≤ 1000000000) :
    Calls Tryd.prog 62 #[.slice A l.length cap, .int .i64 d] w (Found l d w) := by
  obtain ⟨N, hN⟩ : ∃ N, N = l.length := ⟨_, rfl⟩
  have HR := Lib.hid hr
  rw [← hN] at hl ⊢
  have HN := Lib.hid hN
  clear hr hN
  go_enter Tryd.func62, Tryd.ntmps62
  go_wp2_with fail
  go_loopw [8] (fun i wr => ∃ j : Nat, j ≤ N ∧ i = .int .i64 (j : Int) ∧ (∀ x ∈ l.take j, x ≠ d) ∧ w = wr) (fun i _ => N - (intOf i).toNat)
  case atStart => exact ⟨0, by omega, rfl, by simp, rfl⟩
  case round =>
    obtain ⟨j, hj, rfl, hd, rfl⟩ := hrel
    by_cases hlt : j < N
    · have hli : (j : Int) < N := by omega
      have hlt2 : j < l.length := by rw [← HN.out]; exact hlt
      obtain ⟨b, off, rfl, hb, hcell⟩ := HR.out (by simp; omega)
      obtain ⟨x, hx⟩ : ∃ x, x = l[j] := ⟨_, rfl⟩
      have hck := hcell j (iv x) (by rw [List.getElem?_map, List.getElem?_eq_getElem hlt2, ← hx]; rfl)
      unfold iv at hck
      have htk : l.take (j + 1) = l.take j ++ [x] := by rw [List.take_add_one, List.getElem?_eq_getElem hlt2, ← hx]; rfl
      have hmem : x ∈ l := by rw [hx]; exact List.getElem_mem hlt2
      have HT := Lib.hid (And.intro htk (And.intro hmem hd))
      clear hb hcell hx htk hmem hd hlt2
      by_cases hxd : x = d
      · subst hxd
        go_wp2_with fail
        go_ret
        exact ⟨_, rfl, ⟨fun _ h => h _ HT.out.2.1 rfl, fun _ => by omega⟩, rfl⟩
      · have hxd2 : ¬ d = x := fun h => hxd h.symm
        have HX := Lib.hid hxd
        clear hxd
        go_wp2_with fail
        refine ⟨⟨j + 1, by omega, by go_num, ?_, by first | rfl | trivial⟩, by simp [intOf]; omega⟩
        rw [HT.out.1]
        intro y hy
        rcases List.mem_append.1 hy with hy | hy
        · exact HT.out.2.2 y hy
        · rw [List.mem_singleton.1 hy]; exact HX.out
    · obtain rfl : j = N := by omega
      have hli : ¬ (j : Int) < j := by omega
      have HD := Lib.hid hd
      clear hd
      go_wp2_with fail
      go_ret
      exact ⟨_, rfl, ⟨fun h => absurd h (by decide), fun h => absurd (fun x hx => HD.out x (by rw [HN.out, List.take_length]; exact hx)) h⟩, rfl⟩
set_option maxHeartbeats 2000000 in
theorem contains_any (d : Int) (A : Option Addr) (cap : Nat) (l : List Int) (w : World) (hr : Rd w w.heap.size A (l.map iv)) (hl : l.length ≤ 1000000000) :
    Calls Tryd.prog 56 #[.slice A l.length cap, .int .i64 d] w fun e w' => e = .returned (.bool (!decide (∀ x ∈ l, x ≠ d))) ∧ w' = w := by
  have c := index_any d A cap l w hr hl
  have C := Lib.hid c
  obtain ⟨N, hN⟩ : ∃ N, N = l.length := ⟨_, rfl⟩
  rw [← hN] at C ⊢
  obtain ⟨z, hz⟩ : ∃ z, z = !decide (∀ x ∈ l, x ≠ d) := ⟨_, rfl⟩
  rw [← hz]
  have HZ := Lib.hid hz
  clear c hr hl hN hz
  go_enter Tryd.func56, Tryd.ntmps56
  go_wp2_with fail
  refine C.out.mono ?_
  rintro e w' ⟨r, rfl, hi, hw'⟩
  obtain rfl := hw'.symm
  have HI := Lib.hid hi
  clear hi C hw'
  go_wp2_with fail
  go_ret
  refine ⟨?_, rfl⟩
  show Ending.returned (.bool (decide (0 ≤ r))) = .returned (.bool z)
  rw [HZ.out]
  by_cases h : 0 ≤ r
  · rw [decide_eq_true h, decide_eq_false (HI.out.1 h)]; rfl
  · rw [decide_eq_false h, decide_eq_true (Decidable.not_not.1 (fun x => h (HI.out.2 x)))]; rfl

set_option maxHeartbeats 2000000 in
theorem work1_any (d : Int) (A : Option Addr) (cap : Nat) (l : List Int) (b : Nat) (w : World) (hr : Rd w w.heap.size A (l.map iv)) (hl : l.length ≤ 1000000000) (hc : w.cell? ⟨b, 0, none⟩ = some (.slice A l.length cap)) :
    Calls Tryd.prog 55 #[.int .i64 d, .pointer (some ⟨b, 0, none⟩)] w fun e w' => e = .returned (.bool (works d l)) ∧ w' = w := by
  have cW := calWeekday_same d w
  have cC := contains_any d A cap l w hr hl
  obtain ⟨r, hr'⟩ : ∃ r, r = works d l := ⟨_, rfl⟩
  rw [← hr']
  unfold works at hr'
  obtain ⟨N, hN⟩ : ∃ N, N = l.length := ⟨_, rfl⟩
  rw [← hN] at cC hc
  obtain ⟨k, hk⟩ : ∃ k, k = Cal.wk d := ⟨_, rfl⟩
  rw [← hk] at cW hr'
  obtain ⟨z, hz⟩ : ∃ z, z = decide (∀ x ∈ l, x ≠ d) := ⟨_, rfl⟩
  rw [← hz] at cC hr'
  have CW := Lib.hid cW
  have CC := Lib.hid cC
  have HR := Lib.hid hr'
  clear hr' cW cC hk hz hN hr hl
  go_enter Tryd.func55, Tryd.ntmps55
  go_wp2_with fail
  refine CW.out.mono ?_
  rintro e w' ⟨rfl, hw'⟩
  obtain rfl := hw'.symm
  by_cases h5 : k < 5
  · have e := HR.out
    rw [decide_eq_true (show k ≤ 4 by omega), Bool.and_true] at e
    subst e
    clear CW hw'
    go_wp2_with fail
    refine CC.out.mono ?_
    rintro e w' ⟨rfl, hw'⟩
    obtain rfl := hw'.symm
    cases r
    · go_wp2_with fail
      go_ret
      exact ⟨rfl, rfl⟩
    · go_wp2_with fail
      go_ret
      exact ⟨rfl, rfl⟩
  · have e := HR.out
    rw [decide_eq_false (show ¬ k ≤ 4 by omega), Bool.and_false] at e
    subst e
    clear CW hw' CC
    go_wp2_with fail
    go_ret
    exact ⟨rfl, rfl⟩
end Go.Proofs.YtkenfgifhebnpaaDoor
