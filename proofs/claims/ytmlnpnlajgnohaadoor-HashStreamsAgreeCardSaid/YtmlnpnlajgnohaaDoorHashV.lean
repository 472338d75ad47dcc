/- The contracts of the reference's Few, Joined and Input. -/
import Derived.Test.YtmlnpnlajgnohaaDoorHashS
import Derived.Test.YtmlnpnlajgnohaaDoorWireRd0
namespace Go.Proofs.YtmlnpnlajgnohaaDoor
open Go.RowKit
set_option linter.unusedVariables false

def fewB (l : List ByteArray) : Bool := decide (l.length ≤ 12) && l.all fun s => decide (s.size ≤ 400)
theorem fewB_iff (l : List ByteArray) : fewB l = true ↔ l.length ≤ 12 ∧ ∀ s ∈ l, s.size ≤ 400 := by simp [fewB]
theorem flat_take_succ {α β : Type} (f : α → List β) (l : List α) (k : Nat) (h : k < l.length) : (l.take (k + 1)).flatMap f = (l.take k).flatMap f ++ f l[k] := by
  rw [List.take_add_one, List.getElem?_eq_getElem h]
  simp only [Option.toList_some, List.flatMap_append, List.flatMap_cons, List.flatMap_nil, List.append_nil]

set_option maxHeartbeats 1000000 in
theorem few_any (A : Option Addr) (cap : Nat) (l : List ByteArray) (w : World) (hr : Rd w w.heap.size A (l.map sv)) (hm : l.length ≤ maxLen) :
    Calls Tryd.prog 13 #[.slice A l.length cap] w (Tells (fewB l) w) := by
  have Hr := Lib.hid hr
  clear hr
  by_cases h12 : 12 < l.length
  · have hd : decide ((12 : Int) < l.length) = true := by simp; omega
    have hd' : (12 : Int) < l.length := by omega
    have hf : fewB l = false := by
      rw [Bool.eq_false_iff]
      intro h
      have := ((fewB_iff l).1 h).1
      omega
    have Hf := Lib.hid hf
    clear hf h12
    go_enter Tryd.func13, Tryd.ntmps13
    go_wp2_with fail
    go_ret
    exact ⟨by rw [Hf.out]; rfl, Below.refl _ _⟩
  have hd : decide ((12 : Int) < l.length) = false := by simp; omega
  have hd' : (l.length : Int) ≤ 12 := by omega
  go_enter Tryd.func13, Tryd.ntmps13
  go_wp2_with fail
  go_loopw [3] (fun i wr => ∃ k : Nat, k ≤ l.length ∧ i = .int .i64 k ∧ (∀ s ∈ l.take k, s.size ≤ 400) ∧ Below w.heap.size w wr) (fun i _ => l.length - (intOf i).toNat)
  case atStart => exact ⟨0, Nat.zero_le _, rfl, by simp, Below.refl _ _⟩
  case round =>
    obtain ⟨k, hk, rfl, hall, hbel⟩ := hrel
    have Hall := Lib.hid hall
    clear hall
    by_cases hlt : k < l.length
    · obtain ⟨b, off, rfl, hb, hcell⟩ := Hr.out (by simp; omega)
      have hc1 : wr.cell? ⟨b, off + k, none⟩ = some (.string l[k]) := (hbel.cell hb).trans (hcell k (sv l[k]) (by simp [hlt]))
      obtain ⟨x, hx⟩ : ∃ x, x = l[k] := ⟨_, rfl⟩
      rw [← hx] at hc1
      have Hx := Lib.hid hx
      have i0 : (0 : Int) ≤ k := by omega
      have i1 : (k : Int) < l.length := by omega
      by_cases hs : 400 < x.size
      · have hd2 : decide ((400 : Int) < x.size) = true := by simp; omega
        have hd2' : (400 : Int) < x.size := by omega
        have hf : fewB l = false := by
          rw [Bool.eq_false_iff]
          intro h
          have := ((fewB_iff l).1 h).2 x (by rw [Hx.out]; exact List.getElem_mem _)
          omega
        have Hf := Lib.hid hf
        clear hcell hx hf hs
        go_wp2_with fail
        go_ret
        exact ⟨by rw [Hf.out]; rfl, hbel⟩
      · have hd2 : decide ((400 : Int) < x.size) = false := by simp; omega
        have hd2' : (x.size : Int) ≤ 400 := by omega
        have hs' : x.size ≤ 400 := by omega
        have Hs := Lib.hid hs'
        clear hcell hx hs hs'
        go_wp2_with fail
        go_roundw
        case rel =>
          refine ⟨k + 1, by omega, by go_num, fun s hm => ?_, hbel⟩
          rw [List.take_add_one, List.getElem?_eq_getElem hlt] at hm
          rcases List.mem_append.1 hm with h | h
          · exact Hall.out s h
          · have : s = x := by rw [Hx.out]; simpa using h
            rw [this]; exact Hs.out
        case measure => simp [intOf]; omega
    · obtain rfl : k = l.length := by omega
      have hf : fewB l = true := (fewB_iff l).2 ⟨by omega, fun s hs => Hall.out s (by rw [List.take_length]; exact hs)⟩
      have Hf := Lib.hid hf
      clear hf
      go_wp2_with fail
      go_ret
      exact ⟨by rw [Hf.out]; rfl, hbel⟩

def joinB (l : List ByteArray) : List UInt8 := l.flatMap sb
theorem joinB_len (l : List ByteArray) (h : ∀ s ∈ l, s.size ≤ 400) : (joinB l).length ≤ 400 * l.length := by
  induction l with
  | nil => simp [joinB]
  | cons s l ih =>
    have h1 := h s (by simp)
    have h2 := ih fun t ht => h t (by simp [ht])
    unfold joinB at *
    rw [List.flatMap_cons, List.length_append, sb_len, List.length_cons]
    omega
set_option maxHeartbeats 1000000 in
theorem joined_any (A : Option Addr) (cap : Nat) (l : List ByteArray) (w : World) (hr : Rd w w.heap.size A (l.map sv)) (hm : l.length ≤ 12) (hs : ∀ s ∈ l, s.size ≤ 400) :
    Calls Tryd.prog 16 #[.slice A l.length cap] w fun e w' => e = .returned (.string (bs (joinB l))) ∧ Below w.heap.size w w' := by
  have Hr := Lib.hid hr
  have Hs := Lib.hid hs
  clear hr hs
  go_enter Tryd.func16, Tryd.ntmps16
  go_wp2_with fail
  go_loopw [3, 4] (fun s i wr => ∃ (k : Nat) (t : ByteArray), k ≤ l.length ∧ i = .int .i64 k ∧ s = .string t ∧ Hid (t = bs (joinB (l.take k))) ∧ Below w.heap.size w wr) (fun _ i _ => l.length - (intOf i).toNat)
  case atStart => exact ⟨0, _, Nat.zero_le _, rfl, rfl, Lib.hid (by simp [joinB]; rfl), Below.refl _ _⟩
  case round =>
    obtain ⟨k, t, hk, rfl, rfl, Ht, hbel⟩ := hrel
    by_cases hlt : k < l.length
    · obtain ⟨b, off, rfl, hb, hcell⟩ := Hr.out (by simp; omega)
      have hc1 : wr.cell? ⟨b, off + k, none⟩ = some (.string l[k]) := (hbel.cell hb).trans (hcell k (sv l[k]) (by simp [hlt]))
      obtain ⟨x, hx⟩ : ∃ x, x = l[k] := ⟨_, rfl⟩
      rw [← hx] at hc1
      have hnext : t ++ x = bs (joinB (l.take (k + 1))) := by
        rw [Ht.out]
        unfold joinB
        rw [flat_take_succ sb l k hlt, ← hx]
        apply ByteArray.ext
        simp [bs, sb]
      have htl : t.size ≤ 4800 := by
        rw [Ht.out, bbytes_size]
        have := joinB_len (l.take k) (fun s h => Hs.out s (List.mem_of_mem_take h))
        have h2 : (l.take k).length ≤ 12 := by rw [List.length_take]; omega
        omega
      have hxl : x.size ≤ 400 := Hs.out x (by rw [hx]; exact List.getElem_mem _)
      have ht1 : (t.size : Int) ≤ 4800 := by omega
      have hx1 : (x.size : Int) ≤ 400 := by omega
      have Hn := Lib.hid hnext
      have i0 : (0 : Int) ≤ k := by omega
      have i1 : (k : Int) < l.length := by omega
      clear hcell hx hnext
      go_wp2_with fail
      exact ⟨⟨k + 1, _, by omega, by go_num, rfl, Hn, hbel⟩, by simp [intOf]; omega⟩
    · obtain rfl : k = l.length := by omega
      have ht := Ht.out
      rw [List.take_length] at ht
      have Ht2 := Lib.hid ht
      clear ht Ht
      go_wp2_with fail
      go_ret
      exact ⟨by rw [Ht2.out]; rfl, hbel⟩
end Go.Proofs.YtmlnpnlajgnohaaDoor
