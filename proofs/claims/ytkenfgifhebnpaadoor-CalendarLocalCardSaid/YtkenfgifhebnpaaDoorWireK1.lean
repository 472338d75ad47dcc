/- The contract of the reference's SameInts. -/
import Derived.Test.YtkenfgifhebnpaaDoorBase
import Derived.Deep.QuietTactic
import Derived.BigQuiet
namespace Go.Proofs.YtkenfgifhebnpaaDoor
open Go.RowKit
set_option linter.unusedVariables false

set_option maxHeartbeats 1000000 in
theorem sameInts_any (A A' : Option Addr) (c c' : Nat) (l l' : List Int) (w : World) (hr : Rd w w.heap.size A (l.map iv)) (hr' : Rd w w.heap.size A' (l'.map iv)) (hm : l.length ≤ maxLen) (hm' : l'.length ≤ maxLen) :
    Calls Tryd.prog 31 #[.slice A l.length c, .slice A' l'.length c'] w (Tells (decide (l = l')) w) := by
  unfold maxLen at hm hm'
  by_cases hl : l.length = l'.length
  · have hne : ((l.length : Int) != (l'.length : Int)) = false := by rw [hl]; simp
    have Hl := Lib.hid hl
    have Hr := Lib.hid hr
    have Hr' := Lib.hid hr'
    clear hl hr hr'
    go_enter Tryd.func31, Tryd.ntmps31
    go_wp2_with fail
    go_loopw [5] (fun i wr => ∃ k : Nat, k ≤ l.length ∧ i = .int .i64 k ∧ l.take k = l'.take k ∧ Below w.heap.size w wr) (fun i _ => l.length - (intOf i).toNat)
    case atStart => exact ⟨0, Nat.zero_le _, rfl, by simp, Below.refl _ _⟩
    case round =>
      obtain ⟨k, hk, rfl, ht, hbel⟩ := hrel
      have Ht := Lib.hid ht
      clear ht
      by_cases hlt : k < l.length
      · have hlt' : k < l'.length := by have := Hl.out; omega
        obtain ⟨b, off, rfl, hb, hcell⟩ := Hr.out (by simp; omega)
        obtain ⟨b', off', rfl, hb', hcell'⟩ := Hr'.out (by simp; omega)
        have hc1 : wr.cell? ⟨b, off + k, none⟩ = some (.int .i64 l[k]) := (hbel.cell hb).trans (hcell k (iv l[k]) (by simp [hlt]))
        have hc2 : wr.cell? ⟨b', off' + k, none⟩ = some (.int .i64 l'[k]) := (hbel.cell hb').trans (hcell' k (iv l'[k]) (by simp [hlt']))
        obtain ⟨x, hx⟩ : ∃ x, x = l[k] := ⟨_, rfl⟩
        obtain ⟨y, hy⟩ : ∃ y, y = l'[k] := ⟨_, rfl⟩
        rw [← hx] at hc1
        rw [← hy] at hc2
        have i0 : (0 : Int) ≤ k := by omega
        have i1 : (k : Int) < l.length := by omega
        have i2 : (k : Int) < l'.length := by omega
        have Hx := Lib.hid hx
        have Hy := Lib.hid hy
        clear hcell hcell' hx hy
        by_cases hxy : x = y
        · have hn : (x != y) = false := by rw [hxy]; simp
          have Hxy := Lib.hid hxy
          clear hxy
          go_wp2_with fail
          go_quiet (fail)
          go_wp2_with fail
          go_roundw
          case rel => exact ⟨k + 1, by omega, by go_num, by rw [List.take_succ_eq_append_getElem hlt, List.take_succ_eq_append_getElem hlt', Ht.out, ← Hx.out, ← Hy.out, Hxy.out], below_drewN hbel _⟩
          case measure => simp [intOf]; omega
        · have hn : (x != y) = true := by simpa using hxy
          have hd : decide (l = l') = false := by
            simp
            intro h
            apply hxy
            rw [Hx.out, Hy.out]
            subst h
            rfl
          have Hd := Lib.hid hd
          clear hxy hd
          go_wp2_with fail
          go_quiet (fail)
          go_wp2_with fail
          go_ret
          exact ⟨by first | (rw [Hd.out]; done) | (rw [Hd.out]; rfl), below_drewN hbel _⟩
      · obtain rfl : k = l.length := by omega
        have hd : decide (l = l') = true := by
          have := Ht.out
          rw [List.take_length, Hl.out, List.take_length] at this
          simp [this]
        have Hd := Lib.hid hd
        clear hd
        go_wp2_with fail
        go_ret
        exact ⟨by first | (rw [Hd.out]; done) | (rw [Hd.out]; rfl), hbel⟩
  · have hne : ((l.length : Int) != (l'.length : Int)) = true := by simp; omega
    have hd : decide (l = l') = false := by
      simp
      intro h
      exact hl (by rw [h])
    have Hd := Lib.hid hd
    clear hd hl
    go_enter Tryd.func31, Tryd.ntmps31
    go_wp2_with fail
    go_ret
    exact ⟨by first | (rw [Hd.out]; done) | (rw [Hd.out]; rfl), Below.refl _ _⟩

theorem bytes_inj {x y : ByteArray} (h : x.toList = y.toList) : x = y := by
  rw [Lib.toList_data, Lib.toList_data] at h
  cases x; cases y
  simpa using h
end Go.Proofs.YtkenfgifhebnpaaDoor
