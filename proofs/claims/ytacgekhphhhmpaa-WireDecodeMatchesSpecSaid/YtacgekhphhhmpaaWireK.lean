/- The contracts of the reference's Same, SameInts, SameTexts. -/
import Derived.Test.YtacgekhphhhmpaaWireJ
import Derived.Deep.QuietTactic
import Derived.BigQuiet
namespace Go.Proofs.Ytacgekhphhhmpaa
open Go.RowKit
set_option linter.unusedVariables false

theorem below_drewN {B : Nat} {a w : World} (h : Below B a w) (n : Nat) : Below B a (w.drewN n) := ⟨h.os, h.tape, h.output, h.size, h.block⟩
/-- It says b, and nothing that was there has changed. -/
def Tells (b : Bool) (w : World) (e : Ending) (w' : World) : Prop := e = .returned (.bool b) ∧ Below w.heap.size w w'

set_option maxHeartbeats 1000000 in
theorem same_any (A A' : Option Addr) (c c' : Nat) (l l' : List UInt8) (w : World) (hr : RdB w w.heap.size A l) (hr' : RdB w w.heap.size A' l') (hm : l.length ≤ maxLen) (hm' : l'.length ≤ maxLen) :
    Calls Try.prog 13 #[.slice A l.length c, .slice A' l'.length c'] w (Tells (decide (l = l')) w) := by
  unfold maxLen at hm hm'
  by_cases hl : l.length = l'.length
  · have hne : ((l.length : Int) != (l'.length : Int)) = false := by rw [hl]; simp
    have Hl := Lib.hid hl
    have Hr := Lib.hid hr
    have Hr' := Lib.hid hr'
    clear hl hr hr'
    go_enter Try.func13, Try.ntmps13
    go_wp2_with fail
    go_loopw [5] (fun i wr => ∃ k : Nat, k ≤ l.length ∧ i = .int .i64 k ∧ l.take k = l'.take k ∧ Below w.heap.size w wr) (fun i _ => l.length - (intOf i).toNat)
    case atStart => exact ⟨0, Nat.zero_le _, rfl, by simp, Below.refl _ _⟩
    case round =>
      obtain ⟨k, hk, rfl, ht, hbel⟩ := hrel
      have Ht := Lib.hid ht
      clear ht
      by_cases hlt : k < l.length
      · have hlt' : k < l'.length := by have := Hl.out; omega
        obtain ⟨b, off, rfl, hb, hcell⟩ := Hr.out (by simp; omega)
        obtain ⟨b', off', rfl, hb', hcell'⟩ := Hr'.out (by simp; omega)
        have hc1 : wr.cell? ⟨b, off + k, none⟩ = some (.int .u8 ((l[k]).toNat : Int)) := (hbel.cell hb).trans (hcell k (bv l[k]) (by simp [hlt]))
        have hc2 : wr.cell? ⟨b', off' + k, none⟩ = some (.int .u8 ((l'[k]).toNat : Int)) := (hbel.cell hb').trans (hcell' k (bv l'[k]) (by simp [hlt']))
        obtain ⟨x, hx⟩ : ∃ x, x = l[k] := ⟨_, rfl⟩
        obtain ⟨y, hy⟩ : ∃ y, y = l'[k] := ⟨_, rfl⟩
        rw [← hx] at hc1
        rw [← hy] at hc2
        have i0 : (0 : Int) ≤ k := by omega
        have i1 : (k : Int) < l.length := by omega
        have i2 : (k : Int) < l'.length := by omega
        have Hx := Lib.hid hx
        have Hy := Lib.hid hy
        clear hcell hcell' hx hy
        by_cases hxy : x = y
        · have hn : ((x.toNat : Int) != (y.toNat : Int)) = false := by rw [hxy]; simp
          have Hxy := Lib.hid hxy
          clear hxy
          go_wp2_with fail
          go_quiet (fail)
          go_wp2_with fail
          go_roundw
          case rel => exact ⟨k + 1, by omega, by go_num, by rw [List.take_succ_eq_append_getElem hlt, List.take_succ_eq_append_getElem hlt', Ht.out, ← Hx.out, ← Hy.out, Hxy.out], below_drewN hbel _⟩
          case measure => simp [intOf]; omega
        · have hn : ((x.toNat : Int) != (y.toNat : Int)) = true := by
            simp
            intro h
            exact hxy (UInt8.toNat_inj.1 (by omega))
          have hd : decide (l = l') = false := by
            simp
            intro h
            apply hxy
            rw [Hx.out, Hy.out]
            subst h
            rfl
          have Hd := Lib.hid hd
          clear hxy hd
          go_wp2_with fail
          go_quiet (fail)
          go_wp2_with fail
          go_ret
          exact ⟨by first | (rw [Hd.out]; done) | (rw [Hd.out]; rfl), below_drewN hbel _⟩
      · obtain rfl : k = l.length := by omega
        have hd : decide (l = l') = true := by
          have := Ht.out
          rw [List.take_length, Hl.out, List.take_length] at this
          simp [this]
        have Hd := Lib.hid hd
        clear hd
        go_wp2_with fail
        go_ret
        exact ⟨by first | (rw [Hd.out]; done) | (rw [Hd.out]; rfl), hbel⟩
  · have hne : ((l.length : Int) != (l'.length : Int)) = true := by simp; omega
    have hd : decide (l = l') = false := by
      simp
      intro h
      exact hl (by rw [h])
    have Hd := Lib.hid hd
    clear hd hl
    go_enter Try.func13, Try.ntmps13
    go_wp2_with fail
    go_ret
    exact ⟨by first | (rw [Hd.out]; done) | (rw [Hd.out]; rfl), Below.refl _ _⟩
set_option maxHeartbeats 1000000 in
theorem sameInts_any (A A' : Option Addr) (c c' : Nat) (l l' : List Int) (w : World) (hr : Rd w w.heap.size A (l.map iv)) (hr' : Rd w w.heap.size A' (l'.map iv)) (hm : l.length ≤ maxLen) (hm' : l'.length ≤ maxLen) :
    Calls Try.prog 30 #[.slice A l.length c, .slice A' l'.length c'] w (Tells (decide (l = l')) w) := by
  unfold maxLen at hm hm'
  by_cases hl : l.length = l'.length
  · have hne : ((l.length : Int) != (l'.length : Int)) = false := by rw [hl]; simp
    have Hl := Lib.hid hl
    have Hr := Lib.hid hr
    have Hr' := Lib.hid hr'
    clear hl hr hr'
    go_enter Try.func30, Try.ntmps30
    go_wp2_with fail
    go_loopw [5] (fun i wr => ∃ k : Nat, k ≤ l.length ∧ i = .int .i64 k ∧ l.take k = l'.take k ∧ Below w.heap.size w wr) (fun i _ => l.length - (intOf i).toNat)
    case atStart => exact ⟨0, Nat.zero_le _, rfl, by simp, Below.refl _ _⟩
    case round =>
      obtain ⟨k, hk, rfl, ht, hbel⟩ := hrel
      have Ht := Lib.hid ht
      clear ht
      by_cases hlt : k < l.length
      · have hlt' : k < l'.length := by have := Hl.out; omega
        obtain ⟨b, off, rfl, hb, hcell⟩ := Hr.out (by simp; omega)
        obtain ⟨b', off', rfl, hb', hcell'⟩ := Hr'.out (by simp; omega)
        have hc1 : wr.cell? ⟨b, off + k, none⟩ = some (.int .i64 l[k]) := (hbel.cell hb).trans (hcell k (iv l[k]) (by simp [hlt]))
        have hc2 : wr.cell? ⟨b', off' + k, none⟩ = some (.int .i64 l'[k]) := (hbel.cell hb').trans (hcell' k (iv l'[k]) (by simp [hlt']))
        obtain ⟨x, hx⟩ : ∃ x, x = l[k] := ⟨_, rfl⟩
        obtain ⟨y, hy⟩ : ∃ y, y = l'[k] := ⟨_, rfl⟩
        rw [← hx] at hc1
        rw [← hy] at hc2
        have i0 : (0 : Int) ≤ k := by omega
        have i1 : (k : Int) < l.length := by omega
        have i2 : (k : Int) < l'.length := by omega
        have Hx := Lib.hid hx
        have Hy := Lib.hid hy
        clear hcell hcell' hx hy
        by_cases hxy : x = y
        · have hn : (x != y) = false := by rw [hxy]; simp
          have Hxy := Lib.hid hxy
          clear hxy
          go_wp2_with fail
          go_quiet (fail)
          go_wp2_with fail
          go_roundw
          case rel => exact ⟨k + 1, by omega, by go_num, by rw [List.take_succ_eq_append_getElem hlt, List.take_succ_eq_append_getElem hlt', Ht.out, ← Hx.out, ← Hy.out, Hxy.out], below_drewN hbel _⟩
          case measure => simp [intOf]; omega
        · have hn : (x != y) = true := by simpa using hxy
          have hd : decide (l = l') = false := by
            simp
            intro h
            apply hxy
            rw [Hx.out, Hy.out]
            subst h
            rfl
          have Hd := Lib.hid hd
          clear hxy hd
          go_wp2_with fail
          go_quiet (fail)
          go_wp2_with fail
          go_ret
          exact ⟨by first | (rw [Hd.out]; done) | (rw [Hd.out]; rfl), below_drewN hbel _⟩
      · obtain rfl : k = l.length := by omega
        have hd : decide (l = l') = true := by
          have := Ht.out
          rw [List.take_length, Hl.out, List.take_length] at this
          simp [this]
        have Hd := Lib.hid hd
        clear hd
        go_wp2_with fail
        go_ret
        exact ⟨by first | (rw [Hd.out]; done) | (rw [Hd.out]; rfl), hbel⟩
  · have hne : ((l.length : Int) != (l'.length : Int)) = true := by simp; omega
    have hd : decide (l = l') = false := by
      simp
      intro h
      exact hl (by rw [h])
    have Hd := Lib.hid hd
    clear hd hl
    go_enter Try.func30, Try.ntmps30
    go_wp2_with fail
    go_ret
    exact ⟨by first | (rw [Hd.out]; done) | (rw [Hd.out]; rfl), Below.refl _ _⟩

theorem bytes_inj {x y : ByteArray} (h : x.toList = y.toList) : x = y := by
  rw [Lib.toList_data, Lib.toList_data] at h
  cases x; cases y
  simpa using h

set_option maxHeartbeats 1000000 in
theorem sameTexts_any (A A' : Option Addr) (c c' : Nat) (l l' : List ByteArray) (w : World) (hr : Rd w w.heap.size A (l.map sv)) (hr' : Rd w w.heap.size A' (l'.map sv)) (hm : l.length ≤ maxLen) (hm' : l'.length ≤ maxLen) :
    Calls Try.prog 33 #[.slice A l.length c, .slice A' l'.length c'] w (Tells (decide (l = l')) w) := by
  unfold maxLen at hm hm'
  by_cases hl : l.length = l'.length
  · have hne : ((l.length : Int) != (l'.length : Int)) = false := by rw [hl]; simp
    have Hl := Lib.hid hl
    have Hr := Lib.hid hr
    have Hr' := Lib.hid hr'
    clear hl hr hr'
    go_enter Try.func33, Try.ntmps33
    go_wp2_with fail
    go_loopw [5] (fun i wr => ∃ k : Nat, k ≤ l.length ∧ i = .int .i64 k ∧ l.take k = l'.take k ∧ Below w.heap.size w wr) (fun i _ => l.length - (intOf i).toNat)
    case atStart => exact ⟨0, Nat.zero_le _, rfl, by simp, Below.refl _ _⟩
    case round =>
      obtain ⟨k, hk, rfl, ht, hbel⟩ := hrel
      have Ht := Lib.hid ht
      clear ht
      by_cases hlt : k < l.length
      · have hlt' : k < l'.length := by have := Hl.out; omega
        obtain ⟨b, off, rfl, hb, hcell⟩ := Hr.out (by simp; omega)
        obtain ⟨b', off', rfl, hb', hcell'⟩ := Hr'.out (by simp; omega)
        have hc1 : wr.cell? ⟨b, off + k, none⟩ = some (.string l[k]) := (hbel.cell hb).trans (hcell k (sv l[k]) (by simp [hlt]))
        have hc2 : wr.cell? ⟨b', off' + k, none⟩ = some (.string l'[k]) := (hbel.cell hb').trans (hcell' k (sv l'[k]) (by simp [hlt']))
        obtain ⟨x, hx⟩ : ∃ x, x = l[k] := ⟨_, rfl⟩
        obtain ⟨y, hy⟩ : ∃ y, y = l'[k] := ⟨_, rfl⟩
        rw [← hx] at hc1
        rw [← hy] at hc2
        have i0 : (0 : Int) ≤ k := by omega
        have i1 : (k : Int) < l.length := by omega
        have i2 : (k : Int) < l'.length := by omega
        have Hx := Lib.hid hx
        have Hy := Lib.hid hy
        clear hcell hcell' hx hy
        by_cases hxy : x = y
        · have hn : (x.toList == y.toList) = true := by rw [hxy]; simp
          have Hxy := Lib.hid hxy
          clear hxy
          go_wp2_with fail
          go_quiet (fail)
          go_wp2_with fail
          go_roundw
          case rel => exact ⟨k + 1, by omega, by go_num, by rw [List.take_succ_eq_append_getElem hlt, List.take_succ_eq_append_getElem hlt', Ht.out, ← Hx.out, ← Hy.out, Hxy.out], below_drewN hbel _⟩
          case measure => simp [intOf]; omega
        · have hn : (x.toList == y.toList) = false := by
            rw [beq_eq_false_iff_ne]
            exact fun h => hxy (bytes_inj h)
          have hd : decide (l = l') = false := by
            simp
            intro h
            apply hxy
            rw [Hx.out, Hy.out]
            subst h
            rfl
          have Hd := Lib.hid hd
          clear hxy hd
          go_wp2_with fail
          go_quiet (fail)
          go_wp2_with fail
          go_ret
          exact ⟨by first | (rw [Hd.out]; done) | (rw [Hd.out]; rfl), below_drewN hbel _⟩
      · obtain rfl : k = l.length := by omega
        have hd : decide (l = l') = true := by
          have := Ht.out
          rw [List.take_length, Hl.out, List.take_length] at this
          simp [this]
        have Hd := Lib.hid hd
        clear hd
        go_wp2_with fail
        go_ret
        exact ⟨by first | (rw [Hd.out]; done) | (rw [Hd.out]; rfl), hbel⟩
  · have hne : ((l.length : Int) != (l'.length : Int)) = true := by simp; omega
    have hd : decide (l = l') = false := by
      simp
      intro h
      exact hl (by rw [h])
    have Hd := Lib.hid hd
    clear hd hl
    go_enter Try.func33, Try.ntmps33
    go_wp2_with fail
    go_ret
    exact ⟨by first | (rw [Hd.out]; done) | (rw [Hd.out]; rfl), Below.refl _ _⟩
end Go.Proofs.Ytacgekhphhhmpaa
