/- The contracts of yearOf's closure, of sort.Search over it, of yearOf. -/
import Derived.Test.YtkenfgifhebnpaaDoorCalPb
namespace Go.Proofs.YtkenfgifhebnpaaDoor
open Go.RowKit
set_option linter.unusedVariables false
set_option maxRecDepth 100000

set_option maxHeartbeats 1000000 in
theorem yearOf1_any (i : Nat) (day : Int) (b : Nat) (w : World) (hi : i < 799) (hc : w.cell? ⟨b, 0, none⟩ = some (.int .i64 day)) :
    Calls Tryd.prog 58 #[.int .i64 i, .pointer (some ⟨b, 0, none⟩)] w fun e w' => e = .returned (.bool (decide (day < -146097 + (Cal.yb (1600 + i + 1) : Int)))) ∧ Below w.heap.size w w' := by
  have c := fun W => yearBegin_any (1600 + i + 1) W (by omega) (by omega)
  obtain ⟨Y, hY⟩ : ∃ Y : Int, Y = -146097 + (Cal.yb (1600 + i + 1) : Int) := ⟨_, rfl⟩
  simp only [← hY] at c ⊢
  have hb : b < w.heap.size := block_lt_of_cell hc
  have cQ : ∀ q : BelT w.heap.size w, q.at.cell? ⟨b, 0, none⟩ = some (.int .i64 day) := fun q => (q.out.cell (p := ⟨b, 0, none⟩) hb).trans hc
  have CQ := Lib.hid cQ
  have e2 : ((1600 + i + 1 : Nat) : Int) = 1600 + (i : Int) + 1 := by omega
  rw [e2] at c
  have hi1 : (i : Int) < 799 := by omega
  have C := Lib.hid c
  clear hY c hc hb e2 hi
  go_enter Tryd.func58, Tryd.ntmps58
  go_wp2_with fail
  refine wp_region_below w.heap.size (by kernel_rfl) (by kernel_rfl) ?_
  repeat (go_big_quiet_step (exact (C.out _).mono fun e w' h => ⟨h.1, BelT.of ((BelT.out _).trans (h.2.mono (BelT.out _).size))⟩))
  refine wpQuiet_nil ?_
  intro w' hw'
  obtain ⟨q, rfl⟩ := hw'
  have B4 := Lib.hid q.out
  clear cQ CQ C
  go_wp2_with fail
  go_ret
  exact ⟨rfl, B4.out⟩

set_option maxHeartbeats 2000000 in
theorem search_any (K : Nat) (day : Int) (b : Nat) (w : World) (hK : K < 800) (h1 : -146097 + (Cal.yb (1600 + K) : Int) ≤ day) (h2 : day < -146097 + (Cal.yb (1600 + K + 1) : Int)) (hc : w.cell? ⟨b, 0, none⟩ = some (.int .i64 day)) :
    Calls Tryd.prog 57 #[.int .i64 799, .func (.func 58) #[] #[.pointer (some ⟨b, 0, none⟩)]] w fun e w' => e = .returned (.int .i64 K) ∧ Below w.heap.size w w' := by
  have hb : b < w.heap.size := block_lt_of_cell hc
  have cF : ∀ (i : Nat) (W : World), i < 799 → Below w.heap.size w W → Calls Tryd.prog 58 #[.int .i64 i, .pointer (some ⟨b, 0, none⟩)] W fun e w' => e = .returned (.bool (decide (K ≤ i))) ∧ Below W.heap.size W w' := by
    intro i W hi hW
    have c := yearOf1_any i day b W hi ((hW.cell (p := ⟨b, 0, none⟩) hb).trans hc)
    have e : decide (day < -146097 + (Cal.yb (1600 + i + 1) : Int)) = decide (K ≤ i) := by
      rw [decide_eq_decide]
      constructor
      · intro h
        apply Decidable.byContradiction
        intro hn
        have := Cal.yb_mono (i := 1600 + i + 1) (j := 1600 + K) (by omega)
        omega
      · intro h
        have := Cal.yb_mono (i := 1600 + K + 1) (j := 1600 + i + 1) (by omega)
        omega
    rw [e] at c
    exact c
  have CF := Lib.hid cF
  clear cF h1 h2 hc hb
  go_enter Tryd.func57, Tryd.ntmps57
  go_wp2_with fail
  go_loopw [5, 6, 7] (fun i j h wr => ∃ x y : Nat, x ≤ K ∧ K ≤ y ∧ y ≤ 799 ∧ i = .int .i64 x ∧ j = .int .i64 y ∧ Below w.heap.size w wr) (fun i j _ _ => (intOf j).toNat - (intOf i).toNat)
  case atStart => exact ⟨0, 799, by omega, by omega, by omega, rfl, rfl, Below.refl _ _⟩
  case round =>
    obtain ⟨x, y, hx, hy, hy2, rfl, rfl, hb⟩ := hrel
    obtain ⟨wo, rfl⟩ : ∃ wo : World, wo = wr := ⟨_, rfl⟩
    by_cases hlt : x < y
    · have HB := Lib.hid hb
      have HX := Lib.hid (And.intro hx (And.intro hy (And.intro hy2 hlt)))
      have hli : (x : Int) < y := by omega
      have hx1 : (x : Int) ≤ 799 := by omega
      have hy1 : (y : Int) ≤ 799 := by omega
      clear hb hx hy hy2
      go_wp2_with fail
      obtain ⟨m, hm⟩ : ∃ m : Nat, m = (x + y) / 2 := ⟨_, rfl⟩
      rw [show ((x : Int) + y) / 2 = (m : Int) by omega]
      have hmI : (m : Int) < 799 := by omega
      have hm0 : (0 : Int) ≤ m := by omega
      have HM := Lib.hid (show x ≤ m ∧ m < y by omega)
      clear hm
      have c := CF.out m wo (by omega) HB.out
      by_cases hkm : K ≤ m
      · rw [decide_eq_true hkm] at c
        refine c.mono ?_
        rintro e w2 ⟨rfl, hb2⟩
        have HB2 := Lib.hid (HB.out.trans (hb2.mono HB.out.size))
        have HK := Lib.hid hkm
        clear c hb2 hkm
        go_wp2_with fail
        exact ⟨⟨x, m, HX.out.1, HK.out, by omega, rfl, rfl, HB2.out⟩, by have := HM.out; simp [intOf]; omega⟩
      · rw [decide_eq_false hkm] at c
        refine c.mono ?_
        rintro e w2 ⟨rfl, hb2⟩
        have HB2 := Lib.hid (HB.out.trans (hb2.mono HB.out.size))
        have HK := Lib.hid hkm
        clear c hb2 hkm
        go_wp2_with fail
        exact ⟨⟨m + 1, y, by have := HK.out; omega, HX.out.2.1, HX.out.2.2.1, by go_num, rfl, HB2.out⟩, by have := HM.out; simp [intOf]; omega⟩
    · obtain rfl : x = K := by omega
      obtain rfl : y = x := by omega
      have HB := Lib.hid hb
      have hli : ¬ (y : Int) < y := by omega
      clear hb hx hy hy2
      go_wp2_with fail
      go_ret
      exact ⟨rfl, HB.out⟩

set_option maxHeartbeats 2000000 in
theorem yearOf_any (n : Int) (w : World) (h : Cal.known n) :
    Calls Tryd.prog 37 #[.int .i64 n] w fun e w' => e = .returned (.int .i64 (Cal.cy n)) ∧ Below w.heap.size w w' := by
  have hc := Cal.civ_spec (t := (n + 146097).toNat) (by unfold Cal.known at h; omega)
  have hy := hc.year
  have hk := hc.kl
  have e : Cal.cy n = 1600 + (Cal.cK (n + 146097).toNat : Int) := if_pos h
  rw [e]
  obtain ⟨K, hK⟩ : ∃ K, K = Cal.cK (n + 146097).toNat := ⟨_, rfl⟩
  rw [← hK] at hy hk ⊢
  have c := fun W (hc : W.cell? ⟨w.heap.size, 0, none⟩ = some (.int .i64 n)) => search_any K n w.heap.size W hk (by rw [Cal.yb_of]; unfold Cal.known at h; omega) (by rw [Nat.add_assoc, Cal.yb_of]; unfold Cal.known at h; omega) hc
  have hk1 : (K : Int) < 800 := by omega
  have C := Lib.hid c
  have hmf : ∀ (fn : Fn) (first cap : Array Value) (w : World), (Instr.makeFunc fn first cap).run Tryd.prog w = .ok (.func fn first cap) w := fun _ _ _ _ => rfl
  clear hK hy c e hc h hk
  go_enter Tryd.func37, Tryd.ntmps37
  go_wp2_with fail
  refine (C.out _ ((Blk.new w [.int .i64 n] 3).cell 0 _ rfl)).mono ?_
  rintro e w2 ⟨rfl, hb2⟩
  have HB := Lib.hid (((Below.refl w.heap.size w).alloc (Nat.le_refl _) _).trans (hb2.mono (by simp)))
  clear hb2 C
  go_wp2_with fail
  go_ret
  exact ⟨rfl, HB.out⟩
end Go.Proofs.YtkenfgifhebnpaaDoor
