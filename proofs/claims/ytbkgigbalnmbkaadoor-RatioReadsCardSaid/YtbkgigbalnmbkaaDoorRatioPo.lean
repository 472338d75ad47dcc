/- The contracts of dioramaref01.At and dioramaref04.Some. -/
import Derived.Test.YtbkgigbalnmbkaaDoorRatioPn
import Derived.Test.YtbkgigbalnmbkaaDoorRatioPg
import Derived.Test.YtbkgigbalnmbkaaDoorRatioPc
namespace Go.Proofs.YtbkgigbalnmbkaaDoor
open Go.RowKit
set_option linter.unusedVariables false
set_option maxRecDepth 100000

/-- A slice of numbers: one of them, or 0. -/
def atv (l : List Int) (i k : Int) : Int := if i < 0 ∨ (l.length : Int) ≤ i then 0 else aro (l.getD i.toNat 0) k
theorem atv_in {l : List Int} {i k : Int} (hk : In64 k) : In64 (atv l i k) := by
  unfold atv; split
  · exact ⟨by decide, by decide⟩
  · exact aro_in hk

set_option maxHeartbeats 4000000 in
theorem at_any (A : Option Addr) (c : Nat) (l : List Int) (i k : Int) (w : World) (hl : l.length ≤ 9223372036854775807) (hc : l.length ≤ c) (hr : Rd w w.heap.size A (l.map iv)) (hn : ∀ n ∈ l, In64 n) (hi : In64 i) (hk : In64 k) :
    Calls Tryd.prog 16 #[.slice A l.length c, .int .i64 i, .int .i64 k] w fun e w' => e = .returned (.int .i64 (atv l i k)) ∧ w' = w := by
  obtain ⟨t, ht⟩ : ∃ t, t = atv l i k := ⟨_, rfl⟩
  rw [← ht]
  obtain ⟨n, hnl⟩ : ∃ n, n = l.length := ⟨_, rfl⟩
  obtain ⟨i1, i2⟩ := hi
  by_cases h0 : i < 0
  · have hx : t = 0 := by rw [ht]; unfold atv; rw [if_pos (.inl h0)]
    have HX := Lib.hid hx
    rw [← hnl]
    clear ht hx hr hn hk hl hc hnl
    go_enter Tryd.func16, Tryd.ntmps16
    go_wp2
    go_ret
    exact ⟨by rw [HX.out]; rfl, rfl⟩
  · by_cases h1 : (l.length : Int) ≤ i
    · have hx : t = 0 := by rw [ht]; unfold atv; rw [if_pos (.inr h1)]
      have HX := Lib.hid hx
      rw [← hnl] at h1 ⊢
      clear ht hx hr hn hk hl hc hnl
      go_enter Tryd.func16, Tryd.ntmps16
      go_wp2
      go_ret
      exact ⟨by rw [HX.out]; rfl, rfl⟩
    · obtain ⟨j, rfl⟩ : ∃ j : Nat, i = j := ⟨i.toNat, by omega⟩
      have hj : j < l.length := by omega
      have hx : t = aro (l.getD j 0) k := by rw [ht]; unfold atv; rw [if_neg (by omega)]; rfl
      have hm : l.getD j 0 ∈ l := by rw [List.getD_eq_getElem?_getD, List.getElem?_eq_getElem hj]; simp
      have ha := fun W => around_any (l.getD j 0) k W (hn _ hm) hk
      obtain ⟨b, off, rfl, hb, hcell⟩ := hr (by simp; omega)
      have hcj := hcell j (iv (l.getD j 0)) (by rw [List.getElem?_map, getD_at l j 0 hj]; rfl)
      unfold iv at hcj
      generalize l.getD j 0 = v at *
      have HX := Lib.hid hx
      have HA := Lib.hid ha
      rw [← hnl] at hj h1 hl hc ⊢
      clear ht hx hn hk hnl hcell ha hm hb
      go_enter Tryd.func16, Tryd.ntmps16
      go_wp2_with fail
      refine (HA.out _).mono ?_
      rintro e w' ⟨rfl, rfl⟩
      go_wp2_with fail
      go_ret
      exact ⟨by rw [HX.out]; rfl, rfl⟩

theorem mk_fits {p q : Int} (hp : -2147483648 ≤ p ∧ p ≤ 2147483648) (hq : 1 ≤ q ∧ q ≤ 2147483648) : ∃ P Q, Rt.mk p q = (P, Q, 0) ∧ Rt.Ok P Q := by
  have h1 : p.natAbs / Nat.gcd p.natAbs q.natAbs ≤ p.natAbs := Nat.div_le_self _ _
  have h2 : q.natAbs / Nat.gcd p.natAbs q.natAbs ≤ q.natAbs := Nat.div_le_self _ _
  have h : ∃ P Q, Rt.mk p q = (P, Q, 0) := by
    unfold Rt.mk
    rw [if_neg (by omega), if_neg (by omega)]
    exact ⟨_, _, rfl⟩
  obtain ⟨P, Q, h⟩ := h
  exact ⟨P, Q, h, (Rt.mk_ok h).2.1⟩

/-- Some valid fraction, and nothing that was there has changed. -/
def Any1 (w : World) (e : Ending) (w' : World) : Prop := ∃ P Q, e = .returned (Rv P Q) ∧ Rt.Ok P Q ∧ Below w.heap.size w w'

theorem tdiv_in {x : Int} (c : Int) (hc : 1 ≤ c) (h : In64 x) : In64 (x.tdiv c) := by
  have h2 : (x.tdiv c).natAbs ≤ x.natAbs := by rw [Int.natAbs_tdiv]; exact Nat.div_le_self _ _
  unfold In64 at h ⊢
  by_cases h3 : x = -9223372036854775808
  · have h4 := Int.tdiv_nonneg (a := 9223372036854775808) (b := c) (by decide) (by omega)
    rw [h3, Int.neg_tdiv] at h2 ⊢
    omega
  · omega
theorem some_end {fn : Func} {p : Tmp} {tmps : Array Value} {w W : World} {g : Nat} {x y : Int} (hr : fn.results = #[.cell p 23])
    (hp : tmps.getD p undef = .pointer (some ⟨g, 0, none⟩)) (hk : Blk W g (Rc x y) 23) (hb : Below w.heap.size w W) (hO : Rt.Ok x y) :
    bodyPost Tryd.prog fn (Any1 w) .ret { tmps := tmps, defers := [] } W :=
  bodyPost_ret (results_cell_row hr tmps W g 23 #[.int .i64 x, .int .i64 y] (0, 0) _ hp hk Tryd.underlying23 rfl (size_rat _ _)) rfl ⟨x, y, rfl, hO, hb⟩

set_option maxHeartbeats 4000000 in
theorem some_any (n k : Int) (w : World) (hn : In64 n) (hk : In64 k) : Calls Tryd.prog 15 #[.int .i64 n, .int .i64 k] w (Any1 w) := by
  have d1 := fun W => around_any n 200 W hn ⟨by decide, by decide⟩
  have d2 := fun W => around_any k 24 W hk ⟨by decide, by decide⟩
  have t1 : In64 (n.tdiv 200) := tdiv_in 200 (by decide) hn
  have t2 : In64 (k.tdiv 24) := tdiv_in 24 (by decide) hk
  have u1 : wrap64 (n.tdiv 200) = n.tdiv 200 := IntWalk.wrap64_in _ t1
  have u2 : wrap64 (k.tdiv 24) = k.tdiv 24 := IntWalk.wrap64_in _ t2
  have d3 := fun W => around_any (n.tdiv 200) 8 W t1 ⟨by decide, by decide⟩
  have d4 := fun W => around_any (k.tdiv 24) 5 W t2 ⟨by decide, by decide⟩
  have d5 := fun W => around_any k 2 W hk ⟨by decide, by decide⟩
  have b1 := aro_bounds (n := n) (k := 200) (by decide)
  have b2 := aro_bounds (n := k) (k := 24) (by decide)
  have b4 := aro_bounds (n := k.tdiv 24) (k := 5) (by decide)
  generalize aro n 200 = x1 at *
  generalize aro k 24 = x2 at *
  generalize aro (n.tdiv 200) 8 = x3 at *
  generalize aro (k.tdiv 24) 5 = x4 at *
  generalize aro k 2 = x5 at *
  have D1 := Lib.hid d1
  have D2 := Lib.hid d2
  have D3 := Lib.hid d3
  have D4 := Lib.hid d4
  have D5 := Lib.hid d5
  clear d1 d2 d3 d4 d5 hn hk
  go_enter Tryd.func15, Tryd.ntmps15
  go_wp2_with fail
  refine (D1.out _).mono ?_
  rintro e w' ⟨rfl, rfl⟩
  go_wp2_with fail
  refine (D2.out _).mono ?_
  rintro e w' ⟨rfl, rfl⟩
  go_wp2_with fail
  refine (D3.out _).mono ?_
  rintro e w' ⟨rfl, rfl⟩
  by_cases h0 : x3 = 0
  · go_wp2_with fail
    refine (D4.out _).mono ?_
    rintro e w' ⟨rfl, rfl⟩
    go_wp2_with fail
    obtain ⟨P, Q, hm, hO⟩ := mk_fits (p := 2147483648 - x4) (q := 1 + x2) (by omega) (by omega)
    have hM := fun W => refMake_any (2147483648 - x4) (1 + x2) W (by unfold In64; omega) (by unfold In64; omega)
    rw [hm] at hM
    refine (hM _).mono ?_
    rintro e w2 ⟨rfl, hb⟩
    have hk := (Blk.new w (Rc 0 0) 23).below hb (by simp)
    have hB : Below w.heap.size w w2 := ((Below.refl _ _).alloc (Nat.le_refl _) _).trans (hb.mono (by simp))
    have hOz : Rt.Ok 0 0 := Or.inl ⟨rfl, rfl⟩
    obtain ⟨⟨c0, c1⟩, f0, f1⟩ := Rc_facts hk
    have hlt := hk.lt
    have H := Lib.hid (And.intro hk (And.intro hB (And.intro hO hOz)))
    clear hk hB hb hm hM hO hOz b1 b2 b4 D1 D2 D3 D4
    simp only [T3, Rv_def]
    by_cases hP : P = 0
    · by_cases h5 : x5 = 0
      · go_wp2_with fail
        refine (D5.out _).mono ?_
        rintro e w' ⟨rfl, rfl⟩
        go_wp2_with fail
        exact some_end rfl rfl ((Rc_set H.out.1 0 0).alloc _) ((below_set2 (c := w.heap.size) H.out.2.1 (Nat.le_refl _) (.int .i64 0) (.int .i64 0)).alloc (by rw [size_setCell, size_setCell]; exact Nat.le_of_lt hlt) _) H.out.2.2.2
      · go_wp2_with fail
        refine (D5.out _).mono ?_
        rintro e w' ⟨rfl, rfl⟩
        go_wp2_with fail
        subst hP
        exact some_end rfl rfl ((Rc_set H.out.1 0 Q).alloc _) ((below_set2 (c := w.heap.size) H.out.2.1 (Nat.le_refl _) (.int .i64 0) (.int .i64 Q)).alloc (by rw [size_setCell, size_setCell]; exact Nat.le_of_lt hlt) _) H.out.2.2.1
    · go_wp2_with fail
      exact some_end rfl rfl ((Rc_set H.out.1 P Q).alloc _) ((below_set2 (c := w.heap.size) H.out.2.1 (Nat.le_refl _) (.int .i64 P) (.int .i64 Q)).alloc (by rw [size_setCell, size_setCell]; exact Nat.le_of_lt hlt) _) H.out.2.2.1
  by_cases h1 : x3 = 1
  · go_wp2_with fail
    refine (D4.out _).mono ?_
    rintro e w' ⟨rfl, rfl⟩
    go_wp2_with fail
    obtain ⟨P, Q, hm, hO⟩ := mk_fits (p := x1 - 100) (q := 2147483648 - x4) (by omega) (by omega)
    have hM := fun W => refMake_any (x1 - 100) (2147483648 - x4) W (by unfold In64; omega) (by unfold In64; omega)
    rw [hm] at hM
    refine (hM _).mono ?_
    rintro e w2 ⟨rfl, hb⟩
    have hk := (Blk.new w (Rc 0 0) 23).below hb (by simp)
    have hB : Below w.heap.size w w2 := ((Below.refl _ _).alloc (Nat.le_refl _) _).trans (hb.mono (by simp))
    have hOz : Rt.Ok 0 0 := Or.inl ⟨rfl, rfl⟩
    obtain ⟨⟨c0, c1⟩, f0, f1⟩ := Rc_facts hk
    have hlt := hk.lt
    have H := Lib.hid (And.intro hk (And.intro hB (And.intro hO hOz)))
    clear hk hB hb hm hM hO hOz b1 b2 b4 D1 D2 D3 D4
    simp only [T3, Rv_def]
    by_cases hP : P = 0
    · by_cases h5 : x5 = 0
      · go_wp2_with fail
        refine (D5.out _).mono ?_
        rintro e w' ⟨rfl, rfl⟩
        go_wp2_with fail
        exact some_end rfl rfl ((Rc_set H.out.1 0 0).alloc _) ((below_set2 (c := w.heap.size) H.out.2.1 (Nat.le_refl _) (.int .i64 0) (.int .i64 0)).alloc (by rw [size_setCell, size_setCell]; exact Nat.le_of_lt hlt) _) H.out.2.2.2
      · go_wp2_with fail
        refine (D5.out _).mono ?_
        rintro e w' ⟨rfl, rfl⟩
        go_wp2_with fail
        subst hP
        exact some_end rfl rfl ((Rc_set H.out.1 0 Q).alloc _) ((below_set2 (c := w.heap.size) H.out.2.1 (Nat.le_refl _) (.int .i64 0) (.int .i64 Q)).alloc (by rw [size_setCell, size_setCell]; exact Nat.le_of_lt hlt) _) H.out.2.2.1
    · go_wp2_with fail
      exact some_end rfl rfl ((Rc_set H.out.1 P Q).alloc _) ((below_set2 (c := w.heap.size) H.out.2.1 (Nat.le_refl _) (.int .i64 P) (.int .i64 Q)).alloc (by rw [size_setCell, size_setCell]; exact Nat.le_of_lt hlt) _) H.out.2.2.1
  by_cases h2 : x3 = 2
  · go_wp2_with fail
    obtain ⟨P, Q, hm, hO⟩ := mk_fits (p := 1000003 * (x1 - 100) + 7) (q := 65537 * (1 + x2)) (by omega) (by omega)
    have hM := fun W => refMake_any (1000003 * (x1 - 100) + 7) (65537 * (1 + x2)) W (by unfold In64; omega) (by unfold In64; omega)
    rw [hm] at hM
    refine (hM _).mono ?_
    rintro e w2 ⟨rfl, hb⟩
    have hk := (Blk.new w (Rc 0 0) 23).below hb (by simp)
    have hB : Below w.heap.size w w2 := ((Below.refl _ _).alloc (Nat.le_refl _) _).trans (hb.mono (by simp))
    have hOz : Rt.Ok 0 0 := Or.inl ⟨rfl, rfl⟩
    obtain ⟨⟨c0, c1⟩, f0, f1⟩ := Rc_facts hk
    have hlt := hk.lt
    have H := Lib.hid (And.intro hk (And.intro hB (And.intro hO hOz)))
    clear hk hB hb hm hM hO hOz b1 b2 b4 D1 D2 D3 D4
    simp only [T3, Rv_def]
    by_cases hP : P = 0
    · by_cases h5 : x5 = 0
      · go_wp2_with fail
        refine (D5.out _).mono ?_
        rintro e w' ⟨rfl, rfl⟩
        go_wp2_with fail
        exact some_end rfl rfl ((Rc_set H.out.1 0 0).alloc _) ((below_set2 (c := w.heap.size) H.out.2.1 (Nat.le_refl _) (.int .i64 0) (.int .i64 0)).alloc (by rw [size_setCell, size_setCell]; exact Nat.le_of_lt hlt) _) H.out.2.2.2
      · go_wp2_with fail
        refine (D5.out _).mono ?_
        rintro e w' ⟨rfl, rfl⟩
        go_wp2_with fail
        subst hP
        exact some_end rfl rfl ((Rc_set H.out.1 0 Q).alloc _) ((below_set2 (c := w.heap.size) H.out.2.1 (Nat.le_refl _) (.int .i64 0) (.int .i64 Q)).alloc (by rw [size_setCell, size_setCell]; exact Nat.le_of_lt hlt) _) H.out.2.2.1
    · go_wp2_with fail
      exact some_end rfl rfl ((Rc_set H.out.1 P Q).alloc _) ((below_set2 (c := w.heap.size) H.out.2.1 (Nat.le_refl _) (.int .i64 P) (.int .i64 Q)).alloc (by rw [size_setCell, size_setCell]; exact Nat.le_of_lt hlt) _) H.out.2.2.1
  · go_wp2_with fail
    obtain ⟨P, Q, hm, hO⟩ := mk_fits (p := x1 - 100) (q := 1 + x2) (by omega) (by omega)
    have hM := fun W => refMake_any (x1 - 100) (1 + x2) W (by unfold In64; omega) (by unfold In64; omega)
    rw [hm] at hM
    refine (hM _).mono ?_
    rintro e w2 ⟨rfl, hb⟩
    have hk := (Blk.new w (Rc 0 0) 23).below hb (by simp)
    have hB : Below w.heap.size w w2 := ((Below.refl _ _).alloc (Nat.le_refl _) _).trans (hb.mono (by simp))
    have hOz : Rt.Ok 0 0 := Or.inl ⟨rfl, rfl⟩
    obtain ⟨⟨c0, c1⟩, f0, f1⟩ := Rc_facts hk
    have hlt := hk.lt
    have H := Lib.hid (And.intro hk (And.intro hB (And.intro hO hOz)))
    clear hk hB hb hm hM hO hOz b1 b2 b4 D1 D2 D3 D4
    simp only [T3, Rv_def]
    by_cases hP : P = 0
    · by_cases h5 : x5 = 0
      · go_wp2_with fail
        refine (D5.out _).mono ?_
        rintro e w' ⟨rfl, rfl⟩
        go_wp2_with fail
        exact some_end rfl rfl ((Rc_set H.out.1 0 0).alloc _) ((below_set2 (c := w.heap.size) H.out.2.1 (Nat.le_refl _) (.int .i64 0) (.int .i64 0)).alloc (by rw [size_setCell, size_setCell]; exact Nat.le_of_lt hlt) _) H.out.2.2.2
      · go_wp2_with fail
        refine (D5.out _).mono ?_
        rintro e w' ⟨rfl, rfl⟩
        go_wp2_with fail
        subst hP
        exact some_end rfl rfl ((Rc_set H.out.1 0 Q).alloc _) ((below_set2 (c := w.heap.size) H.out.2.1 (Nat.le_refl _) (.int .i64 0) (.int .i64 Q)).alloc (by rw [size_setCell, size_setCell]; exact Nat.le_of_lt hlt) _) H.out.2.2.1
    · go_wp2_with fail
      exact some_end rfl rfl ((Rc_set H.out.1 P Q).alloc _) ((below_set2 (c := w.heap.size) H.out.2.1 (Nat.le_refl _) (.int .i64 P) (.int .i64 Q)).alloc (by rw [size_setCell, size_setCell]; exact Nat.le_of_lt hlt) _) H.out.2.2.1
end Go.Proofs.YtbkgigbalnmbkaaDoor
