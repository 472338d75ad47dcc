/- The walk of the statement RatioTerms. -/
import Derived.Test.YtbkgigbalnmbkaaDoorRatioPn
import Derived.Test.YtbkgigbalnmbkaaDoorRatioPm
namespace Go.Proofs.YtbkgigbalnmbkaaDoor
open Go.RowKit
set_option linter.unusedVariables false
set_option maxRecDepth 100000

theorem term_in {a c : Int} (ha : -1073741824 ≤ a ∧ a ≤ 1073741823) (hc : -2147483648 ≤ c ∧ c ≤ 2147483648) : In64 (a * c) ∧ wrap64 (a * c) = a * c := by
  have t1 := Rt.prod_le (a := a) (b := c) (by omega) (by omega)
  have h : In64 (a * c) := by unfold In64; omega
  exact ⟨h, IntWalk.wrap64_in _ h⟩

set_option maxHeartbeats 4000000 in
theorem terms_walk (p q k : Int) (w : World) (hp : (Lit.int .i64 p).wf = true) (hq : (Lit.int .i64 q).wf = true) (hk : (Lit.int .i64 k).wf = true) (hD : Door w) :
    Calls Tryd.prog 9 #[.int .i64 p, .int .i64 q, .int .i64 k] w (Tells true w) := by
  have p1 : In64 p := bounds_i64 hp
  have q1 : In64 q := bounds_i64 hq
  have k1 : In64 k := bounds_i64 hk
  have d1 := fun W => around_any p 2147483648 W p1 ⟨by decide, by decide⟩
  have d2 := fun W => around_any q 2147483648 W q1 ⟨by decide, by decide⟩
  have d3 := fun W => around_any k 2147483648 W k1 ⟨by decide, by decide⟩
  have b1 := aro_bounds (n := p) (k := 2147483648) (by decide)
  have b2 := aro_bounds (n := q) (k := 2147483648) (by decide)
  have b3 := aro_bounds (n := k) (k := 2147483648) (by decide)
  generalize aro p 2147483648 = x1 at *
  generalize aro q 2147483648 = x2 at *
  generalize aro k 2147483648 = x3 at *
  clear hp hq hk p1 q1
  obtain ⟨a, ha⟩ : ∃ a, a = x1 - 1073741824 := ⟨_, rfl⟩
  obtain ⟨b, hb⟩ : ∃ b, b = x2 - 1073741824 := ⟨_, rfl⟩
  obtain ⟨c, hc⟩ : ∃ c, c = if k < 0 then -(1 + x3) else 1 + x3 := ⟨_, rfl⟩
  have hc0 : c ≠ 0 ∧ -2147483648 ≤ c ∧ c ≤ 2147483648 := by rw [hc]; split <;> omega
  have ha1 : -1073741824 ≤ a ∧ a ≤ 1073741823 := by omega
  have hb1 : -1073741824 ≤ b ∧ b ≤ 1073741823 := by omega
  have ha2 : wrap64 (x1 - 1073741824) = a := by rw [← ha]; exact IntWalk.wrap64_in _ (by omega)
  have hb2 : wrap64 (x2 - 1073741824) = b := by rw [← hb]; exact IntWalk.wrap64_in _ (by omega)
  obtain ⟨u, hu, hc1⟩ : ∃ u, u = 1 + x3 ∧ wrap64 (1 + x3) = u := ⟨_, rfl, IntWalk.wrap64_in _ (by omega)⟩
  have hc2 : k < 0 → wrap64 (-u) = c := fun h => by rw [hc, if_pos h, hu]; exact IntWalk.wrap64_in _ (by omega)
  have hc3 : ¬ k < 0 → u = c := fun h => by rw [hc, if_neg h, hu]
  obtain ⟨m1, n1⟩ := term_in ha1 hc0.2
  obtain ⟨m2, n2⟩ := term_in hb1 hc0.2
  obtain ⟨x, y, e, hm⟩ : ∃ x y e, Rt.mk a b = (x, y, e) := ⟨_, _, _, rfl⟩
  have hs := Rt.mk_scale (a := a) (b := b) hc0.1
  have hz : b = 0 → e = 1 := by
    intro h
    rw [h, Rt.mk_zero] at hm
    simp only [Prod.mk.injEq] at hm
    exact hm.2.2.symm
  rw [hm] at hs
  have g1 := fun W => make_any a b W (by unfold In64; omega) (by unfold In64; omega)
  have g2 := fun W => make_any (a * c) (b * c) W m1 m2
  rw [hm] at g1
  rw [hs] at g2
  have hl := fun W => lives_any W
  have G1 := Lib.hid g1
  have G2 := Lib.hid g2
  have D1 := Lib.hid d1
  have D2 := Lib.hid d2
  have D3 := Lib.hid d3
  have HL := Lib.hid hl
  have HD := Lib.hid hD
  have HZ := Lib.hid hz
  clear ha hb hc0 hc hu ha1 hb1 b1 b2 b3 m1 m2 hm hs hz g1 g2 d1 d2 d3 hl hD
  by_cases hk0 : k < 0
  · have hc2 := hc2 hk0
    clear hc3
    go_enter Tryd.func9, Tryd.ntmps9
    go_wp2_with fail
    refine (D1.out _).mono ?_
    rintro e w' ⟨rfl, rfl⟩
    go_wp2_with fail
    refine (D2.out _).mono ?_
    rintro e w' ⟨rfl, rfl⟩
    go_wp2_with fail
    refine (D3.out _).mono ?_
    rintro e w' ⟨rfl, rfl⟩
    clear D1 D2 D3
    go_wp2_with fail
    refine (G1.out _).mono ?_
    rintro e1 w2 ⟨rfl, hb⟩
    have A1 := Lib.hid (Blk.new w2 (Rc x y) 23)
    have B1 := Lib.hid (hb.alloc hb.size (.cells (Rc x y).toArray 23))
    clear hb G1
    simp only [T3, Rv_def]
    go_wp2_with fail
    refine (G2.out _).mono ?_
    rintro e1 w3 ⟨rfl, hb⟩
    have hA := A1.out.below hb A1.out.lt
    have hB := B1.out.trans (hb.mono B1.out.size)
    obtain ⟨⟨c10, c11⟩, -, -⟩ := Rc_facts hA
    have l1 := hA.lt
    have B2 := Lib.hid (hB.alloc hB.size (.cells (Rc x y).toArray 23))
    clear hA hB hb G2 A1 B1
    simp only [T3, Rv_def]
    have hz := HZ.out
    clear HZ
    by_cases hb0 : b = 0
    · have he := hz hb0
      clear hz
      go_wp2_with fail
      refine (HL.out _ (HD.out.below B2.out (Nat.le_refl _))).mono ?_
      rintro e1 w4 ⟨rfl, hb⟩
      have B3 := Lib.hid (B2.out.trans (hb.mono B2.out.size))
      clear B2 hb
      go_wp2_with fail
      go_ret
      exact ⟨rfl, B3.out⟩
    · clear hz
      go_wp2_with fail
      refine (HL.out _ (HD.out.below B2.out (Nat.le_refl _))).mono ?_
      rintro e1 w4 ⟨rfl, hb⟩
      have B3 := Lib.hid (B2.out.trans (hb.mono B2.out.size))
      clear B2 hb
      go_wp2_with fail
      go_ret
      exact ⟨rfl, B3.out⟩
  · obtain rfl := hc3 hk0
    clear hc2 hc3
    go_enter Tryd.func9, Tryd.ntmps9
    go_wp2_with fail
    refine (D1.out _).mono ?_
    rintro e w' ⟨rfl, rfl⟩
    go_wp2_with fail
    refine (D2.out _).mono ?_
    rintro e w' ⟨rfl, rfl⟩
    go_wp2_with fail
    refine (D3.out _).mono ?_
    rintro e w' ⟨rfl, rfl⟩
    clear D1 D2 D3
    go_wp2_with fail
    refine (G1.out _).mono ?_
    rintro e1 w2 ⟨rfl, hb⟩
    have A1 := Lib.hid (Blk.new w2 (Rc x y) 23)
    have B1 := Lib.hid (hb.alloc hb.size (.cells (Rc x y).toArray 23))
    clear hb G1
    simp only [T3, Rv_def]
    go_wp2_with fail
    refine (G2.out _).mono ?_
    rintro e1 w3 ⟨rfl, hb⟩
    have hA := A1.out.below hb A1.out.lt
    have hB := B1.out.trans (hb.mono B1.out.size)
    obtain ⟨⟨c10, c11⟩, -, -⟩ := Rc_facts hA
    have l1 := hA.lt
    have B2 := Lib.hid (hB.alloc hB.size (.cells (Rc x y).toArray 23))
    clear hA hB hb G2 A1 B1
    simp only [T3, Rv_def]
    have hz := HZ.out
    clear HZ
    by_cases hb0 : b = 0
    · have he := hz hb0
      clear hz
      go_wp2_with fail
      refine (HL.out _ (HD.out.below B2.out (Nat.le_refl _))).mono ?_
      rintro e1 w4 ⟨rfl, hb⟩
      have B3 := Lib.hid (B2.out.trans (hb.mono B2.out.size))
      clear B2 hb
      go_wp2_with fail
      go_ret
      exact ⟨rfl, B3.out⟩
    · clear hz
      go_wp2_with fail
      refine (HL.out _ (HD.out.below B2.out (Nat.le_refl _))).mono ?_
      rintro e1 w4 ⟨rfl, hb⟩
      have B3 := Lib.hid (B2.out.trans (hb.mono B2.out.size))
      clear B2 hb
      go_wp2_with fail
      go_ret
      exact ⟨rfl, B3.out⟩
end Go.Proofs.YtbkgigbalnmbkaaDoor
