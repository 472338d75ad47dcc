/- The examples that every law asks (lives). -/
import Derived.Test.YtbkgigbalnmbkaaDoorRatioPl
namespace Go.Proofs.YtbkgigbalnmbkaaDoor
open Go.RowKit
set_option linter.unusedVariables false
set_option maxRecDepth 100000

theorem lv_mk : Rt.mk 6 (-4) = (-3, 2, 0) := by decide +kernel
theorem lv_add : Rt.add3 1 6 1 10 = (4, 15, 0) := by decide +kernel
theorem lv_mul : Rt.mul3 2 3 9 4 = (3, 2, 0) := by decide +kernel
theorem lv_big : Rt.add3 2147483648 1 1 1 = (0, 0, 5) := by decide +kernel
theorem lv_flo1 : Rt.flo (-3) 2 = -2 := by decide +kernel
theorem lv_flo2 : Rt.flo 4 15 = 0 := by decide +kernel
theorem lv_text1 : Rt.text (-3) 2 = [45, 51, 47, 50] := by
  unfold Rt.text
  rw [if_pos (by decide +kernel)]
  simp [Rt.txt, Rt.den, Lib.itoa, Lib.decDigits]
theorem lv_text2 : Rt.text 8 1 = [56] := by
  unfold Rt.text
  rw [if_pos (by decide +kernel)]
  simp [Rt.txt, Rt.den, Lib.itoa, Lib.decDigits]
theorem lv_prs1 : Rt.prs [50, 47, 52] = (0, 0, 2) := by
  have h : Rt.text 2 4 = [] := by unfold Rt.text; rw [if_neg (by decide +kernel)]
  rw [prs_two (p := 2) (q := 4) (by decide +kernel) (by decide +kernel), h]; rfl
theorem lv_prs2 : Rt.prs [45, 48] = (0, 0, 2) := by
  have h : Rt.text 0 1 = [48] := by
    unfold Rt.text
    rw [if_pos (by decide +kernel)]
    simp [Rt.txt, Rt.den, Lib.itoa, Lib.decDigits]
  rw [prs_two (p := 0) (q := 1) (by decide +kernel) (by decide +kernel), h]; rfl

set_option maxHeartbeats 4000000 in
theorem lives_any (w : World) (hD : Door w) : Calls Tryd.prog 14 #[] w (Tells true w) := by
  have c1 := fun W => make_any 6 (-4) W ⟨by decide, by decide⟩ ⟨by decide, by decide⟩
  have c2 := fun W => add_any 1 6 1 10 W ⟨by decide, by decide⟩ ⟨by decide, by decide⟩ ⟨by decide, by decide⟩ ⟨by decide, by decide⟩
  have c3 := fun W => mul_any 2 3 9 4 W ⟨by decide, by decide⟩ ⟨by decide, by decide⟩ ⟨by decide, by decide⟩ ⟨by decide, by decide⟩
  have c4 := fun W (h : Door W) => parse_any ⟨#[50, 47, 52]⟩ W (by decide) h
  have c5 := fun W (h : Door W) => parse_any ⟨#[45, 48]⟩ W (by decide) h
  have c6 := fun W => add_any 2147483648 1 1 1 W ⟨by decide, by decide⟩ ⟨by decide, by decide⟩ ⟨by decide, by decide⟩ ⟨by decide, by decide⟩
  have c7 := fun W => floor_any (-3) 2 W ⟨by decide, by decide⟩ ⟨by decide, by decide⟩
  have c8 := fun W => floor_any 4 15 W ⟨by decide, by decide⟩ ⟨by decide, by decide⟩
  have c9 := fun W (h : Door W) => text_any (-3) 2 W ⟨by decide, by decide⟩ ⟨by decide, by decide⟩ h
  have c0 := fun W (h : Door W) => text_any 8 1 W ⟨by decide, by decide⟩ ⟨by decide, by decide⟩ h
  rw [lv_mk] at c1
  rw [lv_add] at c2
  rw [lv_mul] at c3
  rw [show Rt.prs (sb ⟨#[50, 47, 52]⟩) = (0, 0, 2) from lv_prs1] at c4
  rw [show Rt.prs (sb ⟨#[45, 48]⟩) = (0, 0, 2) from lv_prs2] at c5
  rw [lv_big] at c6
  rw [lv_flo1] at c7
  rw [lv_flo2] at c8
  rw [lv_text1, show bs [45, 51, 47, 50] = (⟨#[45, 51, 47, 50]⟩ : ByteArray) from rfl] at c9
  rw [lv_text2, show bs [56] = (⟨#[56]⟩ : ByteArray) from rfl] at c0
  have C1 := Lib.hid c1
  have C2 := Lib.hid c2
  have C3 := Lib.hid c3
  have C4 := Lib.hid c4
  have C5 := Lib.hid c5
  have C6 := Lib.hid c6
  have C7 := Lib.hid c7
  have C8 := Lib.hid c8
  have C9 := Lib.hid c9
  have C0 := Lib.hid c0
  have HD := Lib.hid hD
  clear c1 c2 c3 c4 c5 c6 c7 c8 c9 c0 hD
  go_enter Tryd.func14, Tryd.ntmps14
  go_wp2_with fail
  refine (C1.out _).mono ?_
  rintro e w1 ⟨rfl, hb⟩
  have A1 := Lib.hid (Blk.new w1 (Rc (-3) 2) 23)
  have B1 := Lib.hid (hb.alloc hb.size (.cells (Rc (-3) 2).toArray 23))
  clear hb C1
  simp only [T3, Rv_def]
  go_wp2_with fail
  refine (C2.out _).mono ?_
  rintro e w2 ⟨rfl, hb⟩
  have A2 := Lib.hid (((A1.out.below hb A1.out.lt).alloc (.cells (Rc 4 15).toArray 23)))
  have D2 := Lib.hid (Blk.new w2 (Rc 4 15) 23)
  have hB := B1.out.trans (hb.mono B1.out.size)
  have B2 := Lib.hid (hB.alloc hB.size (.cells (Rc 4 15).toArray 23))
  clear hb hB C2 A1 B1
  generalize w1.heap.size = b1 at *
  simp only [T3, Rv_def]
  go_wp2_with fail
  refine (C3.out _).mono ?_
  rintro e w3 ⟨rfl, hb⟩
  have A3 := Lib.hid (((A2.out.below hb A2.out.lt).alloc (.cells (Rc 3 2).toArray 23)))
  have D3 := Lib.hid (((D2.out.below hb D2.out.lt).alloc (.cells (Rc 3 2).toArray 23)))
  have E3 := Lib.hid (Blk.new w3 (Rc 3 2) 23)
  have hB := B2.out.trans (hb.mono B2.out.size)
  have B3 := Lib.hid (hB.alloc hB.size (.cells (Rc 3 2).toArray 23))
  clear hb hB C3 A2 B2 D2
  generalize w2.heap.size = b2 at *
  simp only [T3, Rv_def]
  go_wp2_with fail
  refine (C4.out _ (HD.out.below B3.out (Nat.le_refl _))).mono ?_
  rintro e w4 ⟨rfl, hb⟩
  have A4 := Lib.hid (((A3.out.below hb A3.out.lt).alloc (.cells (Rc 0 0).toArray 23)))
  have D4 := Lib.hid (((D3.out.below hb D3.out.lt).alloc (.cells (Rc 0 0).toArray 23)))
  have E4 := Lib.hid (((E3.out.below hb E3.out.lt).alloc (.cells (Rc 0 0).toArray 23)))
  have hB := B3.out.trans (hb.mono B3.out.size)
  have B4 := Lib.hid (hB.alloc hB.size (.cells (Rc 0 0).toArray 23))
  clear hb hB C4 A3 B3 D3 E3
  generalize w3.heap.size = b3 at *
  simp only [T3, Rv_def]
  go_wp2_with fail
  refine (C5.out _ (HD.out.below B4.out (Nat.le_refl _))).mono ?_
  rintro e w5 ⟨rfl, hb⟩
  have A5 := Lib.hid (((A4.out.below hb A4.out.lt).alloc (.cells (Rc 0 0).toArray 23)))
  have D5 := Lib.hid (((D4.out.below hb D4.out.lt).alloc (.cells (Rc 0 0).toArray 23)))
  have E5 := Lib.hid (((E4.out.below hb E4.out.lt).alloc (.cells (Rc 0 0).toArray 23)))
  have hB := B4.out.trans (hb.mono B4.out.size)
  have B5 := Lib.hid (hB.alloc hB.size (.cells (Rc 0 0).toArray 23))
  clear hb hB C5 A4 B4 D4 E4
  simp only [T3, Rv_def]
  go_wp2_with fail
  refine (C6.out _).mono ?_
  rintro e w6 ⟨rfl, hb⟩
  have hA := A5.out.below hb A5.out.lt
  have hE1 := D5.out.below hb D5.out.lt
  have hE2 := E5.out.below hb E5.out.lt
  have hB := B5.out.trans (hb.mono B5.out.size)
  have l1 := hA.lt
  have l2 := hE1.lt
  have l3 := hE2.lt
  obtain ⟨⟨c10, c11⟩, -, -⟩ := Rc_facts hA
  obtain ⟨⟨c20, c21⟩, -, -⟩ := Rc_facts hE1
  obtain ⟨⟨c30, c31⟩, -, -⟩ := Rc_facts hE2
  have A6 := Lib.hid (hA.alloc (.cells (Rc 0 0).toArray 23))
  have D6 := Lib.hid (hE1.alloc (.cells (Rc 0 0).toArray 23))
  have B6 := Lib.hid (hB.alloc hB.size (.cells (Rc 0 0).toArray 23))
  clear hb hB C6 A5 B5 D5 E5 hA hE1 hE2
  simp only [T3, Rv_def]
  go_wp2_with fail
  refine (C7.out _).mono ?_
  rintro e w7 ⟨rfl, hb⟩
  have hA := A6.out.below hb A6.out.lt
  have hE1 := D6.out.below hb D6.out.lt
  have hB := B6.out.trans (hb.mono B6.out.size)
  clear c10 c11 c20 c21 c30 c31 l1 l2 l3 hb A6 D6 B6
  obtain ⟨⟨c10, c11⟩, -, -⟩ := Rc_facts hA
  obtain ⟨⟨c20, c21⟩, -, -⟩ := Rc_facts hE1
  have A7 := Lib.hid hA
  have B7 := Lib.hid hB
  clear hA hE1 hB
  go_wp2_with fail
  refine (C8.out _).mono ?_
  rintro e w8 ⟨rfl, hb⟩
  have hA := A7.out.below hb A7.out.lt
  have hB := B7.out.trans (hb.mono B7.out.size)
  clear c10 c11 c20 c21 hb A7 B7
  obtain ⟨⟨c10, c11⟩, -, -⟩ := Rc_facts hA
  have B8 := Lib.hid hB
  clear hA hB
  go_wp2_with fail
  refine (C9.out _ (HD.out.below B8.out (Nat.le_refl _))).mono ?_
  rintro e w9 ⟨rfl, hb⟩
  have B9 := Lib.hid (B8.out.trans (hb.mono B8.out.size))
  clear c10 c11 hb B8
  go_wp2_with fail
  refine (C0.out _ (HD.out.below B9.out (Nat.le_refl _))).mono ?_
  rintro e w10 ⟨rfl, hb⟩
  have B10 := Lib.hid (B9.out.trans (hb.mono B9.out.size))
  clear hb B9
  go_wp2_with fail
  go_ret
  exact ⟨rfl, B10.out⟩
end Go.Proofs.YtbkgigbalnmbkaaDoor
