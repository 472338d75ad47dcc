import Derived.Test.YtkelfcgomeojeaaDoorJSignPw
import Derived.Test.YtkelfcgomeojeaaDoorJSignRj

section
/- SignVerifiesAsSpecified. -/


namespace Go.Proofs.YtkelfcgomeojeaaDoor
open Go.RowKit
set_option linter.unusedVariables false
set_option maxRecDepth 100000

set_option maxHeartbeats 8000000 in
theorem verifies_walk (p : List UInt8) (h : Int) (m sg : ByteArray) (w : World) (hp : p.length = 16) (hR : RTab w) (hT : HTab w) : Calls Tryd.prog 5 #[.agg (p.map bv).toArray, .int .i64 h, .string m, .string sg] w (Tells true w) := by
  obtain ⟨X, hX⟩ : ∃ X, X = p.map bv := ⟨_, rfl⟩
  have lX : X.length = 16 := by rw [hX, List.length_map, hp]
  have yX := size_dig lX
  have cV := fun W (h1 : m.size ≤ 100000000) (h2 : sg.size ≤ 100000000) hT => verify_any p h m sg W hp h1 h2 hT
  have cR := fun W (h1 : m.size ≤ 2000) (h2 : sg.size ≤ 100000) hT => refVerify_any p h m sg W hp h1 h2 hT
  obtain ⟨⟨a, e⟩, hae⟩ : ∃ x, x = verS p h (sb m) (sb sg) := ⟨_, rfl⟩
  rw [← hX, ← hae] at cV cR
  rw [← hX]
  simp only at cV cR
  obtain ⟨W0, hW0⟩ : ∃ W0, W0 = w.alloc (.cells X.toArray 23) := ⟨_, rfl⟩
  have hS : Blk W0 w.heap.size X 23 ∧ Below w.heap.size w W0 := by
    rw [hW0]
    exact ⟨Blk.new w _ _, (Below.refl _ _).alloc (Nat.le_refl _) _⟩
  have cS := sanity_any W0 (hT.below hS.2 (Nat.le_refl _))
  have CS := Lib.hid cS
  have CV := Lib.hid cV
  have CR := Lib.hid cR
  have S := Lib.hid hS
  have HW0 := Lib.hid hW0
  have YX := Lib.hid yX
  have HT := Lib.hid (And.intro hT hR)
  clear cS cV cR hS hW0 yX hT hR hX lX hae
  by_cases hm : 200 < m.size
  · have hm' : (200 : Int) < m.size := by omega
    clear hm
    go_enter Tryd.func5, Tryd.ntmps5
    go_wp2_with fail
    rw [← HW0.out]
    refine CS.out.mono ?_
    rintro e w1 ⟨rfl, hb1⟩
    have B1 := Lib.hid (S.out.2.trans (hb1.mono S.out.2.size))
    clear hb1 CS S
    go_wp2_with fail
    go_ret
    exact ⟨rfl, B1.out⟩
  have hm' : (m.size : Int) ≤ 200 := by omega
  by_cases hs : 1400 < sg.size
  · have hs' : (1400 : Int) < sg.size := by omega
    clear hm hs
    go_enter Tryd.func5, Tryd.ntmps5
    go_wp2_with fail
    rw [← HW0.out]
    refine CS.out.mono ?_
    rintro e w1 ⟨rfl, hb1⟩
    have B1 := Lib.hid (S.out.2.trans (hb1.mono S.out.2.size))
    clear hb1 CS S
    go_wp2_with fail
    go_ret
    exact ⟨rfl, B1.out⟩
  have hs' : (sg.size : Int) ≤ 1400 := by omega
  go_enter Tryd.func5, Tryd.ntmps5
  go_wp2_with fail
  rw [← HW0.out]
  refine CS.out.mono ?_
  rintro x w1 ⟨rfl, hb1⟩
  have S1 := Lib.hid (And.intro (S.out.1.below hb1 S.out.1.lt) (S.out.2.trans (hb1.mono S.out.2.size)))
  clear hb1 CS S
  go_wp2_with (refine wpList_load_row rfl 23 (.tmp 4) rfl w.heap.size rfl _ X.toArray (0, 0) _ S1.out.1 Tryd.underlying23 rfl YX.out ?_)
  refine (CV.out w1 (by omega) (by omega) (HT.out.1.below S1.out.2 (Nat.le_refl _))).mono ?_
  rintro x w2 ⟨rfl, hb2⟩
  have S2 := Lib.hid (And.intro (S1.out.1.below hb2 S1.out.1.lt) (S1.out.2.trans (hb2.mono S1.out.2.size)))
  clear hb2 CV S1
  go_wp2_with (refine wpList_load_row rfl 23 (.tmp 4) rfl w.heap.size rfl _ X.toArray (0, 0) _ S2.out.1 Tryd.underlying23 rfl YX.out ?_)
  refine (CR.out w2 (by omega) (by omega) (HT.out.2.below S2.out.2 (Nat.le_refl _))).mono ?_
  rintro x w3 ⟨rfl, hb3⟩
  have S3 := Lib.hid (S2.out.2.trans (hb3.mono S2.out.2.size))
  clear hb3 CR S2
  go_wp2_with fail
  go_ret
  exact ⟨rfl, S3.out⟩
end Go.Proofs.YtkelfcgomeojeaaDoor
end

