/- The walk of HashEqualIsEquality. -/
import Derived.Test.YtmlnpnlajgnohaaDoorHashS
namespace Go.Proofs.YtmlnpnlajgnohaaDoor
open Go.RowKit
set_option linter.unusedVariables false

set_option maxHeartbeats 4000000 in
set_option maxRecDepth 100000 in
theorem equality_walk (a b : ByteArray) (W : World) (hT : HTab W) : Calls Tryd.prog 9 #[.string a, .string b] W (Tells true W) := by
  by_cases ha : 400 < a.size
  · have hd : decide ((400 : Int) < a.size) = true := by simp; omega
    have hd' : (400 : Int) < a.size := by omega
    clear ha
    go_enter Tryd.func9, Tryd.ntmps9
    go_wp2_with fail
    refine (sanity_any W hT).mono ?_
    rintro e w1 ⟨rfl, hb1⟩
    clear hT
    go_wp2_with fail
    go_ret
    exact ⟨rfl, hb1⟩
  by_cases hb : 400 < b.size
  · have hd : decide ((400 : Int) < a.size) = false := by simp; omega
    have hd' : (a.size : Int) ≤ 400 := by omega
    have hd2 : decide ((400 : Int) < b.size) = true := by simp; omega
    have hd2' : (400 : Int) < b.size := by omega
    clear ha hb
    go_enter Tryd.func9, Tryd.ntmps9
    go_wp2_with fail
    refine (sanity_any W hT).mono ?_
    rintro e w1 ⟨rfl, hb1⟩
    clear hT
    go_wp2_with fail
    go_ret
    exact ⟨rfl, hb1⟩
  have hd : decide ((400 : Int) < a.size) = false := by simp; omega
  have hd' : (a.size : Int) ≤ 400 := by omega
  have hd2 : decide ((400 : Int) < b.size) = false := by simp; omega
  have hd2' : (b.size : Int) ≤ 400 := by omega
  have hs := Lib.hid (And.intro (show a.size ≤ 400 by omega) (show b.size ≤ 400 by omega))
  clear ha hb
  go_enter Tryd.func9, Tryd.ntmps9
  go_wp2_with fail
  refine (sanity_any W hT).mono ?_
  rintro e w1 ⟨rfl, hb1⟩
  clear hT
  go_wp2_with fail
  refine (equal_any a b w1 (by have := hs.out; omega) (by have := hs.out; omega)).mono ?_
  rintro e w2 ⟨rfl, hb'⟩
  have hb2 := hb1.trans (hb'.mono hb1.size)
  clear hb1 hb'
  have hsym : decide (sb b = sb a) = decide (sb a = sb b) := by simp only [eq_comm]
  have Hsym := Lib.hid hsym
  obtain ⟨r, hr⟩ : ∃ r, r = decide (sb a = sb b) := ⟨_, rfl⟩
  rw [← hr]
  have Hr := Lib.hid hr
  clear hsym hr
  go_wp2_with fail
  refine (equal_any b a w2 (by have := hs.out; omega) (by have := hs.out; omega)).mono ?_
  rintro e w3 ⟨rfl, hb'⟩
  have hb3 := hb2.trans (hb'.mono hb2.size)
  clear hb2 hb'
  rw [Hsym.out, ← Hr.out]
  go_wp2_with fail
  have hae : a ++ ByteArray.mk #[] = a := by
    apply ByteArray.ext
    simp
  refine (equal_any a (a ++ ByteArray.mk #[]) w3 (by have := hs.out; omega) (by rw [hae]; have := hs.out; omega)).mono ?_
  rw [hae, decide_eq_true rfl]
  rintro e w4 ⟨rfl, hb'⟩
  have hb4 := Lib.hid (hb3.trans (hb'.mono hb3.size))
  have hE : (a.toList == b.toList) = r := by
    rw [Hr.out, Lib.toList_data, Lib.toList_data, Bool.eq_iff_iff]
    simp [sb]
  have hrr : (r == r) = true := by simp
  clear hb3 hb' hae
  go_wp2_with fail
  go_ret
  exact ⟨rfl, hb4.out⟩
end Go.Proofs.YtmlnpnlajgnohaaDoor
