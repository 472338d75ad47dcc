/- The contract of strings.Cut at a slash. -/
import Derived.Test.YtbkgigbalnmbkaaDoorRatioPj
import Derived.Test.YtbkgigbalnmbkaaDoorRatioCut
namespace Go.Proofs.YtbkgigbalnmbkaaDoor
open Go.RowKit
set_option linter.unusedVariables false
set_option maxRecDepth 100000

theorem extract_take (s : ByteArray) (i : Nat) : s.extract 0 i = bs ((sb s).take i) := by
  apply ByteArray.ext
  apply Array.toList_inj.1
  simp [bs, sb, ByteArray.data_extract]
theorem extract_drop (s : ByteArray) (i : Nat) : s.extract i s.size = bs ((sb s).drop i) := by
  apply ByteArray.ext
  apply Array.toList_inj.1
  simp only [bs, sb, ByteArray.data_extract, Array.toList_extract, List.extract_eq_take_drop]
  exact List.take_of_length_le (by rw [List.length_drop, Array.length_toList]; exact Nat.le_refl _)
/-- What Cut answers. -/
def CutsAt (s : ByteArray) (w : World) (e : Ending) (w' : World) : Prop := ∃ b f, e = .returned (.tuple #[.string (bs (Rt.bef (sb s))), .string b, .bool f]) ∧ ((f = false ∧ Rt.sec (sb s) = [49]) ∨ (f = true ∧ b = bs (Rt.sec (sb s)))) ∧ Below w.heap.size w w'

set_option maxHeartbeats 4000000 in
theorem lcut_any (s : ByteArray) (w : World) (hs : s.size ≤ 140737488351232) : Calls Tryd.prog 49 #[.string s, .string ⟨#[47]⟩] w (CutsAt s w) := by
  rcases Rt.cut_cases (sb s) with ⟨h1, h2, h3⟩ | ⟨i, h1, h2, h3, h4⟩
  · have hidx := fun W => Tryd.stringslite_Index_one s 47 W
    rw [show Lib.indexByte s.data.toList 47 = -1 from h1] at hidx
    have H := Lib.hid (And.intro h2 h3)
    clear h1 h2 h3
    go_enter Tryd.func49, Tryd.ntmps49
    go_wp2_with (go_at_call 54; refine (hidx _).mono ?_; rintro e w' ⟨rfl, rfl⟩)
    go_ret3
    refine ⟨⟨#[]⟩, false, ?_, .inl ⟨rfl, H.out.2⟩, Below.refl _ _⟩
    rw [H.out.1, bs_sb]; rfl
  · have hidx := fun W => Tryd.stringslite_Index_one s 47 W
    rw [show Lib.indexByte s.data.toList 47 = (i : Int) from h1] at hidx
    rw [sb_len] at h2
    have H := Lib.hid (And.intro h3 h4)
    clear h1 h3 h4
    go_enter Tryd.func49, Tryd.ntmps49
    go_wp2_with (go_at_call 54; refine (hidx _).mono ?_; rintro e w' ⟨rfl, rfl⟩)
    go_region
    go_wp2_with fail
    go_ret3
    refine ⟨s.extract (i + 1) s.size, true, ?_, .inr ⟨rfl, ?_⟩, below_drewN (Below.refl _ _) 1⟩
    · rw [H.out.1, ← extract_take]; rfl
    · rw [H.out.2, extract_drop]

theorem cut_any (s : ByteArray) (w : World) (hs : s.size ≤ 140737488351232) : Calls Tryd.prog 41 #[.string s, .string ⟨#[47]⟩] w (CutsAt s w) := by
  have hc := fun W => lcut_any s W hs
  go_enter Tryd.func41, Tryd.ntmps41
  go_wp2_with fail
  refine (hc _).mono ?_
  rintro e w2 ⟨b, f, rfl, h1, h2⟩
  have H := Lib.hid (And.intro h1 h2)
  clear h1 h2 hc
  go_wp2_with fail
  go_ret3
  exact ⟨b, f, rfl, H.out⟩
end Go.Proofs.YtbkgigbalnmbkaaDoor
