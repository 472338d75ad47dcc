import Derived.Test.YtcmepgjbplpnbaaDoorJPermPc

section
/- perm: At and Back. -/

namespace Go.Proofs.YtcmepgjbplpnbaaDoor
open Go.RowKit
set_option linter.unusedVariables false
set_option maxRecDepth 100000

set_option maxHeartbeats 2000000 in
theorem permAt_any (s : ByteArray) (A : Option Addr) (cap : Nat) (p : List Int) (n i : Int) (w : World) (h : PSrc s A cap p w) :
    Calls Tryd.prog 12 #[.string s, .slice A p.length cap, .int .i64 n, .int .i64 i] w fun e w' => e = .returned (.tuple #[.int .i64 (atP s p n i), .int .i64 (errP s p n i)]) ∧ Below w.heap.size w w' := by
  have cC := check_any s A cap p n i w (by have := h.seed; omega) (by have := h.few; omega)
  have hv : errP s p n i ≠ 0 ∨ (errP s p n i = 0 ∧ n ≤ 65536 ∧ 0 ≤ i ∧ i < n) := by
    unfold errP
    split
    · left; decide
    · split
      · left; decide
      · right; exact ⟨rfl, by omega, by omega, by omega⟩
  have hz : errP s p n i ≠ 0 → atP s p n i = 0 := fun h0 => by unfold atP; rw [if_neg h0]
  have ho : errP s p n i = 0 → atP s p n i = (placeS s p n.toNat i.toNat : Int) := fun h0 => by unfold atP; rw [if_pos h0]
  obtain ⟨x, hx⟩ : ∃ x, x = atP s p n i := ⟨_, rfl⟩
  obtain ⟨y, hy⟩ : ∃ y, y = errP s p n i := ⟨_, rfl⟩
  obtain ⟨N, hN⟩ : ∃ N, N = p.length := ⟨_, rfl⟩
  have HN := Lib.hid hN
  have HH := Lib.hid h
  rw [← hx, ← hy] at hz
  rw [← hx, ← hy] at ho
  rw [← hy] at hv
  rw [← hy, ← hN] at cC
  rw [← hx, ← hy, ← hN]
  have CC := Lib.hid cC
  clear hx hy hN h cC
  go_enter Tryd.func12, Tryd.ntmps12
  go_wp2_with fail
  refine CC.out.mono ?_
  rintro e w0 ⟨rfl, rfl⟩
  rcases hv with hv | ⟨rfl, h1, h2, h3⟩
  · have hx0 := hz hv
    subst hx0
    have hyb : ((y : Int) != 0) = true := by simp; omega
    clear hz ho
    go_wp2_with fail
    refine bodyPost_ret (results_tmp2 rfl _ _ _) rfl ⟨rfl, Below.refl _ _⟩
  · obtain ⟨m, rfl⟩ := Int.eq_ofNat_of_zero_le (show 0 ≤ n by omega)
    obtain ⟨j, rfl⟩ := Int.eq_ofNat_of_zero_le h2
    have hx0 := ho rfl
    simp only [Int.toNat_natCast] at hx0
    have cB := base_any (m : Int) w0 (by omega)
    simp only [Int.toNat_natCast] at cB
    have cD := drawn_any s A cap p w0 HH.out
    rw [← HN.out] at cD
    obtain ⟨R, hR⟩ : ∃ R, R = 2 ^ Pm.lg m := ⟨_, rfl⟩
    rw [← hR] at cB
    have HR := Lib.hid hR
    have HX := Lib.hid (And.intro hx0 (And.intro (show m ≤ 65536 by omega) (show j < m by omega)))
    have CB := Lib.hid cB
    have CD := Lib.hid cD
    clear hz ho cB cD hR hx0 h1 h2 h3
    go_wp2_with fail
    refine CB.out.mono ?_
    rintro e w1 ⟨rfl, rfl⟩
    go_wp2_with fail
    refine CD.out.mono ?_
    rintro e w2 ⟨b1, b2, rfl, hS, hb2, -, -⟩
    have cF := forward_any 41 (.pointer (some ⟨b1, 0, none⟩)) (.pointer (some ⟨b2, 0, none⟩)) (fw s p R) R w2 (drawn_words s A cap p b1 b2 R w2 hS (by rw [HR.out]; exact side_le _))
    have CF := Lib.hid cF
    have HB2 := Lib.hid hb2
    clear cF hS hb2
    go_wp2_with fail
    refine CF.out.mono ?_
    rintro e w3 ⟨c1, c2, rfl, hM, hb3, -, -⟩
    rw [HR.out] at hM
    have cW := walk_place s p _ _ _ m j c1 c2 w3 (fun _ _ => rfl) hM HX.out.2.1 HX.out.2.2
    rw [← HX.out.1] at cW
    have CW := Lib.hid cW
    have HB3 := Lib.hid (HB2.out.trans (hb3.mono HB2.out.size))
    clear cW hM hb3
    go_wp2_with fail
    refine CW.out.mono ?_
    rintro e w4 ⟨rfl, hb4⟩
    have HB4 := Lib.hid (HB3.out.trans (hb4.mono HB3.out.size))
    clear hb4
    go_wp2_with fail
    refine bodyPost_ret (results_tmp2 rfl _ _ _) rfl ⟨rfl, HB4.out⟩
set_option maxHeartbeats 2000000 in
theorem permBack_any (s : ByteArray) (A : Option Addr) (cap : Nat) (p : List Int) (n i : Int) (w : World) (h : PSrc s A cap p w) :
    Calls Tryd.prog 14 #[.string s, .slice A p.length cap, .int .i64 n, .int .i64 i] w fun e w' => e = .returned (.tuple #[.int .i64 (backP s p n i), .int .i64 (errP s p n i)]) ∧ Below w.heap.size w w' := by
  have cC := check_any s A cap p n i w (by have := h.seed; omega) (by have := h.few; omega)
  have hv : errP s p n i ≠ 0 ∨ (errP s p n i = 0 ∧ n ≤ 65536 ∧ 0 ≤ i ∧ i < n) := by
    unfold errP
    split
    · left; decide
    · split
      · left; decide
      · right; exact ⟨rfl, by omega, by omega, by omega⟩
  have hz : errP s p n i ≠ 0 → backP s p n i = 0 := fun h0 => by unfold backP; rw [if_neg h0]
  have ho : errP s p n i = 0 → backP s p n i = (backS s p n.toNat i.toNat : Int) := fun h0 => by unfold backP; rw [if_pos h0]
  obtain ⟨x, hx⟩ : ∃ x, x = backP s p n i := ⟨_, rfl⟩
  obtain ⟨y, hy⟩ : ∃ y, y = errP s p n i := ⟨_, rfl⟩
  obtain ⟨N, hN⟩ : ∃ N, N = p.length := ⟨_, rfl⟩
  have HN := Lib.hid hN
  have HH := Lib.hid h
  rw [← hx, ← hy] at hz
  rw [← hx, ← hy] at ho
  rw [← hy] at hv
  rw [← hy, ← hN] at cC
  rw [← hx, ← hy, ← hN]
  have CC := Lib.hid cC
  clear hx hy hN h cC
  go_enter Tryd.func14, Tryd.ntmps14
  go_wp2_with fail
  refine CC.out.mono ?_
  rintro e w0 ⟨rfl, rfl⟩
  rcases hv with hv | ⟨rfl, h1, h2, h3⟩
  · have hx0 := hz hv
    subst hx0
    have hyb : ((y : Int) != 0) = true := by simp; omega
    clear hz ho
    go_wp2_with fail
    refine bodyPost_ret (results_tmp2 rfl _ _ _) rfl ⟨rfl, Below.refl _ _⟩
  · obtain ⟨m, rfl⟩ := Int.eq_ofNat_of_zero_le (show 0 ≤ n by omega)
    obtain ⟨j, rfl⟩ := Int.eq_ofNat_of_zero_le h2
    have hx0 := ho rfl
    simp only [Int.toNat_natCast] at hx0
    have cB := base_any (m : Int) w0 (by omega)
    simp only [Int.toNat_natCast] at cB
    have cD := drawn_any s A cap p w0 HH.out
    rw [← HN.out] at cD
    obtain ⟨R, hR⟩ : ∃ R, R = 2 ^ Pm.lg m := ⟨_, rfl⟩
    rw [← hR] at cB
    have HR := Lib.hid hR
    have HX := Lib.hid (And.intro hx0 (And.intro (show m ≤ 65536 by omega) (show j < m by omega)))
    have CB := Lib.hid cB
    have CD := Lib.hid cD
    clear hz ho cB cD hR hx0 h1 h2 h3
    go_wp2_with fail
    refine CB.out.mono ?_
    rintro e w1 ⟨rfl, rfl⟩
    go_wp2_with fail
    refine CD.out.mono ?_
    rintro e w2 ⟨b1, b2, rfl, hS, hb2, -, -⟩
    have cF := backward_any 41 (.pointer (some ⟨b1, 0, none⟩)) (.pointer (some ⟨b2, 0, none⟩)) (fw s p R) R w2 (drawn_words s A cap p b1 b2 R w2 hS (by rw [HR.out]; exact side_le _))
    have CF := Lib.hid cF
    have HB2 := Lib.hid hb2
    clear cF hS hb2
    go_wp2_with fail
    refine CF.out.mono ?_
    rintro e w3 ⟨c1, c2, rfl, hM, hb3, -, -⟩
    rw [HR.out] at hM
    have cW := walk_back s p _ _ _ m j c1 c2 w3 (fun _ _ => rfl) hM HX.out.2.1 HX.out.2.2
    rw [← HX.out.1] at cW
    have CW := Lib.hid cW
    have HB3 := Lib.hid (HB2.out.trans (hb3.mono HB2.out.size))
    clear cW hM hb3
    go_wp2_with fail
    refine CW.out.mono ?_
    rintro e w4 ⟨rfl, hb4⟩
    have HB4 := Lib.hid (HB3.out.trans (hb4.mono HB3.out.size))
    clear hb4
    go_wp2_with fail
    refine bodyPost_ret (results_tmp2 rfl _ _ _) rfl ⟨rfl, HB4.out⟩
end Go.Proofs.YtcmepgjbplpnbaaDoor
end

