import Derived.Deep.QuietTactic
import Derived.BigQuiet
import Derived.Test.YtcmepgjbplpnbaaDoorJPermPh
import Derived.Test.YtcmepgjbplpnbaaDoorJPermRg
import Derived.Test.YtcmepgjbplpnbaaDoorJPermT

section
/- The contracts of perm's functions: At and Back (PermPd), All. -/


namespace Go.Proofs.YtcmepgjbplpnbaaDoor
open Go.RowKit
set_option linter.unusedVariables false
set_option maxRecDepth 100000

set_option maxHeartbeats 1000000 in
theorem permAll_bad (s : ByteArray) (A : Option Addr) (cap : Nat) (L : Nat) (n y : Int) (w : World) (h1 : s.size ≤ 1000000000) (h2 : L ≤ 1000000000) (hy : (s.size > 32 ∨ L > 8 ∨ n > 65536) ∧ y = 4 ∨ (¬ (s.size > 32 ∨ L > 8 ∨ n > 65536) ∧ n < 0 ∧ y = 1)) :
    Calls Tryd.prog 17 #[.string s, .slice A L cap, .int .i64 n] w (GivesI [] y w) := by
  have cE := exceeds_any s A cap L n w h1 h2
  rcases hy with ⟨hc, rfl⟩ | ⟨hc, hn, rfl⟩
  · rw [decide_eq_true hc] at cE
    have CE := Lib.hid cE
    clear cE hc
    go_enter Tryd.func17, Tryd.ntmps17
    go_wp2_with fail
    refine CE.out.mono ?_
    rintro e w0 ⟨rfl, rfl⟩
    go_wp2_with fail
    refine bodyPost_ret (results_tmp2 rfl _ _ _) rfl ⟨_, rfl, World.ownsRow_nil _ _ _ _, Below.refl _ _⟩
  · rw [decide_eq_false hc] at cE
    have CE := Lib.hid cE
    clear cE hc
    go_enter Tryd.func17, Tryd.ntmps17
    go_wp2_with fail
    refine CE.out.mono ?_
    rintro e w0 ⟨rfl, rfl⟩
    go_wp2_with fail
    refine bodyPost_ret (results_tmp2 rfl _ _ _) rfl ⟨_, rfl, World.ownsRow_nil _ _ _ _, Below.refl _ _⟩
theorem permAll_any (s : ByteArray) (A : Option Addr) (cap : Nat) (p : List Int) (n : Int) (w : World) (h : PSrc s A cap p w) :
    Calls Tryd.prog 17 #[.string s, .slice A p.length cap, .int .i64 n] w (GivesI (allP s p n) (errA s p n) w) := by
  have hs := h.seed
  have hf := h.few
  by_cases hc : s.size > 32 ∨ p.length > 8 ∨ n > 65536
  · have e : errA s p n = 4 := by unfold errA; rw [if_pos hc]
    have e2 : allP s p n = [] := by unfold allP; rw [e]; rfl
    rw [e, e2]
    exact permAll_bad s A cap p.length n 4 w (by omega) (by omega) (.inl ⟨hc, rfl⟩)
  · by_cases hn : n < 0
    · have e : errA s p n = 1 := by unfold errA; rw [if_neg hc, if_pos hn]
      have e2 : allP s p n = [] := by unfold allP; rw [e]; rfl
      rw [e, e2]
      exact permAll_bad s A cap p.length n 1 w (by omega) (by omega) (.inr ⟨hc, hn, rfl⟩)
    · have e : errA s p n = 0 := by unfold errA; rw [if_neg hc, if_neg hn]
      have e2 : allP s p n = allS s p n.toNat := by unfold allP; rw [if_pos e]
      rw [e, e2]
      obtain ⟨m, rfl⟩ := Int.eq_ofNat_of_zero_le (show 0 ≤ n by omega)
      rw [Int.toNat_natCast]
      exact permAll_ok s A cap p m w h (by omega) (by omega) (by omega)
end Go.Proofs.YtcmepgjbplpnbaaDoor
end

section
/- The examples of the chapter hold (lives). -/




namespace Go.Proofs.YtcmepgjbplpnbaaDoor
open Go.RowKit
set_option linter.unusedVariables false
set_option maxRecDepth 100000

theorem psrc_s3 (w : World) (hT : PTab w) : PSrc { data := #[115] } (some ⟨w.heap.size, 0, none⟩) 1 [3] (w.alloc (.cells #[.int .i64 3] 3)) :=
  ⟨rd_new w ([3].map iv) 3, by decide, by decide, by decide, by decide, by intro n hn; simp at hn; subst hn; constructor <;> decide, hT.below ((Below.refl _ _).alloc (Nat.le_refl _) _)⟩
theorem psrc_s (w : World) (hT : PTab w) : PSrc { data := #[115] } none 0 [] w :=
  ⟨Rd.nil, by decide, by decide, by decide, by decide, (by intro n hn; cases hn), hT⟩
theorem lAt (w : World) (hT : PTab w) : Calls Tryd.prog 12 #[.string { data := #[115] }, .slice (some ⟨w.heap.size, 0, none⟩) 1 1, .int .i64 1, .int .i64 0] (w.alloc (.cells #[.int .i64 3] 3))
    fun e w' => e = .returned (.tuple #[.int .i64 0, .int .i64 0]) ∧ Below w.heap.size w w' := by
  have h := permAt_any { data := #[115] } (some ⟨w.heap.size, 0, none⟩) 1 [3] 1 0 _ (psrc_s3 w hT)
  have h0 := placeS_lt { data := #[115] } [3] (n := 1) (x := 0) (by decide) (by decide)
  have e : errP { data := #[115] } [3] 1 0 = 0 := by decide
  have a : atP { data := #[115] } [3] 1 0 = 0 := by unfold atP; rw [if_pos e]; show ((placeS _ _ 1 0 : Nat) : Int) = 0; omega
  rw [e, a] at h
  exact h.mono fun e w' h => ⟨h.1, behind1 h.2 (by simp)⟩
theorem lAll2 (w : World) (hT : PTab w) : Calls Tryd.prog 17 #[.string { data := #[115] }, .slice (some ⟨w.heap.size, 0, none⟩) 1 1, .int .i64 2] (w.alloc (.cells #[.int .i64 3] 3))
    fun e w' => ∃ b c, ∃ x y : Nat, e = .returned (.tuple #[.slice (some ⟨b, 0, none⟩) 2 c, .int .i64 0]) ∧ b < w'.heap.size ∧ w'.cell? ⟨b, 0, none⟩ = some (.int .i64 x) ∧ w'.cell? ⟨b, 1, none⟩ = some (.int .i64 y) ∧ x + y = 1 ∧ x * y = 0 ∧ Below w.heap.size w w' := by
  have h := permAll_any { data := #[115] } (some ⟨w.heap.size, 0, none⟩) 1 [3] 2 _ (psrc_s3 w hT)
  have e : errA { data := #[115] } [3] 2 = 0 := by decide
  have a : allP { data := #[115] } [3] 2 = [((placeS { data := #[115] } [3] 2 0 : Nat) : Int), ((placeS { data := #[115] } [3] 2 1 : Nat) : Int)] := by unfold allP; rw [if_pos e]; rfl
  have t := two_places { data := #[115] } [3]
  rw [e, a] at h
  generalize placeS { data := #[115] } [3] 2 0 = x at *
  generalize placeS { data := #[115] } [3] 2 1 = y at *
  refine h.mono ?_
  rintro e w' ⟨v, rfl, hown, hb⟩
  obtain ⟨g, cap, rfl, hg1, hg2, hg3, hg4, hcl⟩ := own_form hown (by simp)
  refine ⟨g, cap, x, y, rfl, ?_⟩
  exact ⟨hg2, by have := hcl 0 (iv x) rfl; simpa [Addr.add, iv] using this, by have := hcl 1 (iv y) rfl; simpa [Addr.add, iv] using this, t.1, t.2, behind1 hb (by simp)⟩
theorem lAll9 (w : World) (hT : PTab w) : Calls Tryd.prog 17 #[.string { data := #[115] }, .slice none 0 0, .int .i64 9] w
    fun e w' => ∃ b c, e = .returned (.tuple #[.slice (some ⟨b, 0, none⟩) 9 c, .int .i64 0]) ∧ b < w'.heap.size ∧ (∀ k : Nat, k < 9 → w'.cell? ⟨b, k, none⟩ = some (.int .i64 (placeS { data := #[115] } [] 9 k : Int))) ∧ Below w.heap.size w w' := by
  have h := permAll_any { data := #[115] } none 0 [] 9 _ (psrc_s w hT)
  have e : errA { data := #[115] } [] 9 = 0 := by decide
  have a : allP { data := #[115] } [] 9 = allS { data := #[115] } [] 9 := by unfold allP; rw [if_pos e]; rfl
  have hat := allS_at { data := #[115] } [] 9
  have hl := allS_len { data := #[115] } [] 9
  rw [e, a] at h
  generalize allS { data := #[115] } [] 9 = l at *
  refine h.mono ?_
  rintro e w' ⟨v, rfl, hown, hb⟩
  rw [hl] at hown
  obtain ⟨g, cap, rfl, hg1, hg2, hg3, hg4, hcl⟩ := own_form hown (by decide)
  refine ⟨g, cap, rfl, hg2, fun k hk => ?_, hb⟩
  have := hcl k (iv (placeS { data := #[115] } [] 9 k : Int)) (by rw [List.getElem?_map, hat k hk]; rfl)
  rw [Addr.add_mid] at this
  simpa [iv] using this

set_option maxHeartbeats 4000000 in
theorem lives_any (w : World) (hT : PTab w) : Calls Tryd.prog 16 #[] w (Tells true w) := by
  have HT := Lib.hid hT
  clear hT
  go_enter Tryd.func16, Tryd.ntmps16
  go_wp2_with fail
  refine (lAt w HT.out).mono ?_
  rintro e w1 ⟨rfl, b1⟩
  have B1 := Lib.hid b1
  clear b1
  go_wp2_with fail
  refine (lAll2 w1 (HT.out.below B1.out)).mono ?_
  rintro e w2 ⟨g2, c2, x, y, rfl, hg2, hx2, hy2, hs, hp, b2⟩
  have B2 := Lib.hid (B1.out.trans (b2.mono B1.out.size))
  have S := Lib.hid (And.intro hs hp)
  clear b2 B1 hs hp
  go_wp2_with fail
  refine (lAll9 w2 (HT.out.below B2.out)).mono ?_
  rintro e w3 ⟨g3, c3, rfl, hg3, hc3, b3⟩
  have B3 := Lib.hid (B2.out.trans (b3.mono B2.out.size))
  have hx3 := (b3.cell (p := ⟨g2, 0, none⟩) hg2).trans hx2
  have hy3 := (b3.cell (p := ⟨g2, 1, none⟩) hg2).trans hy2
  have C3 := Lib.hid hc3
  clear b3 B2 hx2 hy2 hc3 hg2 hg3
  go_wp2_with fail
  go_loopw [7, 8] (fun s i wr => ∃ k : Nat, k ≤ 9 ∧ i = .int .i64 k ∧ s = .int .i64 (psum { data := #[115] } [] 9 k : Int) ∧ w3 = wr) (fun _ i _ => 9 - (intOf i).toNat)
  case atStart => exact ⟨0, by omega, rfl, rfl, rfl⟩
  case round =>
    obtain ⟨k, hk, rfl, rfl, hw⟩ := hrel
    have hw := hw.symm
    subst hw
    by_cases hlt : k < 9
    · have hck := C3.out k hlt
      have hsu := psum_succ { data := #[115] } [] 9 k
      have hz := placeS_lt { data := #[115] } [] (n := 9) (x := k) (by decide) hlt
      have hall := psum_all { data := #[115] } [] (n := 9) (by decide)
      obtain ⟨z, hzz⟩ : ∃ z, z = placeS { data := #[115] } [] 9 k := ⟨_, rfl⟩
      obtain ⟨q, hq⟩ : ∃ q, q = psum { data := #[115] } [] 9 k := ⟨_, rfl⟩
      have hq9 : q ≤ 9 * k := by
        rw [hq]
        clear hzz hz hsu hck hq hall C3
        induction k with
        | zero => simp [psum, Pm.sumN]
        | succ k ih =>
          have := ih (by omega) (by omega)
          have h1 := placeS_lt { data := #[115] } [] (n := 9) (x := k) (by decide) (by omega)
          rw [psum_succ]
          omega
      rw [← hzz] at hck hsu hz
      rw [← hq] at hsu
      rw [← hq]
      have HS := Lib.hid hsu
      have hkc : (k : Int) < 9 := by omega
      clear hsu hzz hq hall
      go_wp2_with fail
      go_roundw
      case rel => exact ⟨k + 1, by omega, by go_num, by rw [HS.out]; congr 1, trivial⟩
      case measure => simp [intOf]; omega
    · obtain rfl : k = 9 := by omega
      rw [psum_nine]
      have hxy : (x = 0 ∧ y = 1) ∨ (x = 1 ∧ y = 0) := by
        have h1 := S.out.1
        have h2 : x ≤ 1 := by omega
        omega
      clear hw S C3
      rcases hxy with ⟨rfl, rfl⟩ | ⟨rfl, rfl⟩
      · go_wp2_with fail
        go_quiet (fail)
        go_wp2_with fail
        go_ret
        exact ⟨rfl, below_drewN B3.out _⟩
      · go_wp2_with fail
        go_quiet (fail)
        go_wp2_with fail
        go_ret
        exact ⟨rfl, below_drewN B3.out _⟩
end Go.Proofs.YtcmepgjbplpnbaaDoor
end

