/- The contract of calendar.Parse. -/
import Derived.Test.YtkenfgifhebnpaaDoorCalPf
namespace Go.Proofs.YtkenfgifhebnpaaDoor
open Go.RowKit
set_option linter.unusedVariables false
set_option maxRecDepth 100000

set_option maxHeartbeats 4000000 in
theorem calParse_any (s : ByteArray) (w : World) (hD : CDoor w) : Calls Tryd.prog 22 #[.string s] w fun e w' => e = .returned (.tuple #[.int .i64 (readV (sb s)), .int .i64 (readE (sb s))]) ∧ Below w.heap.size w w' := by
  obtain ⟨RV, hRV⟩ : ∃ V, V = readV (sb s) := ⟨_, rfl⟩
  obtain ⟨RE, hRE⟩ : ∃ E, E = readE (sb s) := ⟨_, rfl⟩
  rw [← hRV, ← hRE]
  unfold readV at hRV
  unfold readE at hRE
  by_cases hs : s.size = 10
  · have a4 := sbAt s 4 (by omega)
    have a7 := sbAt s 7 (by omega)
    have hl : (sb s).length = 10 := by rw [sb_len]; exact hs
    rw [a4, a7, hl] at hRV hRE
    have s4 : (4 : Int) < s.size := by omega
    have s7 : (7 : Int) < s.size := by omega
    have n4 : 4 < s.size := by omega
    have n7 : 7 < s.size := by omega
    by_cases x4 : ((s[4]'(by omega)).toNat : Int) = 45
    · by_cases x7 : ((s[7]'(by omega)).toNat : Int) = 45
      · have e4 : s[4]'(by omega) = 45 := UInt8.toNat_inj.1 (by show _ = 45; omega)
        have e7 : s[7]'(by omega) = 45 := UInt8.toNat_inj.1 (by show _ = 45; omega)
        rw [if_pos ⟨rfl, e4, e7⟩] at hRV hRE
        obtain ⟨p1, hp1⟩ : ∃ p, p = s.extract 0 4 := ⟨_, rfl⟩
        obtain ⟨p2, hp2⟩ : ∃ p, p = s.extract 5 7 := ⟨_, rfl⟩
        obtain ⟨p3, hp3⟩ : ∃ p, p = s.extract 8 s.size := ⟨_, rfl⟩
        have q1 : sb p1 = (sb s).take 4 := by rw [hp1, ext_sb, sb_bs]; simp
        have q2 : sb p2 = ((sb s).drop 5).take 2 := by rw [hp2, ext_sb, sb_bs]
        have q3 : sb p3 = ((sb s).drop 8).take 2 := by rw [hp3, ext_sb, sb_bs, hs]
        rw [← q1, ← q2, ← q3] at hRV hRE
        have z1 : p1.size ≤ 12 := by rw [← sb_len, q1, List.length_take]; omega
        have z2 : p2.size ≤ 12 := by rw [← sb_len, q2, List.length_take]; omega
        have z3 : p3.size ≤ 12 := by rw [← sb_len, q3, List.length_take]; omega
        have hok := okD_numb (sb p1) (sb p2) (sb p3)
        have cn := fun (p : ByteArray) (W : World) (z : p.size ≤ 12) => calNumber_any p W z
        have hnI : ∀ p : ByteArray, p.size ≤ 12 → M.I64 (numb0 (sb p)) := fun p z => by
          unfold numb0 M.I64
          split
          · rename_i h
            have h1 := Rt.val10_lt _ h
            have h2 : (sb p).length ≤ 12 := by rw [sb_len]; exact z
            have h3 : 10 ^ (sb p).length ≤ 10 ^ 12 := Nat.pow_le_pow_right (by decide) h2
            omega
          · omega
        have i1 := hnI p1 z1
        have i2 := hnI p2 z2
        have i3 := hnI p3 z3
        obtain ⟨F, hF⟩ : ∃ F : ByteArray → Int, F = fun p => numb0 (sb p) := ⟨_, rfl⟩
        have f1 : numb0 (sb p1) = F p1 := by rw [hF]
        have f2 : numb0 (sb p2) = F p2 := by rw [hF]
        have f3 : numb0 (sb p3) = F p3 := by rw [hF]
        have cn : ∀ (p : ByteArray) (W : World), p.size ≤ 12 → Calls Tryd.prog 47 #[.string p] W fun e w' => e = .returned (.int .i64 (F p)) ∧ w' = W := by rw [hF]; exact cn
        obtain ⟨y0, hy0⟩ : ∃ y, y = numb (sb p1) := ⟨_, rfl⟩
        obtain ⟨m0, hm0⟩ : ∃ y, y = numb (sb p2) := ⟨_, rfl⟩
        obtain ⟨d0, hd0⟩ : ∃ y, y = numb (sb p3) := ⟨_, rfl⟩
        rw [← hy0, ← hm0, ← hd0] at hRV hRE
        rw [← hy0, ← hm0, ← hd0, f1, f2, f3] at hok
        rw [f1] at i1
        rw [f2] at i2
        rw [f3] at i3
        clear hy0 hm0 hd0 hnI hF f1 f2 f3
        have r1 : ∀ W : World, (Instr.sliceAt 9 (.string s) none (some (.int .i64 4)) none).run Tryd.prog W = .ok (.string p1) W := by
          intro W; rw [hp1]
          have h1 : (4 : Int) ≤ s.size := by omega
          go_simp
        have r2 : ∀ W : World, (Instr.sliceAt 9 (.string s) (some (.int .i64 5)) (some (.int .i64 7)) none).run Tryd.prog W = .ok (.string p2) W := by
          intro W; rw [hp2]
          have h1 : (7 : Int) ≤ s.size := by omega
          go_simp
        have r3 : ∀ W : World, (Instr.sliceAt 9 (.string s) (some (.int .i64 8)) none none).run Tryd.prog W = .ok (.string p3) W := by
          intro W; rw [hp3]
          have h1 : (8 : Int) ≤ s.size := by omega
          go_simp
        have cd := fun W h => calDay_any (F p1) (F p2) (F p3) W i1 i2 i3 h
        obtain ⟨V, hV⟩ : ∃ V, V = Cal.dayV (F p1) (F p2) (F p3) := ⟨_, rfl⟩
        obtain ⟨E, hE⟩ : ∃ E, E = Cal.dayE (F p1) (F p2) (F p3) := ⟨_, rfl⟩
        simp only [← hV, ← hE] at cd
        have hres : (E = 0 ∧ RV = V ∧ RE = 0) ∨ (E = 5 ∧ RV = 0 ∧ RE = 2) := by
          by_cases ho : Cal.okD (F p1) (F p2) (F p3)
          · have ho2 := hok.1.2 ho
            rw [if_pos ho2] at hRV hRE
            obtain ⟨x1, x2, x3⟩ := hok.2 ho2
            rw [x1, x2, x3] at hRV
            exact .inl ⟨by rw [hE]; exact if_pos ho, by rw [hRV, hV], hRE⟩
          · have ho2 : ¬ Cal.okD y0 m0 d0 := fun h => ho (hok.1.1 h)
            rw [if_neg ho2] at hRV hRE
            exact .inr ⟨by rw [hE]; exact if_neg ho, hRV, hRE⟩
        have HP := Lib.hid (And.intro r1 (And.intro r2 r3))
        have CN := Lib.hid cn
        have HZ := Lib.hid (And.intro z1 (And.intro z2 z3))
        have CD := Lib.hid cd
        have HR := Lib.hid hres
        have HD := Lib.hid hD
        clear hres cd cn hV hE hRV hRE hp1 hp2 hp3 q1 q2 q3 z1 z2 z3 e4 e7 a4 a7 hl hok i1 i2 i3 hD
        clear r1 r2 r3
        go_enter Tryd.func22, Tryd.ntmps22
        go_wp2_with fail
        have r1 := HP.out.1
        have r2 := HP.out.2.1
        have r3 := HP.out.2.2
        refine wp_region_below w.heap.size (by kernel_rfl) (by kernel_rfl) ?_
        repeat (go_big_quiet_step (first
          | exact (CN.out _ _ (by first | exact HZ.out.1 | exact HZ.out.2.1 | exact HZ.out.2.2)).mono fun e w' h => ⟨h.1, _, h.2⟩
          | exact (CD.out _ (HD.out.below (BelT.out _) (Nat.le_refl _))).mono fun e w' h => ⟨h.1, BelT.of ((BelT.out _).trans (h.2.mono (BelT.out _).size))⟩))
        refine wpQuiet_nil ?_
        intro w' hw'
        obtain ⟨q, rfl⟩ := hw'
        have HB := Lib.hid q.out
        clear r1 r2 r3 HP CN CD HD HZ
        try go_frame
        rcases HR.out with ⟨rfl, rfl, rfl⟩ | ⟨rfl, rfl, rfl⟩
        · go_wp2_with fail
          go_ret2
          exact ⟨rfl, HB.out⟩
        · go_wp2_with fail
          go_ret2
          exact ⟨rfl, HB.out⟩
      · have e7 : ¬ s[7]'(by omega) = 45 := fun h => x7 (by rw [h]; rfl)
        rw [if_neg (fun h => e7 h.2.2)] at hRV hRE
        subst hRV hRE
        clear a4 a7 hl e7 hD
        have b7 : ¬ (s[7]'(by omega)).toNat = 45 := by omega
        go_enter Tryd.func22, Tryd.ntmps22
        go_wp2_with fail
        go_ret2
        exact ⟨rfl, Below.refl _ _⟩
    · have e4 : ¬ s[4]'(by omega) = 45 := fun h => x4 (by rw [h]; rfl)
      rw [if_neg (fun h => e4 h.2.1)] at hRV hRE
      subst hRV hRE
      clear a4 a7 hl e4 hD
      have b4 : ¬ (s[4]'(by omega)).toNat = 45 := by omega
      go_enter Tryd.func22, Tryd.ntmps22
      go_wp2_with fail
      go_ret2
      exact ⟨rfl, Below.refl _ _⟩
  · rw [if_neg (fun h => hs (by rw [← sb_len]; exact h.1))] at hRV hRE
    subst hRV hRE
    clear hD
    have hi : ¬ (s.size : Int) = 10 := by omega
    go_enter Tryd.func22, Tryd.ntmps22
    go_wp2_with fail
    go_ret2
    exact ⟨rfl, Below.refl _ _⟩
end Go.Proofs.YtkenfgifhebnpaaDoor
