/- The walk of the statement CalendarDays. -/
import Derived.Test.YtkenfgifhebnpaaDoorCalL1
import Derived.Test.YtkenfgifhebnpaaDoorCalRl
namespace Go.Proofs.YtkenfgifhebnpaaDoor
open Go.RowKit
set_option linter.unusedVariables false
set_option maxRecDepth 100000

set_option maxHeartbeats 8000000 in
theorem calDays_walk (n day y m d : Int) (w : World) (hn : M.I64 n) (hday : M.I64 day) (hy : M.I64 y) (hm : M.I64 m) (hd : M.I64 d) (hD : CDoor w) :
    Calls Tryd.prog 3 #[.int .i64 n, .int .i64 day, .int .i64 y, .int .i64 m, .int .i64 d] w (Tells true w) := by
  have cS := some_any n w hn
  have hS := someD_known n
  obtain ⟨x0, hx0⟩ : ∃ x, x = someD n := ⟨_, rfl⟩
  rw [← hx0] at cS hS
  have hxI : M.I64 x0 := by unfold M.I64; unfold Cal.known at hS; omega
  have HD := Lib.hid hD
  have CS := Lib.hid cS
  have HI := Lib.hid (And.intro hxI (And.intro hday (And.intro hy (And.intro hm hd))))
  clear cS hS hx0 hxI hn hday hy hm hd hD
  go_enter Tryd.func3, Tryd.ntmps3
  go_wp2_with fail
  refine CS.out.mono ?_
  rintro e w1 ⟨rfl, hb1⟩
  have B1 := Lib.hid hb1
  clear hb1 CS
  go_wp2_with fail
  obtain ⟨W1, hW1⟩ : ∃ W1, W1 = w1.alloc (.cells #[.int .i64 x0, .int .i64 day, .int .i64 (-146098), .int .i64 146097] 3) := ⟨_, rfl⟩
  have hk1 : Blk W1 w1.heap.size [.int .i64 x0, .int .i64 day, .int .i64 (-146098), .int .i64 146097] 3 := by rw [hW1]; exact Blk.new w1 _ _
  have hb1 : Below w.heap.size w W1 := by rw [hW1]; exact B1.out.alloc B1.out.size _
  have K1 := Lib.hid (And.intro hk1 hb1)
  rw [← hW1]
  clear hk1 hb1 hW1 B1
  go_loopw [12, 13, 14, 15, 16, 17, 18] (fun i a b c p q r wr => ∃ k : Nat, k ≤ 4 ∧ i = .int .i64 k ∧ Below W1.heap.size W1 wr) (fun i _ _ _ _ _ _ _ => 4 - (intOf i).toNat)
  case atStart => exact ⟨0, by omega, rfl, Below.refl _ _⟩
  case round =>
    obtain ⟨k, hk, rfl, hb⟩ := hrel
    obtain ⟨wo, rfl⟩ : ∃ wo : World, wo = wr := ⟨_, rfl⟩
    by_cases hlt : k < 4
    · obtain ⟨z, hz, hzI⟩ : ∃ z : Int, [Value.int .i64 x0, .int .i64 day, .int .i64 (-146098), .int .i64 146097][k]? = some (.int .i64 z) ∧ M.I64 z := by
        match k, hlt with
        | 0, _ => exact ⟨_, rfl, HI.out.1⟩
        | 1, _ => exact ⟨_, rfl, HI.out.2.1⟩
        | 2, _ => exact ⟨_, rfl, small64 _ (by decide) (by decide)⟩
        | 3, _ => exact ⟨_, rfl, small64 _ (by decide) (by decide)⟩
      have hk4 : (k : Int) < 4 := by omega
      have c0 := (K1.out.1.below hb K1.out.1.lt).cell k _ hz
      have cC := calCivil_any z wo hzI (HD.out.below (K1.out.2.trans (hb.mono K1.out.2.size)) (Nat.le_refl _))
      have rC := fun W => refCivil_any z W
      have cW := fun W => calWeekday_any z W hzI
      have rW := fun W => refWeekday_any z W
      have cT := fun W h => calText_any z W hzI h
      have rT := fun W => refText_any z W
      obtain ⟨a, ha⟩ : ∃ a, a = Cal.cy z := ⟨_, rfl⟩
      obtain ⟨b, hb'⟩ : ∃ a, a = Cal.cm z := ⟨_, rfl⟩
      obtain ⟨c, hc'⟩ : ∃ a, a = Cal.cd z := ⟨_, rfl⟩
      obtain ⟨v, hv⟩ : ∃ a, a = Cal.wk z := ⟨_, rfl⟩
      obtain ⟨s, hs⟩ : ∃ a, a = bs (dtext z) := ⟨_, rfl⟩
      rw [← ha, ← hb', ← hc'] at cC
      simp only [← ha, ← hb', ← hc'] at rC
      simp only [← hv] at cW rW
      simp only [← hs] at cT rT
      have CC := Lib.hid cC
      have RC := Lib.hid rC
      have CW := Lib.hid cW
      have RW := Lib.hid rW
      have CT := Lib.hid cT
      have RT := Lib.hid rT
      have HB := Lib.hid (And.intro hb hz)
      have HK := Lib.hid hlt
      clear ha hb' hc' hv hs cC rC cW rW cT rT hb hz hzI
      go_wp2_with fail
      refine CC.out.mono ?_
      rintro e w2 ⟨rfl, hb2⟩
      have hB2 := HB.out.1.trans (hb2.mono HB.out.1.size)
      have c2 := (K1.out.1.below hB2 K1.out.1.lt).cell k _ HB.out.2
      have B2 := Lib.hid hB2
      have D2 := Lib.hid (HD.out.below (K1.out.2.trans (hB2.mono K1.out.2.size)) (Nat.le_refl _))
      clear hb2 hB2 c0 CC
      go_wp2_with fail
      refine (RC.out _).mono ?_
      rintro e w3 ⟨rfl, rfl⟩
      clear RC
      go_wp2_with fail
      have cQ : ∀ q : BelT w3.heap.size w3, q.at.cell? ⟨w1.heap.size, k, none⟩ = some (.int .i64 z) := fun q => ((K1.out.1.below B2.out K1.out.1.lt).below q.out (Nat.lt_of_lt_of_le K1.out.1.lt B2.out.size)).cell k _ HB.out.2
      clear c2
      refine wp_region_below w3.heap.size (by kernel_rfl) (by kernel_rfl) ?_
      repeat (go_big_quiet_step (first
        | exact (CW.out _).mono fun e w' h => ⟨h.1, BelT.of ((BelT.out _).trans (h.2.mono (BelT.out _).size))⟩
        | exact (RW.out _).mono fun e w' h => ⟨h.1, _, h.2⟩
        | exact (CT.out _ (D2.out.below (BelT.out _) (Nat.le_refl _))).mono fun e w' h => ⟨h.1, BelT.of ((BelT.out _).trans (h.2.mono (BelT.out _).size))⟩
        | exact (RT.out _).mono fun e w' h => ⟨h.1, BelT.of ((BelT.out _).trans (h.2.mono (BelT.out _).size))⟩))
      refine wpQuiet_nil ?_
      intro w' hw'
      obtain ⟨q, rfl⟩ := hw'
      have hb4 := B2.out.trans (q.out.mono B2.out.size)
      have B4 := Lib.hid hb4
      have HK2 := HK.out
      clear cQ hb4 CW RW CT RT
      go_wp2_with fail
      exact ⟨⟨k + 1, by omega, by go_num, B4.out⟩, by simp [intOf]; omega⟩
    · obtain rfl : k = 4 := by omega
      have B2 := Lib.hid (K1.out.2.trans (hb.mono K1.out.2.size))
      have cy := fun W => around_any y 800 W HI.out.2.2.1 (small64 _ (by decide) (by decide))
      have cm := fun W => around_any m 14 W HI.out.2.2.2.1 (small64 _ (by decide) (by decide))
      have cd := fun W => around_any d 33 W HI.out.2.2.2.2 (small64 _ (by decide) (by decide))
      have ly := around_lt y 800 (by decide)
      have lm := around_lt m 14 (by decide)
      have ld := around_lt d 33 (by decide)
      obtain ⟨ya, hya⟩ : ∃ x, x = around y 800 := ⟨_, rfl⟩
      obtain ⟨ma, hma⟩ : ∃ x, x = around m 14 := ⟨_, rfl⟩
      obtain ⟨da, hda⟩ : ∃ x, x = around d 33 := ⟨_, rfl⟩
      rw [← hya] at ly
      rw [← hma] at lm
      rw [← hda] at ld
      simp only [← hya] at cy
      simp only [← hma] at cm
      simp only [← hda] at cd
      obtain ⟨ly1, ly2⟩ := ly
      have CY := Lib.hid cy
      have CM := Lib.hid cm
      have CD := Lib.hid cd
      have HL := Lib.hid (And.intro lm ld)
      clear cy cm cd hya hma hda lm ld hb hk hlt K1
      go_wp2_with fail
      refine (CY.out _).mono ?_
      rintro e w2 ⟨rfl, rfl⟩
      go_wp2_with fail
      refine (CM.out _).mono ?_
      rintro e w3 ⟨rfl, rfl⟩
      go_wp2_with fail
      refine (CD.out _).mono ?_
      rintro e w4 ⟨rfl, rfl⟩
      go_wp2_with fail
      obtain ⟨W2, hW2⟩ : ∃ W2, W2 = ((w2.alloc (.cells #[.int .i64 y, .int .i64 (1600 + ya), .int .i64 1599, .int .i64 2400] 3)).alloc (.cells #[.int .i64 m, .int .i64 ma] 3)).alloc (.cells #[.int .i64 d, .int .i64 da] 3) := ⟨_, rfl⟩
      have k0 := (((Blk.new w2 [.int .i64 y, .int .i64 (1600 + ya), .int .i64 1599, .int .i64 2400] 3).alloc (.cells #[.int .i64 m, .int .i64 ma] 3))).alloc (.cells #[.int .i64 d, .int .i64 da] 3)
      have k1 := (Blk.new (w2.alloc (.cells #[.int .i64 y, .int .i64 (1600 + ya), .int .i64 1599, .int .i64 2400] 3)) [.int .i64 m, .int .i64 ma] 3).alloc (.cells #[.int .i64 d, .int .i64 da] 3)
      have k2 := Blk.new ((w2.alloc (.cells #[.int .i64 y, .int .i64 (1600 + ya), .int .i64 1599, .int .i64 2400] 3)).alloc (.cells #[.int .i64 m, .int .i64 ma] 3)) [.int .i64 d, .int .i64 da] 3
      simp only [World.size_alloc] at k1 k2
      have hb2 : Below w.heap.size w W2 := by rw [hW2]; exact ((B2.out.alloc B2.out.size _).alloc (Nat.le_trans B2.out.size (by simp)) _).alloc (Nat.le_trans B2.out.size (by simp; omega)) _
      have k0 : Blk W2 w2.heap.size [.int .i64 y, .int .i64 (1600 + ya), .int .i64 1599, .int .i64 2400] 3 := by rw [hW2]; exact k0
      have k1 : Blk W2 (w2.heap.size + 1) [.int .i64 m, .int .i64 ma] 3 := by rw [hW2]; exact k1
      have k2 : Blk W2 (w2.heap.size + 1 + 1) [.int .i64 d, .int .i64 da] 3 := by rw [hW2]; exact k2
      have K := Lib.hid (And.intro k0 (And.intro k1 (And.intro k2 hb2)))
      rw [← hW2]
      clear k0 k1 k2 hb2 hW2 B2
      go_loopw [22, 23, 24, 25, 26, 27] (fun i j a b c e wr => ∃ k : Nat, k ≤ 4 ∧ i = .int .i64 k ∧ Below W2.heap.size W2 wr) (fun i _ _ _ _ _ _ => 4 - (intOf i).toNat)
      case atStart => exact ⟨0, by omega, rfl, Below.refl _ _⟩
      case round =>
        obtain ⟨k, hk, rfl, hb⟩ := hrel
        obtain ⟨wo, rfl⟩ : ∃ wo : World, wo = wr := ⟨_, rfl⟩
        by_cases hlt : k < 4
        · obtain ⟨z, hz, hzI⟩ : ∃ z : Int, [Value.int .i64 y, .int .i64 (1600 + ya), .int .i64 1599, .int .i64 2400][k]? = some (.int .i64 z) ∧ M.I64 z := by
            match k, hlt with
            | 0, _ => exact ⟨_, rfl, HI.out.2.2.1⟩
            | 1, _ => exact ⟨_, rfl, small64 _ (by omega) (by omega)⟩
            | 2, _ => exact ⟨_, rfl, small64 _ (by decide) (by decide)⟩
            | 3, _ => exact ⟨_, rfl, small64 _ (by decide) (by decide)⟩
          have hk4 : (k : Int) < 4 := by omega
          have HZ := Lib.hid (And.intro hz (And.intro hzI hlt))
          have HB := Lib.hid hb
          clear hz hzI hb hlt
          go_wp2_with fail
          go_loopw [23, 24, 25, 26, 27] (fun j a b c e wr => ∃ t : Nat, t ≤ 4 ∧ j = .int .i64 t ∧ Below W2.heap.size W2 wr) (fun j _ _ _ _ _ => 4 - (intOf j).toNat)
          case atStart => exact ⟨0, by omega, rfl, HB.out⟩
          case round =>
            obtain ⟨t, ht, rfl, hb⟩ := hrel
            obtain ⟨wi, rfl⟩ : ∃ wi : World, wi = wr := ⟨_, rfl⟩
            by_cases hlt : t < 4
            · obtain ⟨tq, htq⟩ : ∃ q, q = t / 2 := ⟨_, rfl⟩
              obtain ⟨tr, htr⟩ : ∃ q, q = t % 2 := ⟨_, rfl⟩
              have hq : (t : Int).tdiv 2 = (tq : Int) := by rw [Int.tdiv_eq_ediv_of_nonneg (by omega)]; omega
              have hr : (t : Int).tmod 2 = (tr : Int) := by rw [Int.tmod_eq_emod_of_nonneg (by omega)]; omega
              obtain ⟨u, hu, huI⟩ : ∃ u : Int, [Value.int .i64 m, .int .i64 ma][tq]? = some (.int .i64 u) ∧ M.I64 u := by
                have h2 : tq < 2 := by omega
                match tq, h2 with
                | 0, _ => exact ⟨_, rfl, HI.out.2.2.2.1⟩
                | 1, _ => exact ⟨_, rfl, small64 _ (by have := HL.out.1; omega) (by have := HL.out.1; omega)⟩
              obtain ⟨v, hv, hvI⟩ : ∃ u : Int, [Value.int .i64 d, .int .i64 da][tr]? = some (.int .i64 u) ∧ M.I64 u := by
                have h2 : tr < 2 := by omega
                match tr, h2 with
                | 0, _ => exact ⟨_, rfl, HI.out.2.2.2.2⟩
                | 1, _ => exact ⟨_, rfl, small64 _ (by have := HL.out.2; omega) (by have := HL.out.2; omega)⟩
              have ht4 : (t : Int) < 4 := by omega
              have htq2 : (tq : Int) < 2 := by omega
              have htr2 : (tr : Int) < 2 := by omega
              have P : ∀ V : World, Below W2.heap.size W2 V → ∀ q : BelT V.heap.size V, q.at.cell? ⟨w2.heap.size, k, none⟩ = some (.int .i64 z) ∧ q.at.cell? ⟨w2.heap.size + 1, tq, none⟩ = some (.int .i64 u) ∧ q.at.cell? ⟨w2.heap.size + 1 + 1, tr, none⟩ = some (.int .i64 v) := fun V hV q =>
                ⟨((K.out.1.below hV K.out.1.lt).below q.out (Nat.lt_of_lt_of_le K.out.1.lt hV.size)).cell k _ HZ.out.1, ((K.out.2.1.below hV K.out.2.1.lt).below q.out (Nat.lt_of_lt_of_le K.out.2.1.lt hV.size)).cell tq _ hu, ((K.out.2.2.1.below hV K.out.2.2.1.lt).below q.out (Nat.lt_of_lt_of_le K.out.2.2.1.lt hV.size)).cell tr _ hv⟩
              have q0 := fun q => (P wi hb q).1
              have q1 := fun q => (P wi hb q).2.1
              have q2 := fun q => (P wi hb q).2.2
              have HP := Lib.hid P
              have cD := fun W h => calDay_any z u v W HZ.out.2.1 huI hvI h
              have D3 := Lib.hid (HD.out.below (K.out.2.2.2.trans (hb.mono K.out.2.2.2.size)) (Nat.le_refl _))
              have rD := fun W => refDay_any z u v W
              obtain ⟨dv, hdv⟩ : ∃ a, a = Cal.dayV z u v := ⟨_, rfl⟩
              obtain ⟨de, hde⟩ : ∃ a, a = Cal.dayE z u v := ⟨_, rfl⟩
              simp only [← hdv, ← hde] at cD rD
              have CD := Lib.hid cD
              have RD := Lib.hid rD
              have HB2 := Lib.hid hb
              have HT := Lib.hid hlt
              clear P hu huI hv hvI cD rD hdv hde hb htq htr hlt
              go_wp2_with fail
              refine wp_region_below wi.heap.size (by kernel_rfl) (by kernel_rfl) ?_
              repeat (go_big_quiet_step (exact (CD.out _ (D3.out.below (BelT.out _) (Nat.le_refl _))).mono fun e w' h => ⟨h.1, BelT.of ((BelT.out _).trans (h.2.mono (BelT.out _).size))⟩))
              refine wpQuiet_nil ?_
              intro w' hw'
              obtain ⟨q, rfl⟩ := hw'
              have hb5 := HB2.out.trans (q.out.mono HB2.out.size)
              obtain ⟨w5, hw5⟩ : ∃ w5, w5 = q.at := ⟨_, rfl⟩
              rw [← hw5] at hb5
              rw [← hw5]
              have p0 := fun q => (HP.out w5 hb5 q).1
              have p1 := fun q => (HP.out w5 hb5 q).2.1
              have p2 := fun q => (HP.out w5 hb5 q).2.2
              have HB5 := Lib.hid hb5
              clear hw5 q0 q1 q2 hb5 HB2 CD
              go_wp2_with fail
              refine wp_region_below w5.heap.size (by kernel_rfl) (by kernel_rfl) ?_
              repeat (go_big_quiet_step (exact (RD.out _).mono fun e w' h => ⟨h.1, _, h.2⟩))
              refine wpQuiet_nil ?_
              intro w' hw'
              obtain ⟨q, rfl⟩ := hw'
              have HB6 := Lib.hid (HB5.out.trans (q.out.mono HB5.out.size))
              have HT2 := HT.out
              clear p0 p1 p2 HB5 RD
              go_wp2_with fail
              exact ⟨⟨t + 1, by omega, by go_num, HB6.out⟩, by simp [intOf]; omega⟩
            · obtain rfl : t = 4 := by omega
              have HT := Lib.hid hb
              have HZ2 := HZ.out.2.2
              clear hb
              go_wp2_with fail
              go_roundw
              case rel => exact ⟨k + 1, by omega, by go_num, HT.out⟩
              case measure => simp [intOf]; omega
        · obtain rfl : k = 4 := by omega
          have HB := Lib.hid (K.out.2.2.2.trans (hb.mono K.out.2.2.2.size))
          clear hb
          go_wp2_with fail
          refine (calLives_any _ (HD.out.below HB.out (Nat.le_refl _))).mono ?_
          rintro e w9 ⟨rfl, hb9⟩
          have HB9 := Lib.hid (HB.out.trans (hb9.mono HB.out.size))
          clear hb9 HB
          go_wp2_with fail
          go_ret
          exact ⟨rfl, HB9.out⟩
end Go.Proofs.YtkenfgifhebnpaaDoor
