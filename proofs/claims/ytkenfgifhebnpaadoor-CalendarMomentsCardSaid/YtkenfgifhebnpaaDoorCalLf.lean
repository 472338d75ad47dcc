/- The walk of the statement CalendarMoments. -/
import Derived.Test.YtkenfgifhebnpaaDoorCalL1
import Derived.Test.YtkenfgifhebnpaaDoorCalRl
import Derived.Test.YtkenfgifhebnpaaDoorCalMm
import Derived.Test.YtkenfgifhebnpaaDoorCalNx
namespace Go.Proofs.YtkenfgifhebnpaaDoor
open Go.RowKit
set_option linter.unusedVariables false
set_option maxRecDepth 100000

set_option maxHeartbeats 8000000 in
theorem calMoments_walk (n minute : Int) (A : Option Addr) (cap : Nat) (l : List Int) (w : World) (hn : M.I64 n) (hmi : M.I64 minute)
    (hr : Rd w w.heap.size A (l.map iv)) (hI : ∀ n ∈ l, M.I64 n) (hl : l.length ≤ 9223372036854775807) (hD : CDoor w) :
    Calls Tryd.prog 8 #[.int .i64 n, .slice A l.length cap, .int .i64 minute] w (Tells true w) := by
  have HD := Lib.hid hD
  clear hD
  have cS := fun W => some_any n W hn
  have hS := someD_known n
  obtain ⟨day, hday⟩ : ∃ x, x = someD n := ⟨_, rfl⟩
  simp only [← hday] at cS hS
  have hS1 : -146097 ≤ day := hS.1
  have hS2 : day ≤ 146096 := hS.2
  have cZ := zones_any A cap l w hr hI hl
  have hp := zone_proper l
  have cN := fun W (hb : Below w.heap.size w W) => atN_any A cap l 4 3 W ((hr.below hb).more hb.size) hI (small64 _ (by decide) (by decide)) hl
  have lN := atN_lt l 4 3 (by decide)
  obtain ⟨near, hnear⟩ : ∃ x, x = atN l 4 3 := ⟨_, rfl⟩
  simp only [← hnear] at cN lN
  obtain ⟨lN1, lN2⟩ := lN
  obtain ⟨zo, hzo⟩ : ∃ x, x = zO l := ⟨_, rfl⟩
  obtain ⟨zs, hzs⟩ : ∃ x, x = zS l := ⟨_, rfl⟩
  obtain ⟨zf, hzf⟩ : ∃ x, x = zF l := ⟨_, rfl⟩
  obtain ⟨zt, hzt⟩ : ∃ x, x = zT l := ⟨_, rfl⟩
  simp only [← hzo, ← hzs, ← hzf, ← hzt] at cZ hp
  obtain ⟨N, hN⟩ : ∃ N, N = l.length := ⟨_, rfl⟩
  rw [← hN] at cZ
  simp only [← hN] at cN
  rw [← hN]
  have cA := fun W => around_any minute 1440 W hmi (small64 _ (by decide) (by decide))
  have lA := around_lt minute 1440 (by decide)
  have cB := fun W => around_any minute 240 W hmi (small64 _ (by decide) (by decide))
  have lB := around_lt minute 240 (by decide)
  obtain ⟨wa, hwa⟩ : ∃ x, x = around minute 1440 := ⟨_, rfl⟩
  obtain ⟨wb, hwb⟩ : ∃ x, x = around minute 240 := ⟨_, rfl⟩
  simp only [← hwa] at cA lA
  simp only [← hwb] at cB lB
  obtain ⟨lA1, lA2⟩ := lA
  obtain ⟨lB1, lB2⟩ := lB
  have hdi := date_in hS
  have cC := fun W => refCivil_any day W
  have hjk := (Cal.okD_civ (y := Cal.cy day) (m := 1) (d := 1) ⟨by omega, by omega, by omega, by omega, by omega, by have := Cal.md_pos (Cal.cy day).toNat (1 : Int).toNat; omega⟩).2
  have cJ := fun W => refDay_any (Cal.cy day) 1 1 W
  obtain ⟨jan, hjan⟩ : ∃ x, x = Cal.dayV (Cal.cy day) 1 1 := ⟨_, rfl⟩
  obtain ⟨je, hje⟩ : ∃ x, x = Cal.dayE (Cal.cy day) 1 1 := ⟨_, rfl⟩
  obtain ⟨yy, hyy⟩ : ∃ x, x = Cal.cy day := ⟨_, rfl⟩
  obtain ⟨mm, hmm⟩ : ∃ x, x = Cal.cm day := ⟨_, rfl⟩
  obtain ⟨dd, hdd⟩ : ∃ x, x = Cal.cd day := ⟨_, rfl⟩
  rw [← hjan] at hjk
  simp only [← hjan, ← hje] at cJ
  simp only [← hyy] at cJ
  simp only [← hyy, ← hmm, ← hdd] at cC
  have hj1 : -146097 ≤ jan := hjk.1
  have hj2 : jan ≤ 146096 := hjk.2
  obtain ⟨hp1, hp2, hp3, hp4, hp5⟩ := id hp
  have CS := Lib.hid cS
  have CZ := Lib.hid cZ
  have CN := Lib.hid cN
  have CA := Lib.hid cA
  have CB := Lib.hid cB
  have CC := Lib.hid cC
  have CJ := Lib.hid cJ
  have HP := Lib.hid hp
  clear cS cZ cN cA cB cC cJ hp hdi hjk hday hS hzo hzs hzf hzt hN hwa hwb hnear hjan hje hyy hmm hdd hn hmi hr hI hl
  go_enter Tryd.func8, Tryd.ntmps8
  go_wp2_with fail
  refine CZ.out.mono ?_
  rintro e w1 ⟨rfl, hb1⟩
  have B1 := Lib.hid hb1
  clear hb1 CZ
  go_wp2_with fail
  refine (own_any zo zs zf zt _).mono ?_
  rintro e w2 ⟨rfl, hb2⟩
  have B2 := Lib.hid (B1.out.trans (hb2.mono B1.out.size))
  clear hb2 B1
  go_wp2_with fail
  obtain ⟨W2, hW2⟩ : ∃ W2, W2 = w2.alloc (.cells #[.int .i64 zo, .int .i64 zs, .int .i64 zf, .int .i64 zt] 39) := ⟨_, rfl⟩
  have hz : Blk W2 w2.heap.size [.int .i64 zo, .int .i64 zs, .int .i64 zf, .int .i64 zt] 39 := by rw [hW2]; exact Blk.new w2 _ _
  have hb2 : Below w.heap.size w W2 := by rw [hW2]; exact B2.out.alloc B2.out.size _
  rw [← hW2]
  have K2 := Lib.hid (And.intro hz hb2)
  clear hz hb2 hW2 B2
  refine (CS.out _).mono ?_
  rintro e w3 ⟨rfl, hb3⟩
  have K3 := Lib.hid (And.intro (K2.out.1.below hb3 K2.out.1.lt) (K2.out.2.trans (hb3.mono K2.out.2.size)))
  clear hb3 K2
  go_wp2_with fail
  refine (CA.out _).mono ?_
  rintro e w4 ⟨rfl, rfl⟩
  go_wp2_with fail
  refine (CN.out _ K3.out.2).mono ?_
  rintro e w5 ⟨rfl, rfl⟩
  go_upto_if 37 with fail
  go_cut [8, 10, 11, 12, 13, 14, 15, 37] from 38 to 70 (fun a b c d e f g h wx => ∃ mo : Int, a = .int .i64 mo ∧ -300000000 ≤ mo ∧ mo ≤ 300000000 ∧ Blk wx w2.heap.size [.int .i64 zo, .int .i64 zs, .int .i64 zf, .int .i64 zt] 39 ∧ Below w.heap.size w wx)
  case first =>
    by_cases hn0 : 0 < near
    · go_wp2_with fail
      refine (CS.out _).mono ?_
      rintro e w6 ⟨rfl, hb6⟩
      have K6 := Lib.hid (And.intro (K3.out.1.below hb6 K3.out.1.lt) (K3.out.2.trans (hb6.mono K3.out.2.size)))
      clear hb6 K3 CS
      go_wp2_with fail
      refine (CC.out _).mono ?_
      rintro e w7 ⟨rfl, rfl⟩
      go_wp2_with fail
      refine (CJ.out _).mono ?_
      rintro e w8 ⟨rfl, rfl⟩
      clear CC CJ
      have c0 := K6.out.1.cell 0 _ rfl
      have c2 := K6.out.1.cell 2 _ rfl
      have c3 := K6.out.1.cell 3 _ rfl
      have q0 : ∀ q : BelT w8.heap.size w8, q.at.cell? ⟨w2.heap.size, 0, none⟩ = some (.int .i64 zo) := fun q => (K6.out.1.below q.out K6.out.1.lt).cell 0 _ rfl
      by_cases hn2 : near = 2
      · have hn2i : ((near : Int) == 2) = true := by simp [hn2]
        clear hn2
        go_wp2_with fail
        refine wp_region_below w8.heap.size (by kernel_rfl) (by kernel_rfl) ?_
        repeat (go_big_quiet_step (exact (CB.out _).mono fun e w' h => ⟨h.1, _, h.2⟩))
        refine wpQuiet_nil ?_
        intro w' hw'
        obtain ⟨q, rfl⟩ := hw'
        have K9 := Lib.hid (And.intro (K6.out.1.below q.out K6.out.1.lt) (K6.out.2.trans (q.out.mono K6.out.2.size)))
        clear c0 c2 c3 q0 K6
        go_wp2_with fail
        go_meet
        case rel => exact ⟨_, rfl, by omega, by omega, K9.out.1, K9.out.2⟩
      · have hn2i : ((near : Int) == 2) = false := by simp [hn2]
        clear hn2
        go_wp2_with fail
        refine wp_region_below w8.heap.size (by kernel_rfl) (by kernel_rfl) ?_
        repeat (go_big_quiet_step (exact (CB.out _).mono fun e w' h => ⟨h.1, _, h.2⟩))
        refine wpQuiet_nil ?_
        intro w' hw'
        obtain ⟨q, rfl⟩ := hw'
        have K9 := Lib.hid (And.intro (K6.out.1.below q.out K6.out.1.lt) (K6.out.2.trans (q.out.mono K6.out.2.size)))
        clear c0 c2 c3 q0 K6
        go_wp2_with fail
        go_meet
        case rel => exact ⟨_, rfl, by omega, by omega, K9.out.1, K9.out.2⟩
    · go_wp2_with fail
      go_meet
      case rel => exact ⟨_, rfl, by omega, by omega, K3.out.1, K3.out.2⟩
  case rest =>
    obtain ⟨mo, rfl, hm1, hm2, hz, hbx⟩ := hcut
    have K := Lib.hid (And.intro hz hbx)
    clear hz hbx K3 CS CB CC CJ CA CN
    have z0 := K.out.1.cell 0 _ rfl
    have z1 := K.out.1.cell 1 _ rfl
    have z2 := K.out.1.cell 2 _ rfl
    have z3 := K.out.1.cell 3 _ rfl
    have fin : ∀ W : World, Below w.heap.size w W → Calls Tryd.prog 20 #[] W fun e w' => e = .returned (.bool true) ∧ Below w.heap.size w w' := fun W hb => (calLives_any W (HD.out.below hb (Nat.le_refl _))).mono fun e w' h => ⟨h.1, hb.trans (h.2.mono hb.size)⟩
    have FIN := Lib.hid fin
    clear fin
    have J : ∀ z : Int, -400000000 ≤ z → z ≤ 400000000 → M.I64 z := fun z h1 h2 => by unfold M.I64; omega
    have cL := fun W => calLocal_any mo zo zs zf zt W (J _ (by omega) (by omega)) (J _ (by omega) (by omega)) (J _ (by omega) (by omega)) (J _ (by omega) (by omega)) (J _ (by omega) (by omega))
    have cL2 := fun W => calLocal_any (mo + 1) zo zs zf zt W (J _ (by omega) (by omega)) (J _ (by omega) (by omega)) (J _ (by omega) (by omega)) (J _ (by omega) (by omega)) (J _ (by omega) (by omega))
    have h5 := localE_five (m := mo) HP.out
    have h6 := localE_five (m := mo + 1) HP.out
    have lp := fun h => local_parts (m := mo) (o := zo) (s := zs) (f := zf) (t := zt) h
    have lp2 := fun h => local_parts (m := mo + 1) (o := zo) (s := zs) (f := zf) (t := zt) h
    have ms := fun h => mom_shape (m := mo) HP.out h
    have nx := fun h h' => local_next (m := mo) (o := zo) (s := zs) (f := zf) (t := zt) h h'
    have cM := fun W h1 h2 => calMoments_any (localD mo zo zs zf zt) (localM mo zo zs zf zt) zo zs zf zt W h1 h2 (J _ (by omega) (by omega)) (J _ (by omega) (by omega)) (J _ (by omega) (by omega)) (J _ (by omega) (by omega))
    generalize localE mo zo zs zf zt = E at *
    generalize localE (mo + 1) zo zs zf zt = E2 at *
    generalize localD mo zo zs zf zt = D at *
    generalize localM mo zo zs zf zt = U at *
    generalize localD (mo + 1) zo zs zf zt = D2 at *
    generalize localM (mo + 1) zo zs zf zt = U2 at *
    generalize momL D U zo zs zf zt = ML at *
    generalize momE D U zo zs zf zt = ME at *
    have CL := Lib.hid cL
    have CL2 := Lib.hid cL2
    have CM := Lib.hid cM
    have HH := Lib.hid (And.intro lp (And.intro lp2 (And.intro ms (And.intro nx h6))))
    clear cL cL2 cM lp lp2 ms nx h6
    go_wp2_with fail
    refine (CL.out _).mono ?_
    rintro e w6 ⟨rfl, hb6⟩
    have K6 := Lib.hid (And.intro (K.out.1.below hb6 K.out.1.lt) (K.out.2.trans (hb6.mono K.out.2.size)))
    clear hb6 K CL z0 z1 z2 z3
    rcases h5 with rfl | rfl
    · obtain ⟨-, u1, u2, d1, -, -⟩ := HH.out.1 rfl
      obtain ⟨rfl, hsh⟩ := HH.out.2.2.1 rfl
      obtain ⟨d1, d2⟩ := d1
      have cM := fun W => CM.out W (J _ (by omega) (by omega)) (J _ (by omega) (by omega))
      have CM' := Lib.hid cM
      have z0 := K6.out.1.cell 0 _ rfl
      have z1 := K6.out.1.cell 1 _ rfl
      have z2 := K6.out.1.cell 2 _ rfl
      have z3 := K6.out.1.cell 3 _ rfl
      clear cM CM
      go_wp2_with fail
      refine (CM'.out _).mono ?_
      rintro e w7 ⟨v7, rfl, hown, hb7⟩
      obtain ⟨A7, c7, rfl, hrd, -, -⟩ := own_rd (B := 0) hown
      have K7 := Lib.hid (And.intro (K6.out.1.below hb7 K6.out.1.lt) (K6.out.2.trans (hb7.mono K6.out.2.size)))
      clear hown hb7 K6 CM' z0 z1 z2 z3
--BRANCHES
      rcases hsh with rfl | ⟨hs0, x, y, hxy, rfl, hxm⟩
      · obtain ⟨b, off, rfl, hbl, hc⟩ := hrd (by simp)
        have q1 : ∀ q : BelT w7.heap.size w7, q.at.cell? ⟨w2.heap.size, 1, none⟩ = some (.int .i64 zs) := fun q => (K7.out.1.below q.out K7.out.1.lt).cell 1 _ rfl
        have r0 : w7.cell? ⟨b, off, none⟩ = some (.int .i64 mo) := hc 0 (.int .i64 mo) rfl
        have q0 : True := trivial
        clear hrd hc
        by_cases hzs : zs = 0
        · subst hzs
          go_wp2_with fail
          refine wp_region_below w7.heap.size (by kernel_rfl) (by kernel_rfl) ?_
          repeat (go_big_quiet_step (fail))
          refine wpQuiet_nil ?_
          intro w' hw'
          obtain ⟨q, rfl⟩ := hw'
          have hb8 := q.out
          obtain ⟨w8, hw8⟩ : ∃ w8, w8 = q.at := ⟨_, rfl⟩
          rw [← hw8] at hb8
          rw [← hw8]
          have r0' := (hb8.cell (p := ⟨b, off, none⟩) hbl).trans r0
          have K8 := Lib.hid (And.intro (K7.out.1.below hb8 K7.out.1.lt) (K7.out.2.trans (hb8.mono K7.out.2.size)))
          have z0 := K8.out.1.cell 0 _ rfl
          have z1 := K8.out.1.cell 1 _ rfl
          have z2 := K8.out.1.cell 2 _ rfl
          have z3 := K8.out.1.cell 3 _ rfl
          clear hw8 q1 q0 hb8 hbl r0 K7
          go_wp2_with fail
          refine (CL2.out _).mono ?_
          rintro e w9 ⟨rfl, hb9⟩
          have K9 := Lib.hid (And.intro (K8.out.1.below hb9 K8.out.1.lt) (K8.out.2.trans (hb9.mono K8.out.2.size)))
          have h6 := HH.out.2.2.2.2
          clear hb9 K8 CL2 z0 z1 z2 z3 r0' 
          rcases h6 with rfl | rfl
          · obtain ⟨-, v1, v2, ⟨e1, e2⟩, -, -⟩ := HH.out.2.1 rfl
            have z1 := K9.out.1.cell 1 _ rfl
            have hst := HH.out.2.2.2.1 (by simp) (by simp)
            rcases hst with hst | hst | hst
            all_goals
              go_wp2_with fail
              refine (FIN.out _ K9.out.2).mono ?_
              rintro e we ⟨rfl, hb⟩
              have Be := Lib.hid hb
              clear hb
              go_wp2_with fail
              go_ret
              exact ⟨rfl, Be.out⟩
          · go_wp2_with fail
            refine (FIN.out _ K9.out.2).mono ?_
            rintro e we ⟨rfl, hb⟩
            have Be := Lib.hid hb
            clear hb
            go_wp2_with fail
            go_ret
            exact ⟨rfl, Be.out⟩
        · have hz1 : ((zs : Int) == 0) = false := by simp [hzs]
          have hz2 : ((1 + zs : Int) == 1) = false := by simp; omega
          have hz3 : ((1 - zs : Int) == 1) = false := by simp; omega
          have hz4 : ((1 - zs : Int) == 1 + zs) = false := by simp; omega
          go_wp2_with fail
          refine wp_region_below w7.heap.size (by kernel_rfl) (by kernel_rfl) ?_
          repeat (go_big_quiet_step (fail))
          refine wpQuiet_nil ?_
          intro w' hw'
          obtain ⟨q, rfl⟩ := hw'
          have hb8 := q.out
          obtain ⟨w8, hw8⟩ : ∃ w8, w8 = q.at := ⟨_, rfl⟩
          rw [← hw8] at hb8
          rw [← hw8]
          have r0' := (hb8.cell (p := ⟨b, off, none⟩) hbl).trans r0
          have K8 := Lib.hid (And.intro (K7.out.1.below hb8 K7.out.1.lt) (K7.out.2.trans (hb8.mono K7.out.2.size)))
          have z0 := K8.out.1.cell 0 _ rfl
          have z1 := K8.out.1.cell 1 _ rfl
          have z2 := K8.out.1.cell 2 _ rfl
          have z3 := K8.out.1.cell 3 _ rfl
          clear hw8 q1 q0 hb8 hbl r0 K7
          go_wp2_with fail
          refine (CL2.out _).mono ?_
          rintro e w9 ⟨rfl, hb9⟩
          have K9 := Lib.hid (And.intro (K8.out.1.below hb9 K8.out.1.lt) (K8.out.2.trans (hb9.mono K8.out.2.size)))
          have h6 := HH.out.2.2.2.2
          clear hb9 K8 CL2 z0 z1 z2 z3 r0' 
          rcases h6 with rfl | rfl
          · obtain ⟨-, v1, v2, ⟨e1, e2⟩, -, -⟩ := HH.out.2.1 rfl
            have z1 := K9.out.1.cell 1 _ rfl
            have hst := HH.out.2.2.2.1 (by simp) (by simp)
            rcases hst with hst | hst | hst
            all_goals
              go_wp2_with fail
              refine (FIN.out _ K9.out.2).mono ?_
              rintro e we ⟨rfl, hb⟩
              have Be := Lib.hid hb
              clear hb
              go_wp2_with fail
              go_ret
              exact ⟨rfl, Be.out⟩
          · go_wp2_with fail
            refine (FIN.out _ K9.out.2).mono ?_
            rintro e we ⟨rfl, hb⟩
            have Be := Lib.hid hb
            clear hb
            go_wp2_with fail
            go_ret
            exact ⟨rfl, Be.out⟩
      · obtain ⟨b, off, rfl, hbl, hc⟩ := hrd (by simp)
        have q1 : ∀ q : BelT w7.heap.size w7, q.at.cell? ⟨w2.heap.size, 1, none⟩ = some (.int .i64 zs) := fun q => (K7.out.1.below q.out K7.out.1.lt).cell 1 _ rfl
        have r0 : w7.cell? ⟨b, off, none⟩ = some (.int .i64 x) := hc 0 (.int .i64 x) rfl
        have r1 := hc 1 (.int .i64 y) rfl
        have q0 : ∀ q : BelT w7.heap.size w7, q.at.cell? ⟨b, off, none⟩ = some (.int .i64 x) := fun q => (q.out.cell (p := ⟨b, off, none⟩) hbl).trans r0
        have q2 : ∀ q : BelT w7.heap.size w7, q.at.cell? ⟨b, off + 1, none⟩ = some (.int .i64 y) := fun q => (q.out.cell (p := ⟨b, off + 1, none⟩) hbl).trans r1
        clear hrd hc
        have hz1 : ((zs : Int) == 0) = false := by simp [hs0]
        have hz2 : ((1 + zs : Int) == 1) = false := by simp; omega
        have hz3 : ((1 - zs : Int) == 1) = false := by simp; omega
        have hz4 : ((1 - zs : Int) == 1 + zs) = false := by simp; omega
        have hge : decide (y ≤ x) = false := decide_eq_false (by omega)
        rcases hxm with rfl | rfl
        · have hne : ((y : Int) == x) = false := by simp; omega
          go_wp2_with fail
          refine wp_region_below w7.heap.size (by kernel_rfl) (by kernel_rfl) ?_
          repeat (go_big_quiet_step (fail))
          refine wpQuiet_nil ?_
          intro w' hw'
          obtain ⟨q, rfl⟩ := hw'
          have hb8 := q.out
          obtain ⟨w8, hw8⟩ : ∃ w8, w8 = q.at := ⟨_, rfl⟩
          rw [← hw8] at hb8
          rw [← hw8]
          have r0' := (hb8.cell (p := ⟨b, off, none⟩) hbl).trans r0
          have r1' := (hb8.cell (p := ⟨b, off + 1, none⟩) hbl).trans r1
          have K8 := Lib.hid (And.intro (K7.out.1.below hb8 K7.out.1.lt) (K7.out.2.trans (hb8.mono K7.out.2.size)))
          have z0 := K8.out.1.cell 0 _ rfl
          have z1 := K8.out.1.cell 1 _ rfl
          have z2 := K8.out.1.cell 2 _ rfl
          have z3 := K8.out.1.cell 3 _ rfl
          clear hw8 q1 q0 q2 hb8 hbl r0 r1 K7
          go_wp2_with fail
          refine (CL2.out _).mono ?_
          rintro e w9 ⟨rfl, hb9⟩
          have K9 := Lib.hid (And.intro (K8.out.1.below hb9 K8.out.1.lt) (K8.out.2.trans (hb9.mono K8.out.2.size)))
          have h6 := HH.out.2.2.2.2
          clear hb9 K8 CL2 z0 z1 z2 z3 r0' r1'
          rcases h6 with rfl | rfl
          · obtain ⟨-, v1, v2, ⟨e1, e2⟩, -, -⟩ := HH.out.2.1 rfl
            have z1 := K9.out.1.cell 1 _ rfl
            have hst := HH.out.2.2.2.1 (by simp) (by simp)
            rcases hst with hst | hst | hst
            all_goals
              go_wp2_with fail
              refine (FIN.out _ K9.out.2).mono ?_
              rintro e we ⟨rfl, hb⟩
              have Be := Lib.hid hb
              clear hb
              go_wp2_with fail
              go_ret
              exact ⟨rfl, Be.out⟩
          · go_wp2_with fail
            refine (FIN.out _ K9.out.2).mono ?_
            rintro e we ⟨rfl, hb⟩
            have Be := Lib.hid hb
            clear hb
            go_wp2_with fail
            go_ret
            exact ⟨rfl, Be.out⟩
        · have hne : ((x : Int) == y) = false := by simp; omega
          go_wp2_with fail
          refine wp_region_below w7.heap.size (by kernel_rfl) (by kernel_rfl) ?_
          repeat (go_big_quiet_step (fail))
          refine wpQuiet_nil ?_
          intro w' hw'
          obtain ⟨q, rfl⟩ := hw'
          have hb8 := q.out
          obtain ⟨w8, hw8⟩ : ∃ w8, w8 = q.at := ⟨_, rfl⟩
          rw [← hw8] at hb8
          rw [← hw8]
          have r0' := (hb8.cell (p := ⟨b, off, none⟩) hbl).trans r0
          have r1' := (hb8.cell (p := ⟨b, off + 1, none⟩) hbl).trans r1
          have K8 := Lib.hid (And.intro (K7.out.1.below hb8 K7.out.1.lt) (K7.out.2.trans (hb8.mono K7.out.2.size)))
          have z0 := K8.out.1.cell 0 _ rfl
          have z1 := K8.out.1.cell 1 _ rfl
          have z2 := K8.out.1.cell 2 _ rfl
          have z3 := K8.out.1.cell 3 _ rfl
          clear hw8 q1 q0 q2 hb8 hbl r0 r1 K7
          go_wp2_with fail
          refine (CL2.out _).mono ?_
          rintro e w9 ⟨rfl, hb9⟩
          have K9 := Lib.hid (And.intro (K8.out.1.below hb9 K8.out.1.lt) (K8.out.2.trans (hb9.mono K8.out.2.size)))
          have h6 := HH.out.2.2.2.2
          clear hb9 K8 CL2 z0 z1 z2 z3 r0' r1'
          rcases h6 with rfl | rfl
          · obtain ⟨-, v1, v2, ⟨e1, e2⟩, -, -⟩ := HH.out.2.1 rfl
            have z1 := K9.out.1.cell 1 _ rfl
            have hst := HH.out.2.2.2.1 (by simp) (by simp)
            rcases hst with hst | hst | hst
            all_goals
              go_wp2_with fail
              refine (FIN.out _ K9.out.2).mono ?_
              rintro e we ⟨rfl, hb⟩
              have Be := Lib.hid hb
              clear hb
              go_wp2_with fail
              go_ret
              exact ⟨rfl, Be.out⟩
          · go_wp2_with fail
            refine (FIN.out _ K9.out.2).mono ?_
            rintro e we ⟨rfl, hb⟩
            have Be := Lib.hid hb
            clear hb
            go_wp2_with fail
            go_ret
            exact ⟨rfl, Be.out⟩
--END
    · go_wp2_with fail
      refine (FIN.out _ K6.out.2).mono ?_
      rintro e we ⟨rfl, hb⟩
      have Be := Lib.hid hb
      clear hb
      go_wp2_with fail
      go_ret
      exact ⟨rfl, Be.out⟩
end Go.Proofs.YtkenfgifhebnpaaDoor
