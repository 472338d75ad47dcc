/- The walk of the statement CalendarNext. -/
import Derived.Test.YtkenfgifhebnpaaDoorCalL1
import Derived.Test.YtkenfgifhebnpaaDoorCalRl
import Derived.Test.YtkenfgifhebnpaaDoorCalNx
namespace Go.Proofs.YtkenfgifhebnpaaDoor
open Go.RowKit
set_option linter.unusedVariables false
set_option maxRecDepth 100000

set_option maxHeartbeats 8000000 in
theorem calNext_walk (n : Int) (w : World) (hn : M.I64 n) (hD : CDoor w) :
    Calls Tryd.prog 7 #[.int .i64 n] w (Tells true w) := by
  have HD := Lib.hid hD
  clear hD
  have cS := some_any n w hn
  have hS := someD_known n
  obtain ⟨day, hday⟩ : ∃ x, x = someD n := ⟨_, rfl⟩
  rw [← hday] at cS hS
  have hS1 : -146097 ≤ day := hS.1
  have hS2 : day ≤ 146096 := hS.2
  have I : ∀ z : Int, -1000000 ≤ z → z ≤ 1000000 → M.I64 z := fun z h1 h2 => small64 z h1 h2
  have hin := date_in hS
  have hbk := Cal.day_back hS
  have hdE : Cal.dayE (Cal.cy day) (Cal.cm day) (Cal.cd day) = 0 := if_pos hbk.1
  have hrt := read_text hS
  have hnx := fun h => Cal.next_date hS h
  have hfr := fun h => Cal.far_date hS h
  have hwn := fun h => wk_next hS h
  have hwf := fun h => wk_far hS h
  have hls := fun h => dtext_less hS h
  have cC := fun W h => calCivil_any day W (I _ (by omega) (by omega)) h
  have cD := fun W h => calDay_any (Cal.cy day) (Cal.cm day) (Cal.cd day) W (I _ (by omega) (by omega)) (I _ (by omega) (by omega)) (I _ (by omega) (by omega)) h
  have cT := fun W h => calText_any day W (I _ (by omega) (by omega)) h
  have cP := fun W h => calParse_any (bs (dtext day)) W h
  have cW := fun W => calWeekday_any day W (I _ (by omega) (by omega))
  have cC1 := fun W h => calCivil_any (day + 1) W (I _ (by omega) (by omega)) h
  have cT1 := fun W h => calText_any (day + 1) W (I _ (by omega) (by omega)) h
  have cW1 := fun W => calWeekday_any (day + 1) W (I _ (by omega) (by omega))
  have cC4 := fun W h => calCivil_any (day + 146097) W (I _ (by omega) (by omega)) h
  have cW4 := fun W => calWeekday_any (day + 146097) W (I _ (by omega) (by omega))
  rw [sb_bs, hrt.1, hrt.2] at cP
  rw [hbk.2, hdE] at cD
  obtain ⟨y0, hy0⟩ : ∃ x, x = Cal.cy day := ⟨_, rfl⟩
  obtain ⟨m0, hm0⟩ : ∃ x, x = Cal.cm day := ⟨_, rfl⟩
  obtain ⟨d0, hd0⟩ : ∃ x, x = Cal.cd day := ⟨_, rfl⟩
  obtain ⟨v0, hv0⟩ : ∃ x, x = Cal.wk day := ⟨_, rfl⟩
  obtain ⟨T0, hT0⟩ : ∃ x, x = bs (dtext day) := ⟨_, rfl⟩
  obtain ⟨T1, hT1⟩ : ∃ x, x = bs (dtext (day + 1)) := ⟨_, rfl⟩
  have tl : ∀ l : List UInt8, (bs l).toList = l := fun l => by rw [Lib.toList_data]; simp [bs]
  have hle : day < 146096 → Op.bytesLess T1.toList T0.toList = false ∧ (T1.toList == T0.toList) = false := fun h => by
    have := less_not _ _ (hls h)
    rw [hT0, hT1, tl, tl]
    exact ⟨this.1, by rw [beq_eq_false_iff_ne]; exact fun e => this.2 e.symm⟩
  simp only [← hy0, ← hm0, ← hd0, ← hv0, ← hT0, ← hT1] at cC cD cT cP cW cT1 hin hnx hfr hwn hwf
  obtain ⟨i1, i2, i3, i4, i5, i6⟩ := hin
  have CC := Lib.hid cC
  have CD := Lib.hid cD
  have CT := Lib.hid cT
  have CP := Lib.hid cP
  have CW := Lib.hid cW
  have CC1 := Lib.hid cC1
  have CT1 := Lib.hid cT1
  have CW1 := Lib.hid cW1
  have CC4 := Lib.hid cC4
  have CW4 := Lib.hid cW4
  have CS := Lib.hid cS
  have HH := Lib.hid (And.intro hnx (And.intro hfr (And.intro hwn (And.intro hwf hle))))
  clear cC cD cT cP cW cC1 cT1 cW1 cC4 cW4 cS hnx hfr hwn hwf hls hle hy0 hm0 hd0 hv0 hT0 hT1 hdE hbk hrt hS hday I tl hn
  go_enter Tryd.func7, Tryd.ntmps7
  go_wp2_with fail
  refine CS.out.mono ?_
  rintro e w1 ⟨rfl, hb⟩
  have B1 := Lib.hid hb
  clear hb CS
  go_wp2_with fail
  refine (CC.out _ (HD.out.below B1.out (Nat.le_refl _))).mono ?_
  rintro e w2 ⟨rfl, hb⟩
  have B2 := Lib.hid (B1.out.trans (hb.mono B1.out.size))
  clear hb B1 CC
  go_wp2_with fail
  refine (CD.out _ (HD.out.below B2.out (Nat.le_refl _))).mono ?_
  rintro e w3 ⟨rfl, hb⟩
  have B3 := Lib.hid (B2.out.trans (hb.mono B2.out.size))
  clear hb B2 CD
  go_wp2_with fail
  refine (CT.out _ (HD.out.below B3.out (Nat.le_refl _))).mono ?_
  rintro e w4 ⟨rfl, hb⟩
  have B4 := Lib.hid (B3.out.trans (hb.mono B3.out.size))
  clear hb B3
  go_wp2_with fail
  refine (CP.out _ (HD.out.below B4.out (Nat.le_refl _))).mono ?_
  rintro e w5 ⟨rfl, hb⟩
  have B5 := Lib.hid (B4.out.trans (hb.mono B4.out.size))
  clear hb B4 CP
  have fin : ∀ W : World, Below w.heap.size w W → Calls Tryd.prog 20 #[] W fun e w' => e = .returned (.bool true) ∧ Below w.heap.size w w' := fun W hb => (calLives_any W (HD.out.below hb (Nat.le_refl _))).mono fun e w' h => ⟨h.1, hb.trans (h.2.mono hb.size)⟩
  have FIN := Lib.hid fin
  clear fin
  by_cases hlt : day < 146096
  · obtain ⟨hv1, hv2, hv3⟩ := HH.out.2.2.1 hlt
    obtain ⟨hl1, hl2⟩ := HH.out.2.2.2.2 hlt
    have hw1 : IntKind.i64.wrap (day + 1) = day + 1 := i64_in _ (by omega) (by omega)
    obtain ⟨v1, hv⟩ : ∃ x, x = Cal.wk (day + 1) := ⟨_, rfl⟩
    have cW1 := CW1.out
    simp only [← hv] at cW1
    rw [← hv] at hv1
    replace hv1 := hv1.symm
    have CW1' := Lib.hid cW1
    clear cW1 CW1 hv
    have cC1 := CC1.out
    have hcase := HH.out.1 hlt
    rcases hcase with ⟨e1, e2, e3⟩ | ⟨e1, e2, e3⟩ | ⟨e1, e2, e4, e3⟩
    all_goals
      rw [e1, e2, e3] at cC1
      have CC1' := Lib.hid cC1
      clear cC1 CC1 e1 e2 e3
      go_wp2_with fail
      refine (CC1'.out _ (HD.out.below B5.out (Nat.le_refl _))).mono ?_
      rintro e w6 ⟨rfl, hb⟩
      have B6 := Lib.hid (B5.out.trans (hb.mono B5.out.size))
      clear hb B5 CC1'
      go_wp2_with fail
      refine (CW1'.out _).mono ?_
      rintro e w7 ⟨rfl, hb⟩
      have B7 := Lib.hid (B6.out.trans (hb.mono B6.out.size))
      clear hb B6 CW1'
      go_wp2_with fail
      refine (CW.out _).mono ?_
      rintro e w8 ⟨rfl, hb⟩
      have B8 := Lib.hid (B7.out.trans (hb.mono B7.out.size))
      clear hb B7
      go_wp2_with fail
      refine (CT1.out _ (HD.out.below B8.out (Nat.le_refl _))).mono ?_
      rintro e w9 ⟨rfl, hb⟩
      have B9 := Lib.hid (B8.out.trans (hb.mono B8.out.size))
      clear hb B8
      go_wp2_with fail
      refine (CT.out _ (HD.out.below B9.out (Nat.le_refl _))).mono ?_
      rintro e wa ⟨rfl, hb⟩
      have Ba := Lib.hid (B9.out.trans (hb.mono B9.out.size))
      clear hb B9
      by_cases h0 : day < 0
      · obtain ⟨f1, f2, f3⟩ := HH.out.2.1 h0
        have f4 := HH.out.2.2.2.1 h0
        have cC4 := CC4.out
        have cW4 := CW4.out
        rw [f1, f2, f3] at cC4
        rw [f4] at cW4
        have CC4' := Lib.hid cC4
        have CW4' := Lib.hid cW4
        clear cC4 cW4 CC4 CW4 f1 f2 f3 f4
        go_wp2_with fail
        refine (CC4'.out _ (HD.out.below Ba.out (Nat.le_refl _))).mono ?_
        rintro e wb ⟨rfl, hb⟩
        have Bb := Lib.hid (Ba.out.trans (hb.mono Ba.out.size))
        clear hb Ba
        go_wp2_with fail
        refine (CW4'.out _).mono ?_
        rintro e wc ⟨rfl, hb⟩
        have Bc := Lib.hid (Bb.out.trans (hb.mono Bb.out.size))
        clear hb Bb
        go_wp2_with fail
        refine (CW.out _).mono ?_
        rintro e wd ⟨rfl, hb⟩
        have Bd := Lib.hid (Bc.out.trans (hb.mono Bc.out.size))
        clear hb Bc
        go_wp2_with fail
        refine (FIN.out _ Bd.out).mono ?_
        rintro e we ⟨rfl, hb⟩
        have Be := Lib.hid hb
        clear hb
        go_wp2_with fail
        go_ret
        exact ⟨rfl, Be.out⟩
      · go_wp2_with fail
        refine (FIN.out _ Ba.out).mono ?_
        rintro e we ⟨rfl, hb⟩
        have Be := Lib.hid hb
        clear hb
        go_wp2_with fail
        go_ret
        exact ⟨rfl, Be.out⟩
  · have h0 : ¬ day < 0 := by omega
    go_wp2_with fail
    refine (FIN.out _ B5.out).mono ?_
    rintro e we ⟨rfl, hb⟩
    have Be := Lib.hid hb
    clear hb
    go_wp2_with fail
    go_ret
    exact ⟨rfl, Be.out⟩
end Go.Proofs.YtkenfgifhebnpaaDoor
