import Derived.Test.YtkelfcgomeojeaaDoorJSignPt
import Derived.Test.YtkelfcgomeojeaaDoorJSignPw
import Derived.Test.YtkelfcgomeojeaaDoorJSignRn

section
/- SignMakesAsSpecified. -/



namespace Go.Proofs.YtkelfcgomeojeaaDoor
open Go.RowKit
set_option linter.unusedVariables false
set_option maxRecDepth 100000

theorem pubS_len (sd : List UInt8) (h : Int) : (pubS sd h).1.length = 16 := by
  unfold pubS
  split
  · exact root_len _ _
  · exact H.zeros_len _
theorem run_at2 (w : World) (b : Nat) : (Instr.indexAt 28 (.pointer (some ⟨b, 0, none⟩)) (.int .i64 1)).run Tryd.prog w = .ok (.pointer (some ⟨b, 1, none⟩)) w := by
  go_simp

set_option maxHeartbeats 16000000 in
theorem makes_walk (s : ByteArray) (h i : Int) (m : ByteArray) (w : World) (hI : M.I64 i) (hR : RTab w) (hT : HTab w) : Calls Tryd.prog 4 #[.string s, .agg #[.int .i64 h, .int .i64 i], .string m] w (Tells true w) := by
  obtain ⟨AR, hAR⟩ : ∃ AR : List Value, AR = [.int .i64 h, .int .i64 i] := ⟨_, rfl⟩
  have hA0 : AR[0]? = some (.int .i64 h) := by rw [hAR]; rfl
  have hA1 : AR[1]? = some (.int .i64 i) := by rw [hAR]; rfl
  rw [show (Value.agg #[.int .i64 h, .int .i64 i]) = .agg AR.toArray by rw [hAR]]
  obtain ⟨hzd, -⟩ := zero_of_info dig_zero
  obtain ⟨Zd, hZd⟩ : ∃ Zd, Zd = (H.zeros 16).map bv := ⟨_, rfl⟩
  rw [← hZd] at hzd
  have lZd : Zd.length = 16 := by rw [hZd, List.length_map, H.zeros_len]
  obtain ⟨W0, hW0⟩ : ∃ W0, W0 = w.alloc (.cells AR.toArray 28) := ⟨_, rfl⟩
  have hS : Blk W0 w.heap.size AR 28 ∧ Below w.heap.size w W0 := by
    rw [hW0]
    exact ⟨Blk.new w _ _, (Below.refl _ _).alloc (Nat.le_refl _) _⟩
  have cS := sanity_any W0 (hT.below hS.2 (Nat.le_refl _))
  obtain ⟨⟨p, er⟩, hpe⟩ : ∃ x, x = pubS (sb s) h := ⟨_, rfl⟩
  have lp : p.length = 16 := by have := pubS_len (sb s) h; rw [← hpe] at this; exact this
  obtain ⟨⟨sg, es⟩, hse⟩ : ∃ x, x = signS (sb s) h i (sb m) := ⟨_, rfl⟩
  have cP := fun W hT => public_any s h W hT
  have cR := fun W hR => refPublic_any s h W hR
  rw [← hpe] at cP cR
  have cS2 := fun W (h1 : m.size ≤ 100000000) hT => sign_any s h i m W h1 hI hT
  have cR2 := fun W (h1 : m.size ≤ 2000) hR => refSign_any s h i m W h1 hI hR
  rw [← hse] at cS2 cR2
  simp only at cP cR cS2 cR2
  have cM := fun W (h1 : m.size ≤ 100000000) hT => msg_any p i m W lp hI h1 hT
  have cN := fun W (h1 : m.size ≤ 2000) hR => refMsg_any p i m W lp hI h1 hR
  obtain ⟨G, hG⟩ : ∃ G, G = p.map bv := ⟨_, rfl⟩
  have lG : G.length = 16 := by rw [hG, List.length_map, lp]
  have yG := size_dig lG
  have oG : G.toArray.all (·.oneCell') = true := all_oneCell_toArray (by rw [hG]; exact bytes_one _)
  have eqG : ∀ W X Y, (do eqGuard .eql 23 X Y (.agg G.toArray) (.agg G.toArray); binOp .eql 23 (.agg G.toArray) (.agg G.toArray)).run Tryd.prog W = .ok (.bool true) W := fun W X Y => by
    have := run_eql_dig X Y p p lp lp W
    rw [decide_eq_true rfl, ← hG] at this
    exact this
  obtain ⟨MS, hMS⟩ : ∃ MS, MS = (Sg.msg p i (sb m)).map bv := ⟨_, rfl⟩
  have eqM : ∀ W X Y, (do eqGuard .eql 23 X Y (.agg MS.toArray) (.agg MS.toArray); binOp .eql 23 (.agg MS.toArray) (.agg MS.toArray)).run Tryd.prog W = .ok (.bool true) W := fun W X Y => by
    have := run_eql_dig X Y (Sg.msg p i (sb m)) (Sg.msg p i (sb m)) (Sg.of_len _ _) (Sg.of_len _ _) W
    rw [decide_eq_true rfl, ← hMS] at this
    exact this
  obtain ⟨S, hSS⟩ : ∃ S, S = bs sg := ⟨_, rfl⟩
  have eqS : ∀ W X Y, (do eqGuard .eql 9 X Y (.string S) (.string S); binOp .eql 9 (.string S) (.string S)).run Tryd.prog W = .ok (.bool true) W := fun W X Y => by
    have := run_eql_str X Y S S W
    rw [decide_eq_true rfl] at this
    exact this
  rw [← hG] at cP cR cM cN
  rw [← hSS] at cS2 cR2
  rw [← hMS] at cM cN
  have CS := Lib.hid cS
  have ST := Lib.hid hS
  have HW0 := Lib.hid hW0
  have YG := Lib.hid yG
  have HT := Lib.hid (And.intro hT hR)
  have HAR := Lib.hid (And.intro hA0 hA1)
  have LL := Lib.hid (And.intro lG lZd)
  have HGO := True.intro
  clear cS hS hW0 yG hT hR hA0 hA1 lG lZd hAR hG hMS hSS hpe hse lp hZd
  by_cases h1 : 200 < s.size
  · have h1' : (200 : Int) < s.size := by omega
    clear h1 cP cR cS2 cR2 cM cN
    go_enter Tryd.func4, Tryd.ntmps4
    go_wp2_with fail
    rw [← HW0.out]
    refine CS.out.mono ?_
    rintro e w1 ⟨rfl, hb1⟩
    have S1 := Lib.hid (And.intro (ST.out.1.below hb1 ST.out.1.lt) (ST.out.2.trans (hb1.mono ST.out.2.size)))
    have c0 := S1.out.1.cell 0 _ HAR.out.1
    clear hb1 CS ST
    go_wp2_with fail
    go_ret
    exact ⟨rfl, S1.out.2⟩
  have h1' : (s.size : Int) ≤ 200 := by omega
  by_cases h2 : 200 < m.size
  · have h2' : (200 : Int) < m.size := by omega
    clear h2 cP cR cS2 cR2 cM cN
    go_enter Tryd.func4, Tryd.ntmps4
    go_wp2_with fail
    rw [← HW0.out]
    refine CS.out.mono ?_
    rintro e w1 ⟨rfl, hb1⟩
    have S1 := Lib.hid (And.intro (ST.out.1.below hb1 ST.out.1.lt) (ST.out.2.trans (hb1.mono ST.out.2.size)))
    have c0 := S1.out.1.cell 0 _ HAR.out.1
    clear hb1 CS ST
    go_wp2_with fail
    go_ret
    exact ⟨rfl, S1.out.2⟩
  have h2' : (m.size : Int) ≤ 200 := by omega
  have CP := Lib.hid cP
  have CR := Lib.hid cR
  have CS2 := Lib.hid (fun W hT => cS2 W (by omega) hT)
  have CR2 := Lib.hid (fun W hR => cR2 W (by omega) hR)
  have CM := Lib.hid (fun W hT => cM W (by omega) hT)
  have CN := Lib.hid (fun W hR => cN W (by omega) hR)
  clear cP cR cS2 cR2 cM cN h1 h2
  by_cases h3 : 2 < h
  · by_cases h4 : h ≤ 6
    · go_enter Tryd.func4, Tryd.ntmps4
      go_wp2_with fail
      rw [← HW0.out]
      refine CS.out.mono ?_
      rintro e w1 ⟨rfl, hb1⟩
      have S1 := Lib.hid (And.intro (ST.out.1.below hb1 ST.out.1.lt) (ST.out.2.trans (hb1.mono ST.out.2.size)))
      have c0 := S1.out.1.cell 0 _ HAR.out.1
      clear hb1 CS ST
      go_wp2_with fail
      go_ret
      exact ⟨rfl, S1.out.2⟩
    · have h4' : 6 < h := by omega
      clear h4
      go_enter Tryd.func4, Tryd.ntmps4
      go_wp2_with fail
      rw [← HW0.out]
      refine CS.out.mono ?_
      rintro e w1 ⟨rfl, hb1⟩
      have S1 := Lib.hid (And.intro (ST.out.1.below hb1 ST.out.1.lt) (ST.out.2.trans (hb1.mono ST.out.2.size)))
      have c0 := S1.out.1.cell 0 _ HAR.out.1
      clear hb1 CS ST
      go_wp2_with fail
      clear HGO
      refine (CP.out w1 (HT.out.1.below S1.out.2 (Nat.le_refl _))).mono ?_
      rintro x w2 ⟨rfl, hb2⟩
      obtain ⟨W3, hW3, m1, m2, m3⟩ := row_new w2 23 16 Zd G LL.out.2 LL.out.1
      have b3 := hb2.trans (m3.mono hb2.size)
      have S3 := Lib.hid (And.intro (S1.out.1.below b3 S1.out.1.lt) (S1.out.2.trans (b3.mono S1.out.2.size)))
      have K3 := Lib.hid m2
      have M1 := Lib.hid m1
      have HW3 := Lib.hid hW3
      obtain ⟨VA, hVA⟩ : ∃ VA, VA = w2.heap.size := ⟨_, rfl⟩
      rw [← hVA] at hW3 M1 K3 HW3
      have c0 := S3.out.1.cell 0 _ HAR.out.1
      have HVA := Lib.hid hVA
      clear hb2 m1 m2 m3 b3 hW3 CP S1 hVA
      go_wp2_with (refine wpList_store_mid rfl 23 (.tmp 8) (.tmp 41) rfl w2.heap.size 0 G.toArray rfl rfl (by rw [← HVA.out]; exact M1.out) YG.out oG ?_; rw [← HVA.out, ← HW3.out])
      refine (CR.out W3 (HT.out.2.below S3.out.2 (Nat.le_refl _))).mono ?_
      rintro x w4 ⟨rfl, hb4⟩
      obtain ⟨W5, hW5, m1, m2, m3⟩ := row_new w4 23 16 Zd G LL.out.2 LL.out.1
      have b5 := hb4.trans (m3.mono hb4.size)
      have S5 := Lib.hid (And.intro (S3.out.1.below b5 S3.out.1.lt) (And.intro (K3.out.below b5 K3.out.lt) (And.intro m2 (S3.out.2.trans (b5.mono S3.out.2.size)))))
      have M2 := Lib.hid m1
      have HW5 := Lib.hid hW5
      obtain ⟨VB, hVB⟩ : ∃ VB, VB = w4.heap.size := ⟨_, rfl⟩
      rw [← hVB] at S5 M2 HW5
      have c0 := S5.out.1.cell 0 _ HAR.out.1
      have c1 := S5.out.1.cell 1 _ HAR.out.2
      have HVB := Lib.hid hVB
      clear hb4 m1 m2 m3 b5 hW5 CR S3 K3 M1 hVB
      go_wp2_with (refine wpList_store_mid rfl 23 (.tmp 10) (.tmp 48) rfl w4.heap.size 0 G.toArray rfl rfl (by rw [← HVB.out]; exact M2.out) YG.out oG ?_; rw [← HVB.out, ← HW5.out])
      refine (CS2.out W5 (HT.out.1.below S5.out.2.2.2 (Nat.le_refl _))).mono ?_
      rintro x w6 ⟨rfl, hb6⟩
      have S6 := Lib.hid (And.intro (S5.out.1.below hb6 S5.out.1.lt) (And.intro (S5.out.2.1.below hb6 S5.out.2.1.lt) (And.intro (S5.out.2.2.1.below hb6 S5.out.2.2.1.lt) (S5.out.2.2.2.trans (hb6.mono S5.out.2.2.2.size)))))
      have c0 := S6.out.1.cell 0 _ HAR.out.1
      have c1 := S6.out.1.cell 1 _ HAR.out.2
      clear hb6 CS2 S5 M2
      go_wp2_with fail
      refine (CR2.out w6 (HT.out.2.below S6.out.2.2.2 (Nat.le_refl _))).mono ?_
      rintro x w7 ⟨rfl, hb7⟩
      have K9 := Lib.hid (And.intro (S6.out.1.below hb7 S6.out.1.lt) (And.intro (S6.out.2.1.below hb7 S6.out.2.1.lt) (And.intro (S6.out.2.2.1.below hb7 S6.out.2.2.1.lt) (S6.out.2.2.2.trans (hb7.mono S6.out.2.2.2.size)))))
      clear hb7 CR2 S6 c0 c1
      go_wp2_with fail
      try go_frame
      refine wp_region_guarded [70, 71, 72, 73, 74, 75, 76, 77, 78, 79, 80, 81, 82, 83, 84, 85, 86, 87, 88, 89, 90, 91, 92, 93, 94, 95, 96, 97, 98, 99, 100, 101, 102, 103] [.is (.bool true), .is (.bool true), .is (.agg G.toArray), .is (.agg G.toArray), .is (.bool true), .is (.bool true), .is (.bool true), .is (.int .i64 er), .is (.int .i64 er), .is (.bool true), .is (.bool true), .is (.bool true), .is (.string S), .is (.string S), .is (.bool true), .is (.bool true), .is (.bool true), .is (.int .i64 es), .is (.int .i64 es), .is (.bool true), .is (.bool true), .is (.bool true), .is (.agg G.toArray), .is (.pointer (some ⟨w.heap.size, 1, none⟩)), .is (.int .i64 i), .is (.string m), .is (.agg MS.toArray), .is (.agg G.toArray), .is (.pointer (some ⟨w.heap.size, 1, none⟩)), .is (.int .i64 i), .is (.string m), .is (.agg MS.toArray), .is (.bool true), .is (.bool true)] (by kernel_rfl) (by kernel_rfl) ?_ ?_
      · intro z hz b w' hb hd hx o ho
        match z, hz with
        | 0, _ =>
          obtain rfl := Option.some.inj ho
          exact ⟨hx 7 rfl, Below.refl _ _⟩
        | 1, _ =>
          obtain rfl := Option.some.inj ho
          exact ⟨hd 0 (by kernel_rfl) (by decide), Below.refl _ _⟩
        | 2, _ =>
          obtain rfl := Option.some.inj ho
          refine ⟨true, hd 1 (by kernel_rfl) (by decide), fun _ => ?_, fun h => absurd rfl h⟩
          have e5 : b.tmps.getD 8 undef = .pointer (some ⟨VA, 0, none⟩) := hx 8 rfl
          have hr := row_load w' VA 23 5 16 G (K9.out.2.1.below hb K9.out.2.1.lt) Tryd.underlying23 YG.out
          rw [← e5] at hr
          exact runs_value rfl hr ⟨rfl, Below.refl _ _⟩
        | 3, _ =>
          obtain rfl := Option.some.inj ho
          refine ⟨true, hd 1 (by kernel_rfl) (by decide), fun _ => ?_, fun h => absurd rfl h⟩
          have e5 : b.tmps.getD 10 undef = .pointer (some ⟨VB, 0, none⟩) := hx 10 rfl
          have hr := row_load w' VB 23 5 16 G (K9.out.2.2.1.below hb K9.out.2.2.1.lt) Tryd.underlying23 YG.out
          rw [← e5] at hr
          exact runs_value rfl hr ⟨rfl, Below.refl _ _⟩
        | 4, _ =>
          obtain rfl := Option.some.inj ho
          refine ⟨true, hd 1 (by kernel_rfl) (by decide), fun _ => ?_, fun h => absurd rfl h⟩
          have e1 : b.tmps.getD 72 undef = .agg G.toArray := hd 2 (by kernel_rfl) (by decide)
          have e2 : b.tmps.getD 73 undef = .agg G.toArray := hd 3 (by kernel_rfl) (by decide)
          have hr := eqG w' (.tmp 72) (.tmp 73)
          refine runs_value (X := (do eqGuard .eql 23 (.tmp 72) (.tmp 73) (b.tmps.getD 72 undef) (b.tmps.getD 73 undef); binOp .eql 23 (b.tmps.getD 72 undef) (b.tmps.getD 73 undef))) rfl ?_ ⟨rfl, Below.refl _ _⟩
          rw [e1, e2]
          exact hr
        | 5, _ =>
          obtain rfl := Option.some.inj ho
          have e1 : b.tmps.getD 71 undef = .bool true := hd 1 (by kernel_rfl) (by decide)
          have e2 : b.tmps.getD 74 undef = .bool true := hd 4 (by kernel_rfl) (by decide)
          exact runs_pick rfl true e1 ⟨e2, Below.refl _ _⟩
        | 6, _ =>
          obtain rfl := Option.some.inj ho
          exact ⟨hd 5 (by kernel_rfl) (by decide), Below.refl _ _⟩
        | 7, _ =>
          obtain rfl := Option.some.inj ho
          refine ⟨true, hd 6 (by kernel_rfl) (by decide), fun _ => ?_, fun h => absurd rfl h⟩
          exact ⟨hx 9 rfl, Below.refl _ _⟩
        | 8, _ =>
          obtain rfl := Option.some.inj ho
          refine ⟨true, hd 6 (by kernel_rfl) (by decide), fun _ => ?_, fun h => absurd rfl h⟩
          exact ⟨hx 11 rfl, Below.refl _ _⟩
        | 9, _ =>
          obtain rfl := Option.some.inj ho
          refine ⟨true, hd 6 (by kernel_rfl) (by decide), fun _ => ?_, fun h => absurd rfl h⟩
          have e1 : b.tmps.getD 77 undef = .int .i64 er := hd 7 (by kernel_rfl) (by decide)
          have e2 : b.tmps.getD 78 undef = .int .i64 er := hd 8 (by kernel_rfl) (by decide)
          have hr := run_eql_err w' er (.tmp 77) (.tmp 78)
          refine runs_value (X := (do eqGuard .eql 29 (.tmp 77) (.tmp 78) (b.tmps.getD 77 undef) (b.tmps.getD 78 undef); binOp .eql 29 (b.tmps.getD 77 undef) (b.tmps.getD 78 undef))) rfl ?_ ⟨rfl, Below.refl _ _⟩
          rw [e1, e2]
          exact hr
        | 10, _ =>
          obtain rfl := Option.some.inj ho
          have e1 : b.tmps.getD 76 undef = .bool true := hd 6 (by kernel_rfl) (by decide)
          have e2 : b.tmps.getD 79 undef = .bool true := hd 9 (by kernel_rfl) (by decide)
          exact runs_pick rfl true e1 ⟨e2, Below.refl _ _⟩
        | 11, _ =>
          obtain rfl := Option.some.inj ho
          exact ⟨hd 10 (by kernel_rfl) (by decide), Below.refl _ _⟩
        | 12, _ =>
          obtain rfl := Option.some.inj ho
          refine ⟨true, hd 11 (by kernel_rfl) (by decide), fun _ => ?_, fun h => absurd rfl h⟩
          exact ⟨hx 12 rfl, Below.refl _ _⟩
        | 13, _ =>
          obtain rfl := Option.some.inj ho
          refine ⟨true, hd 11 (by kernel_rfl) (by decide), fun _ => ?_, fun h => absurd rfl h⟩
          exact ⟨hx 14 rfl, Below.refl _ _⟩
        | 14, _ =>
          obtain rfl := Option.some.inj ho
          refine ⟨true, hd 11 (by kernel_rfl) (by decide), fun _ => ?_, fun h => absurd rfl h⟩
          have e1 : b.tmps.getD 82 undef = .string S := hd 12 (by kernel_rfl) (by decide)
          have e2 : b.tmps.getD 83 undef = .string S := hd 13 (by kernel_rfl) (by decide)
          have hr := eqS w' (.tmp 82) (.tmp 83)
          refine runs_value (X := (do eqGuard .eql 9 (.tmp 82) (.tmp 83) (b.tmps.getD 82 undef) (b.tmps.getD 83 undef); binOp .eql 9 (b.tmps.getD 82 undef) (b.tmps.getD 83 undef))) rfl ?_ ⟨rfl, Below.refl _ _⟩
          rw [e1, e2]
          exact hr
        | 15, _ =>
          obtain rfl := Option.some.inj ho
          have e1 : b.tmps.getD 81 undef = .bool true := hd 11 (by kernel_rfl) (by decide)
          have e2 : b.tmps.getD 84 undef = .bool true := hd 14 (by kernel_rfl) (by decide)
          exact runs_pick rfl true e1 ⟨e2, Below.refl _ _⟩
        | 16, _ =>
          obtain rfl := Option.some.inj ho
          exact ⟨hd 15 (by kernel_rfl) (by decide), Below.refl _ _⟩
        | 17, _ =>
          obtain rfl := Option.some.inj ho
          refine ⟨true, hd 16 (by kernel_rfl) (by decide), fun _ => ?_, fun h => absurd rfl h⟩
          exact ⟨hx 13 rfl, Below.refl _ _⟩
        | 18, _ =>
          obtain rfl := Option.some.inj ho
          refine ⟨true, hd 16 (by kernel_rfl) (by decide), fun _ => ?_, fun h => absurd rfl h⟩
          exact ⟨hx 15 rfl, Below.refl _ _⟩
        | 19, _ =>
          obtain rfl := Option.some.inj ho
          refine ⟨true, hd 16 (by kernel_rfl) (by decide), fun _ => ?_, fun h => absurd rfl h⟩
          have e1 : b.tmps.getD 87 undef = .int .i64 es := hd 17 (by kernel_rfl) (by decide)
          have e2 : b.tmps.getD 88 undef = .int .i64 es := hd 18 (by kernel_rfl) (by decide)
          have hr := run_eql_err w' es (.tmp 87) (.tmp 88)
          refine runs_value (X := (do eqGuard .eql 29 (.tmp 87) (.tmp 88) (b.tmps.getD 87 undef) (b.tmps.getD 88 undef); binOp .eql 29 (b.tmps.getD 87 undef) (b.tmps.getD 88 undef))) rfl ?_ ⟨rfl, Below.refl _ _⟩
          rw [e1, e2]
          exact hr
        | 20, _ =>
          obtain rfl := Option.some.inj ho
          have e1 : b.tmps.getD 86 undef = .bool true := hd 16 (by kernel_rfl) (by decide)
          have e2 : b.tmps.getD 89 undef = .bool true := hd 19 (by kernel_rfl) (by decide)
          exact runs_pick rfl true e1 ⟨e2, Below.refl _ _⟩
        | 21, _ =>
          obtain rfl := Option.some.inj ho
          exact ⟨hd 20 (by kernel_rfl) (by decide), Below.refl _ _⟩
        | 22, _ =>
          obtain rfl := Option.some.inj ho
          refine ⟨true, hd 21 (by kernel_rfl) (by decide), fun _ => ?_, fun h => absurd rfl h⟩
          have e5 : b.tmps.getD 8 undef = .pointer (some ⟨VA, 0, none⟩) := hx 8 rfl
          have hr := row_load w' VA 23 5 16 G (K9.out.2.1.below hb K9.out.2.1.lt) Tryd.underlying23 YG.out
          rw [← e5] at hr
          exact runs_value rfl hr ⟨rfl, Below.refl _ _⟩
        | 23, _ =>
          obtain rfl := Option.some.inj ho
          refine ⟨true, hd 21 (by kernel_rfl) (by decide), fun _ => ?_, fun h => absurd rfl h⟩
          have e4 : b.tmps.getD 4 undef = .pointer (some ⟨w.heap.size, 0, none⟩) := hx 4 rfl
          have hr := run_at2 w' w.heap.size
          rw [← e4] at hr
          exact runs_value rfl hr ⟨rfl, Below.refl _ _⟩
        | 24, _ =>
          obtain rfl := Option.some.inj ho
          refine ⟨true, hd 21 (by kernel_rfl) (by decide), fun _ => ?_, fun h => absurd rfl h⟩
          have e1 : b.tmps.getD 93 undef = .pointer (some ⟨w.heap.size, 1, none⟩) := hd 23 (by kernel_rfl) (by decide)
          have hr := run_get w' w.heap.size 1 i ((K9.out.1.below hb K9.out.1.lt).cell 1 _ HAR.out.2)
          rw [← e1] at hr
          exact runs_value rfl hr ⟨rfl, Below.refl _ _⟩
        | 25, _ =>
          obtain rfl := Option.some.inj ho
          refine ⟨true, hd 21 (by kernel_rfl) (by decide), fun _ => ?_, fun h => absurd rfl h⟩
          exact ⟨hx 2 rfl, Below.refl _ _⟩
        | 26, _ =>
          obtain rfl := Option.some.inj ho
          refine ⟨true, hd 21 (by kernel_rfl) (by decide), fun _ => ?_, fun h => absurd rfl h⟩
          have e1 : b.tmps.getD 92 undef = .agg G.toArray := hd 22 (by kernel_rfl) (by decide)
          have e2 : b.tmps.getD 94 undef = .int .i64 i := hd 24 (by kernel_rfl) (by decide)
          have e3 : b.tmps.getD 95 undef = .string m := hd 25 (by kernel_rfl) (by decide)
          refine runs_call rfl (fun _ _ => rfl) ?_
          show Calls _ _ #[b.tmps.getD 92 undef, b.tmps.getD 94 undef, b.tmps.getD 95 undef] w' _
          rw [e1, e2, e3]
          exact (CM.out w' (HT.out.1.below (K9.out.2.2.2.trans (hb.mono K9.out.2.2.2.size)) (Nat.le_refl _))).mono fun e w'' h => ⟨_, h.1, rfl, h.2⟩
        | 27, _ =>
          obtain rfl := Option.some.inj ho
          refine ⟨true, hd 21 (by kernel_rfl) (by decide), fun _ => ?_, fun h => absurd rfl h⟩
          have e5 : b.tmps.getD 8 undef = .pointer (some ⟨VA, 0, none⟩) := hx 8 rfl
          have hr := row_load w' VA 23 5 16 G (K9.out.2.1.below hb K9.out.2.1.lt) Tryd.underlying23 YG.out
          rw [← e5] at hr
          exact runs_value rfl hr ⟨rfl, Below.refl _ _⟩
        | 28, _ =>
          obtain rfl := Option.some.inj ho
          refine ⟨true, hd 21 (by kernel_rfl) (by decide), fun _ => ?_, fun h => absurd rfl h⟩
          have e4 : b.tmps.getD 4 undef = .pointer (some ⟨w.heap.size, 0, none⟩) := hx 4 rfl
          have hr := run_at2 w' w.heap.size
          rw [← e4] at hr
          exact runs_value rfl hr ⟨rfl, Below.refl _ _⟩
        | 29, _ =>
          obtain rfl := Option.some.inj ho
          refine ⟨true, hd 21 (by kernel_rfl) (by decide), fun _ => ?_, fun h => absurd rfl h⟩
          have e1 : b.tmps.getD 98 undef = .pointer (some ⟨w.heap.size, 1, none⟩) := hd 28 (by kernel_rfl) (by decide)
          have hr := run_get w' w.heap.size 1 i ((K9.out.1.below hb K9.out.1.lt).cell 1 _ HAR.out.2)
          rw [← e1] at hr
          exact runs_value rfl hr ⟨rfl, Below.refl _ _⟩
        | 30, _ =>
          obtain rfl := Option.some.inj ho
          refine ⟨true, hd 21 (by kernel_rfl) (by decide), fun _ => ?_, fun h => absurd rfl h⟩
          exact ⟨hx 2 rfl, Below.refl _ _⟩
        | 31, _ =>
          obtain rfl := Option.some.inj ho
          refine ⟨true, hd 21 (by kernel_rfl) (by decide), fun _ => ?_, fun h => absurd rfl h⟩
          have e1 : b.tmps.getD 97 undef = .agg G.toArray := hd 27 (by kernel_rfl) (by decide)
          have e2 : b.tmps.getD 99 undef = .int .i64 i := hd 29 (by kernel_rfl) (by decide)
          have e3 : b.tmps.getD 100 undef = .string m := hd 30 (by kernel_rfl) (by decide)
          refine runs_call rfl (fun _ _ => rfl) ?_
          show Calls _ _ #[b.tmps.getD 97 undef, b.tmps.getD 99 undef, b.tmps.getD 100 undef] w' _
          rw [e1, e2, e3]
          exact (CN.out w' (HT.out.2.below (K9.out.2.2.2.trans (hb.mono K9.out.2.2.2.size)) (Nat.le_refl _))).mono fun e w'' h => ⟨_, h.1, rfl, h.2⟩
        | 32, _ =>
          obtain rfl := Option.some.inj ho
          refine ⟨true, hd 21 (by kernel_rfl) (by decide), fun _ => ?_, fun h => absurd rfl h⟩
          have e1 : b.tmps.getD 96 undef = .agg MS.toArray := hd 26 (by kernel_rfl) (by decide)
          have e2 : b.tmps.getD 101 undef = .agg MS.toArray := hd 31 (by kernel_rfl) (by decide)
          have hr := eqM w' (.tmp 96) (.tmp 101)
          refine runs_value (X := (do eqGuard .eql 23 (.tmp 96) (.tmp 101) (b.tmps.getD 96 undef) (b.tmps.getD 101 undef); binOp .eql 23 (b.tmps.getD 96 undef) (b.tmps.getD 101 undef))) rfl ?_ ⟨rfl, Below.refl _ _⟩
          rw [e1, e2]
          exact hr
        | 33, _ =>
          obtain rfl := Option.some.inj ho
          have e1 : b.tmps.getD 91 undef = .bool true := hd 21 (by kernel_rfl) (by decide)
          have e2 : b.tmps.getD 102 undef = .bool true := hd 32 (by kernel_rfl) (by decide)
          exact runs_pick rfl true e1 ⟨e2, Below.refl _ _⟩
        | z + 34, hz => exact absurd hz (by simp)
      · intro vals w8 hb8 hf8
        have e33 : vals 33 = .bool true := hf8 33 (by decide)
        simp only [puts, List.length_cons, List.length_nil, Nat.zero_add, Nat.reduceAdd, List.drop_succ_cons, List.drop_zero, e33]
        have B8 := Lib.hid (K9.out.2.2.2.trans (hb8.mono K9.out.2.2.2.size))
        clear hb8 hf8 e33 K9
        go_frame
        go_wp2_with fail
        go_ret
        exact ⟨rfl, B8.out⟩
  · have h3' : h ≤ 2 := by omega
    clear h3
    go_enter Tryd.func4, Tryd.ntmps4
    go_wp2_with fail
    rw [← HW0.out]
    refine CS.out.mono ?_
    rintro e w1 ⟨rfl, hb1⟩
    have S1 := Lib.hid (And.intro (ST.out.1.below hb1 ST.out.1.lt) (ST.out.2.trans (hb1.mono ST.out.2.size)))
    have c0 := S1.out.1.cell 0 _ HAR.out.1
    clear hb1 CS ST
    go_wp2_with fail
    clear HGO
    refine (CP.out w1 (HT.out.1.below S1.out.2 (Nat.le_refl _))).mono ?_
    rintro x w2 ⟨rfl, hb2⟩
    obtain ⟨W3, hW3, m1, m2, m3⟩ := row_new w2 23 16 Zd G LL.out.2 LL.out.1
    have b3 := hb2.trans (m3.mono hb2.size)
    have S3 := Lib.hid (And.intro (S1.out.1.below b3 S1.out.1.lt) (S1.out.2.trans (b3.mono S1.out.2.size)))
    have K3 := Lib.hid m2
    have M1 := Lib.hid m1
    have HW3 := Lib.hid hW3
    obtain ⟨VA, hVA⟩ : ∃ VA, VA = w2.heap.size := ⟨_, rfl⟩
    rw [← hVA] at hW3 M1 K3 HW3
    have c0 := S3.out.1.cell 0 _ HAR.out.1
    have HVA := Lib.hid hVA
    clear hb2 m1 m2 m3 b3 hW3 CP S1 hVA
    go_wp2_with (refine wpList_store_mid rfl 23 (.tmp 8) (.tmp 41) rfl w2.heap.size 0 G.toArray rfl rfl (by rw [← HVA.out]; exact M1.out) YG.out oG ?_; rw [← HVA.out, ← HW3.out])
    refine (CR.out W3 (HT.out.2.below S3.out.2 (Nat.le_refl _))).mono ?_
    rintro x w4 ⟨rfl, hb4⟩
    obtain ⟨W5, hW5, m1, m2, m3⟩ := row_new w4 23 16 Zd G LL.out.2 LL.out.1
    have b5 := hb4.trans (m3.mono hb4.size)
    have S5 := Lib.hid (And.intro (S3.out.1.below b5 S3.out.1.lt) (And.intro (K3.out.below b5 K3.out.lt) (And.intro m2 (S3.out.2.trans (b5.mono S3.out.2.size)))))
    have M2 := Lib.hid m1
    have HW5 := Lib.hid hW5
    obtain ⟨VB, hVB⟩ : ∃ VB, VB = w4.heap.size := ⟨_, rfl⟩
    rw [← hVB] at S5 M2 HW5
    have c0 := S5.out.1.cell 0 _ HAR.out.1
    have c1 := S5.out.1.cell 1 _ HAR.out.2
    have HVB := Lib.hid hVB
    clear hb4 m1 m2 m3 b5 hW5 CR S3 K3 M1 hVB
    go_wp2_with (refine wpList_store_mid rfl 23 (.tmp 10) (.tmp 48) rfl w4.heap.size 0 G.toArray rfl rfl (by rw [← HVB.out]; exact M2.out) YG.out oG ?_; rw [← HVB.out, ← HW5.out])
    refine (CS2.out W5 (HT.out.1.below S5.out.2.2.2 (Nat.le_refl _))).mono ?_
    rintro x w6 ⟨rfl, hb6⟩
    have S6 := Lib.hid (And.intro (S5.out.1.below hb6 S5.out.1.lt) (And.intro (S5.out.2.1.below hb6 S5.out.2.1.lt) (And.intro (S5.out.2.2.1.below hb6 S5.out.2.2.1.lt) (S5.out.2.2.2.trans (hb6.mono S5.out.2.2.2.size)))))
    have c0 := S6.out.1.cell 0 _ HAR.out.1
    have c1 := S6.out.1.cell 1 _ HAR.out.2
    clear hb6 CS2 S5 M2
    go_wp2_with fail
    refine (CR2.out w6 (HT.out.2.below S6.out.2.2.2 (Nat.le_refl _))).mono ?_
    rintro x w7 ⟨rfl, hb7⟩
    have K9 := Lib.hid (And.intro (S6.out.1.below hb7 S6.out.1.lt) (And.intro (S6.out.2.1.below hb7 S6.out.2.1.lt) (And.intro (S6.out.2.2.1.below hb7 S6.out.2.2.1.lt) (S6.out.2.2.2.trans (hb7.mono S6.out.2.2.2.size)))))
    clear hb7 CR2 S6 c0 c1
    go_wp2_with fail
    try go_frame
    refine wp_region_guarded [70, 71, 72, 73, 74, 75, 76, 77, 78, 79, 80, 81, 82, 83, 84, 85, 86, 87, 88, 89, 90, 91, 92, 93, 94, 95, 96, 97, 98, 99, 100, 101, 102, 103] [.is (.bool true), .is (.bool true), .is (.agg G.toArray), .is (.agg G.toArray), .is (.bool true), .is (.bool true), .is (.bool true), .is (.int .i64 er), .is (.int .i64 er), .is (.bool true), .is (.bool true), .is (.bool true), .is (.string S), .is (.string S), .is (.bool true), .is (.bool true), .is (.bool true), .is (.int .i64 es), .is (.int .i64 es), .is (.bool true), .is (.bool true), .is (.bool true), .is (.agg G.toArray), .is (.pointer (some ⟨w.heap.size, 1, none⟩)), .is (.int .i64 i), .is (.string m), .is (.agg MS.toArray), .is (.agg G.toArray), .is (.pointer (some ⟨w.heap.size, 1, none⟩)), .is (.int .i64 i), .is (.string m), .is (.agg MS.toArray), .is (.bool true), .is (.bool true)] (by kernel_rfl) (by kernel_rfl) ?_ ?_
    · intro z hz b w' hb hd hx o ho
      match z, hz with
      | 0, _ =>
        obtain rfl := Option.some.inj ho
        exact ⟨hx 7 rfl, Below.refl _ _⟩
      | 1, _ =>
        obtain rfl := Option.some.inj ho
        exact ⟨hd 0 (by kernel_rfl) (by decide), Below.refl _ _⟩
      | 2, _ =>
        obtain rfl := Option.some.inj ho
        refine ⟨true, hd 1 (by kernel_rfl) (by decide), fun _ => ?_, fun h => absurd rfl h⟩
        have e5 : b.tmps.getD 8 undef = .pointer (some ⟨VA, 0, none⟩) := hx 8 rfl
        have hr := row_load w' VA 23 5 16 G (K9.out.2.1.below hb K9.out.2.1.lt) Tryd.underlying23 YG.out
        rw [← e5] at hr
        exact runs_value rfl hr ⟨rfl, Below.refl _ _⟩
      | 3, _ =>
        obtain rfl := Option.some.inj ho
        refine ⟨true, hd 1 (by kernel_rfl) (by decide), fun _ => ?_, fun h => absurd rfl h⟩
        have e5 : b.tmps.getD 10 undef = .pointer (some ⟨VB, 0, none⟩) := hx 10 rfl
        have hr := row_load w' VB 23 5 16 G (K9.out.2.2.1.below hb K9.out.2.2.1.lt) Tryd.underlying23 YG.out
        rw [← e5] at hr
        exact runs_value rfl hr ⟨rfl, Below.refl _ _⟩
      | 4, _ =>
        obtain rfl := Option.some.inj ho
        refine ⟨true, hd 1 (by kernel_rfl) (by decide), fun _ => ?_, fun h => absurd rfl h⟩
        have e1 : b.tmps.getD 72 undef = .agg G.toArray := hd 2 (by kernel_rfl) (by decide)
        have e2 : b.tmps.getD 73 undef = .agg G.toArray := hd 3 (by kernel_rfl) (by decide)
        have hr := eqG w' (.tmp 72) (.tmp 73)
        refine runs_value (X := (do eqGuard .eql 23 (.tmp 72) (.tmp 73) (b.tmps.getD 72 undef) (b.tmps.getD 73 undef); binOp .eql 23 (b.tmps.getD 72 undef) (b.tmps.getD 73 undef))) rfl ?_ ⟨rfl, Below.refl _ _⟩
        rw [e1, e2]
        exact hr
      | 5, _ =>
        obtain rfl := Option.some.inj ho
        have e1 : b.tmps.getD 71 undef = .bool true := hd 1 (by kernel_rfl) (by decide)
        have e2 : b.tmps.getD 74 undef = .bool true := hd 4 (by kernel_rfl) (by decide)
        exact runs_pick rfl true e1 ⟨e2, Below.refl _ _⟩
      | 6, _ =>
        obtain rfl := Option.some.inj ho
        exact ⟨hd 5 (by kernel_rfl) (by decide), Below.refl _ _⟩
      | 7, _ =>
        obtain rfl := Option.some.inj ho
        refine ⟨true, hd 6 (by kernel_rfl) (by decide), fun _ => ?_, fun h => absurd rfl h⟩
        exact ⟨hx 9 rfl, Below.refl _ _⟩
      | 8, _ =>
        obtain rfl := Option.some.inj ho
        refine ⟨true, hd 6 (by kernel_rfl) (by decide), fun _ => ?_, fun h => absurd rfl h⟩
        exact ⟨hx 11 rfl, Below.refl _ _⟩
      | 9, _ =>
        obtain rfl := Option.some.inj ho
        refine ⟨true, hd 6 (by kernel_rfl) (by decide), fun _ => ?_, fun h => absurd rfl h⟩
        have e1 : b.tmps.getD 77 undef = .int .i64 er := hd 7 (by kernel_rfl) (by decide)
        have e2 : b.tmps.getD 78 undef = .int .i64 er := hd 8 (by kernel_rfl) (by decide)
        have hr := run_eql_err w' er (.tmp 77) (.tmp 78)
        refine runs_value (X := (do eqGuard .eql 29 (.tmp 77) (.tmp 78) (b.tmps.getD 77 undef) (b.tmps.getD 78 undef); binOp .eql 29 (b.tmps.getD 77 undef) (b.tmps.getD 78 undef))) rfl ?_ ⟨rfl, Below.refl _ _⟩
        rw [e1, e2]
        exact hr
      | 10, _ =>
        obtain rfl := Option.some.inj ho
        have e1 : b.tmps.getD 76 undef = .bool true := hd 6 (by kernel_rfl) (by decide)
        have e2 : b.tmps.getD 79 undef = .bool true := hd 9 (by kernel_rfl) (by decide)
        exact runs_pick rfl true e1 ⟨e2, Below.refl _ _⟩
      | 11, _ =>
        obtain rfl := Option.some.inj ho
        exact ⟨hd 10 (by kernel_rfl) (by decide), Below.refl _ _⟩
      | 12, _ =>
        obtain rfl := Option.some.inj ho
        refine ⟨true, hd 11 (by kernel_rfl) (by decide), fun _ => ?_, fun h => absurd rfl h⟩
        exact ⟨hx 12 rfl, Below.refl _ _⟩
      | 13, _ =>
        obtain rfl := Option.some.inj ho
        refine ⟨true, hd 11 (by kernel_rfl) (by decide), fun _ => ?_, fun h => absurd rfl h⟩
        exact ⟨hx 14 rfl, Below.refl _ _⟩
      | 14, _ =>
        obtain rfl := Option.some.inj ho
        refine ⟨true, hd 11 (by kernel_rfl) (by decide), fun _ => ?_, fun h => absurd rfl h⟩
        have e1 : b.tmps.getD 82 undef = .string S := hd 12 (by kernel_rfl) (by decide)
        have e2 : b.tmps.getD 83 undef = .string S := hd 13 (by kernel_rfl) (by decide)
        have hr := eqS w' (.tmp 82) (.tmp 83)
        refine runs_value (X := (do eqGuard .eql 9 (.tmp 82) (.tmp 83) (b.tmps.getD 82 undef) (b.tmps.getD 83 undef); binOp .eql 9 (b.tmps.getD 82 undef) (b.tmps.getD 83 undef))) rfl ?_ ⟨rfl, Below.refl _ _⟩
        rw [e1, e2]
        exact hr
      | 15, _ =>
        obtain rfl := Option.some.inj ho
        have e1 : b.tmps.getD 81 undef = .bool true := hd 11 (by kernel_rfl) (by decide)
        have e2 : b.tmps.getD 84 undef = .bool true := hd 14 (by kernel_rfl) (by decide)
        exact runs_pick rfl true e1 ⟨e2, Below.refl _ _⟩
      | 16, _ =>
        obtain rfl := Option.some.inj ho
        exact ⟨hd 15 (by kernel_rfl) (by decide), Below.refl _ _⟩
      | 17, _ =>
        obtain rfl := Option.some.inj ho
        refine ⟨true, hd 16 (by kernel_rfl) (by decide), fun _ => ?_, fun h => absurd rfl h⟩
        exact ⟨hx 13 rfl, Below.refl _ _⟩
      | 18, _ =>
        obtain rfl := Option.some.inj ho
        refine ⟨true, hd 16 (by kernel_rfl) (by decide), fun _ => ?_, fun h => absurd rfl h⟩
        exact ⟨hx 15 rfl, Below.refl _ _⟩
      | 19, _ =>
        obtain rfl := Option.some.inj ho
        refine ⟨true, hd 16 (by kernel_rfl) (by decide), fun _ => ?_, fun h => absurd rfl h⟩
        have e1 : b.tmps.getD 87 undef = .int .i64 es := hd 17 (by kernel_rfl) (by decide)
        have e2 : b.tmps.getD 88 undef = .int .i64 es := hd 18 (by kernel_rfl) (by decide)
        have hr := run_eql_err w' es (.tmp 87) (.tmp 88)
        refine runs_value (X := (do eqGuard .eql 29 (.tmp 87) (.tmp 88) (b.tmps.getD 87 undef) (b.tmps.getD 88 undef); binOp .eql 29 (b.tmps.getD 87 undef) (b.tmps.getD 88 undef))) rfl ?_ ⟨rfl, Below.refl _ _⟩
        rw [e1, e2]
        exact hr
      | 20, _ =>
        obtain rfl := Option.some.inj ho
        have e1 : b.tmps.getD 86 undef = .bool true := hd 16 (by kernel_rfl) (by decide)
        have e2 : b.tmps.getD 89 undef = .bool true := hd 19 (by kernel_rfl) (by decide)
        exact runs_pick rfl true e1 ⟨e2, Below.refl _ _⟩
      | 21, _ =>
        obtain rfl := Option.some.inj ho
        exact ⟨hd 20 (by kernel_rfl) (by decide), Below.refl _ _⟩
      | 22, _ =>
        obtain rfl := Option.some.inj ho
        refine ⟨true, hd 21 (by kernel_rfl) (by decide), fun _ => ?_, fun h => absurd rfl h⟩
        have e5 : b.tmps.getD 8 undef = .pointer (some ⟨VA, 0, none⟩) := hx 8 rfl
        have hr := row_load w' VA 23 5 16 G (K9.out.2.1.below hb K9.out.2.1.lt) Tryd.underlying23 YG.out
        rw [← e5] at hr
        exact runs_value rfl hr ⟨rfl, Below.refl _ _⟩
      | 23, _ =>
        obtain rfl := Option.some.inj ho
        refine ⟨true, hd 21 (by kernel_rfl) (by decide), fun _ => ?_, fun h => absurd rfl h⟩
        have e4 : b.tmps.getD 4 undef = .pointer (some ⟨w.heap.size, 0, none⟩) := hx 4 rfl
        have hr := run_at2 w' w.heap.size
        rw [← e4] at hr
        exact runs_value rfl hr ⟨rfl, Below.refl _ _⟩
      | 24, _ =>
        obtain rfl := Option.some.inj ho
        refine ⟨true, hd 21 (by kernel_rfl) (by decide), fun _ => ?_, fun h => absurd rfl h⟩
        have e1 : b.tmps.getD 93 undef = .pointer (some ⟨w.heap.size, 1, none⟩) := hd 23 (by kernel_rfl) (by decide)
        have hr := run_get w' w.heap.size 1 i ((K9.out.1.below hb K9.out.1.lt).cell 1 _ HAR.out.2)
        rw [← e1] at hr
        exact runs_value rfl hr ⟨rfl, Below.refl _ _⟩
      | 25, _ =>
        obtain rfl := Option.some.inj ho
        refine ⟨true, hd 21 (by kernel_rfl) (by decide), fun _ => ?_, fun h => absurd rfl h⟩
        exact ⟨hx 2 rfl, Below.refl _ _⟩
      | 26, _ =>
        obtain rfl := Option.some.inj ho
        refine ⟨true, hd 21 (by kernel_rfl) (by decide), fun _ => ?_, fun h => absurd rfl h⟩
        have e1 : b.tmps.getD 92 undef = .agg G.toArray := hd 22 (by kernel_rfl) (by decide)
        have e2 : b.tmps.getD 94 undef = .int .i64 i := hd 24 (by kernel_rfl) (by decide)
        have e3 : b.tmps.getD 95 undef = .string m := hd 25 (by kernel_rfl) (by decide)
        refine runs_call rfl (fun _ _ => rfl) ?_
        show Calls _ _ #[b.tmps.getD 92 undef, b.tmps.getD 94 undef, b.tmps.getD 95 undef] w' _
        rw [e1, e2, e3]
        exact (CM.out w' (HT.out.1.below (K9.out.2.2.2.trans (hb.mono K9.out.2.2.2.size)) (Nat.le_refl _))).mono fun e w'' h => ⟨_, h.1, rfl, h.2⟩
      | 27, _ =>
        obtain rfl := Option.some.inj ho
        refine ⟨true, hd 21 (by kernel_rfl) (by decide), fun _ => ?_, fun h => absurd rfl h⟩
        have e5 : b.tmps.getD 8 undef = .pointer (some ⟨VA, 0, none⟩) := hx 8 rfl
        have hr := row_load w' VA 23 5 16 G (K9.out.2.1.below hb K9.out.2.1.lt) Tryd.underlying23 YG.out
        rw [← e5] at hr
        exact runs_value rfl hr ⟨rfl, Below.refl _ _⟩
      | 28, _ =>
        obtain rfl := Option.some.inj ho
        refine ⟨true, hd 21 (by kernel_rfl) (by decide), fun _ => ?_, fun h => absurd rfl h⟩
        have e4 : b.tmps.getD 4 undef = .pointer (some ⟨w.heap.size, 0, none⟩) := hx 4 rfl
        have hr := run_at2 w' w.heap.size
        rw [← e4] at hr
        exact runs_value rfl hr ⟨rfl, Below.refl _ _⟩
      | 29, _ =>
        obtain rfl := Option.some.inj ho
        refine ⟨true, hd 21 (by kernel_rfl) (by decide), fun _ => ?_, fun h => absurd rfl h⟩
        have e1 : b.tmps.getD 98 undef = .pointer (some ⟨w.heap.size, 1, none⟩) := hd 28 (by kernel_rfl) (by decide)
        have hr := run_get w' w.heap.size 1 i ((K9.out.1.below hb K9.out.1.lt).cell 1 _ HAR.out.2)
        rw [← e1] at hr
        exact runs_value rfl hr ⟨rfl, Below.refl _ _⟩
      | 30, _ =>
        obtain rfl := Option.some.inj ho
        refine ⟨true, hd 21 (by kernel_rfl) (by decide), fun _ => ?_, fun h => absurd rfl h⟩
        exact ⟨hx 2 rfl, Below.refl _ _⟩
      | 31, _ =>
        obtain rfl := Option.some.inj ho
        refine ⟨true, hd 21 (by kernel_rfl) (by decide), fun _ => ?_, fun h => absurd rfl h⟩
        have e1 : b.tmps.getD 97 undef = .agg G.toArray := hd 27 (by kernel_rfl) (by decide)
        have e2 : b.tmps.getD 99 undef = .int .i64 i := hd 29 (by kernel_rfl) (by decide)
        have e3 : b.tmps.getD 100 undef = .string m := hd 30 (by kernel_rfl) (by decide)
        refine runs_call rfl (fun _ _ => rfl) ?_
        show Calls _ _ #[b.tmps.getD 97 undef, b.tmps.getD 99 undef, b.tmps.getD 100 undef] w' _
        rw [e1, e2, e3]
        exact (CN.out w' (HT.out.2.below (K9.out.2.2.2.trans (hb.mono K9.out.2.2.2.size)) (Nat.le_refl _))).mono fun e w'' h => ⟨_, h.1, rfl, h.2⟩
      | 32, _ =>
        obtain rfl := Option.some.inj ho
        refine ⟨true, hd 21 (by kernel_rfl) (by decide), fun _ => ?_, fun h => absurd rfl h⟩
        have e1 : b.tmps.getD 96 undef = .agg MS.toArray := hd 26 (by kernel_rfl) (by decide)
        have e2 : b.tmps.getD 101 undef = .agg MS.toArray := hd 31 (by kernel_rfl) (by decide)
        have hr := eqM w' (.tmp 96) (.tmp 101)
        refine runs_value (X := (do eqGuard .eql 23 (.tmp 96) (.tmp 101) (b.tmps.getD 96 undef) (b.tmps.getD 101 undef); binOp .eql 23 (b.tmps.getD 96 undef) (b.tmps.getD 101 undef))) rfl ?_ ⟨rfl, Below.refl _ _⟩
        rw [e1, e2]
        exact hr
      | 33, _ =>
        obtain rfl := Option.some.inj ho
        have e1 : b.tmps.getD 91 undef = .bool true := hd 21 (by kernel_rfl) (by decide)
        have e2 : b.tmps.getD 102 undef = .bool true := hd 32 (by kernel_rfl) (by decide)
        exact runs_pick rfl true e1 ⟨e2, Below.refl _ _⟩
      | z + 34, hz => exact absurd hz (by simp)
    · intro vals w8 hb8 hf8
      have e33 : vals 33 = .bool true := hf8 33 (by decide)
      simp only [puts, List.length_cons, List.length_nil, Nat.zero_add, Nat.reduceAdd, List.drop_succ_cons, List.drop_zero, e33]
      have B8 := Lib.hid (K9.out.2.2.2.trans (hb8.mono K9.out.2.2.2.size))
      clear hb8 hf8 e33 K9
      go_frame
      go_wp2_with fail
      go_ret
      exact ⟨rfl, B8.out⟩
end Go.Proofs.YtkelfcgomeojeaaDoor
end

