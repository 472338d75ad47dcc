import Derived.Test.YtkelfcgomeojeaaDoorJSignPv

section
/- The contract of dioramalaw03.sanity. -/

namespace Go.Proofs.YtkelfcgomeojeaaDoor
open Go.RowKit
set_option linter.unusedVariables false
set_option maxRecDepth 100000

set_option maxHeartbeats 8000000 in
theorem sanity_any (w : World) (hT : HTab w) : Calls Tryd.prog 9 #[] w (Tells true w) := by
  obtain ⟨hzd, -⟩ := zero_of_info dig_zero
  obtain ⟨Zd, hZd⟩ : ∃ Zd, Zd = (H.zeros 16).map bv := ⟨_, rfl⟩
  rw [← hZd] at hzd
  obtain ⟨P, hP⟩ : ∃ P, P = rt5.map bv := ⟨_, rfl⟩
  obtain ⟨D1, hD1⟩ : ∃ D1, D1 = (Sg.msg rt5 1 [109]).map bv := ⟨_, rfl⟩
  obtain ⟨D0, hD0⟩ : ∃ D0, D0 = (Sg.msg rt5 0 [109]).map bv := ⟨_, rfl⟩
  obtain ⟨fs, hfs⟩ : ∃ fs, fs = bs Sg.five := ⟨_, rfl⟩
  obtain ⟨sg, hsg⟩ : ∃ sg, sg = bs sg5 := ⟨_, rfl⟩
  have lZd : Zd.length = 16 := by rw [hZd, List.length_map, H.zeros_len]
  have lP : P.length = 16 := by rw [hP, List.length_map, rt5_len]
  have yZ := size_dig lZd
  have yP := size_dig lP
  have oZ : Zd.toArray.all (·.oneCell') = true := all_oneCell_toArray (by rw [hZd]; exact bytes_one _)
  have oP : P.toArray.all (·.oneCell') = true := all_oneCell_toArray (by rw [hP]; exact bytes_one _)
  have hfz : fs.size = 32 := by rw [hfs, bbytes_size]; rfl
  obtain ⟨xs, hxs⟩ : ∃ xs, xs = fs.extract 1 32 := ⟨_, rfl⟩
  have hxb : sb xs = Sg.five.drop 1 := by rw [hxs, sb_extract, hfs, sb_bs]; rfl
  obtain ⟨ds, hds⟩ : ∃ ds, ds = (Sg.digits (H.zeros 16)).map dv := ⟨_, rfl⟩
  have d0 : ds[0]? = some (.int .i64 0) := by rw [hds]; kernel_rfl
  have d64 : ds[64]? = some (.int .i64 3) := by rw [hds]; kernel_rfl
  have d67 : ds[67]? = some (.int .i64 0) := by rw [hds]; kernel_rfl
  have cD := fun W => digits_any (H.zeros 16) W (H.zeros_len 16)
  rw [← hZd, ← hds] at cD
  have CD := Lib.hid cD
  have HP := Lib.hid hP
  have HD := Lib.hid (And.intro hD1 hD0)
  have HF := Lib.hid hfs
  have HS := Lib.hid hsg
  have HXS := Lib.hid (And.intro hxs hxb)
  have HZ := Lib.hid hZd
  have HDS := Lib.hid (And.intro d0 (And.intro d64 d67))
  have LL := Lib.hid (And.intro lZd lP)
  have YZ := Lib.hid yZ
  have YP := Lib.hid yP
  have HT := Lib.hid hT
  clear hP hD1 hD0 hfs hsg hZd hxs hxb hds d0 d64 d67 cD lZd lP yZ yP hT
  go_enter Tryd.func9, Tryd.ntmps9
  go_wp2_with fail
  refine (sSeed w).mono ?_
  rintro x w1 ⟨rfl, hb1⟩
  rw [← HF.out]
  have B1 := Lib.hid hb1
  clear hb1
  go_wp2_with fail
  refine (sPublic fs P w1 HF.out HP.out (HT.out.next B1.out)).mono ?_
  rintro x w2 ⟨rfl, hb2⟩
  obtain ⟨W3, hW3, m1, m2, m3⟩ := row_new w2 23 16 Zd P LL.out.1 LL.out.2
  have B3 := Lib.hid (B1.out.trans ((hb2.trans (m3.mono hb2.size)).mono B1.out.size))
  have M1 := Lib.hid m1
  have K3 := Lib.hid m2
  have HW3 := Lib.hid hW3
  obtain ⟨V, hV⟩ : ∃ V, V = w2.heap.size := ⟨_, rfl⟩
  clear hb2 m1 m2 m3 hW3 B1
  go_wp2_with (refine wpList_store_mid rfl 23 (.tmp 2) (.tmp 19) rfl w2.heap.size 0 P.toArray rfl rfl M1.out YP.out oP ?_; rw [← HW3.out, ← hV])
  clear M1 HW3
  generalize w2.heap.size = V' at *
  subst hV
  refine (sSign fs sg W3 HF.out HS.out (HT.out.next B3.out)).mono ?_
  rintro x w4 ⟨rfl, hb4⟩
  have B4 := Lib.hid (B3.out.trans (hb4.mono B3.out.size))
  have K4 := Lib.hid (K3.out.below hb4 K3.out.lt)
  clear hb4 B3 K3
  go_wp2_with (refine wpList_load_row rfl 23 (.tmp 2) rfl V rfl _ P.toArray (0, 0) _ K4.out Tryd.underlying23 rfl YP.out ?_)
  refine (sVer sg P w4 HP.out HS.out (HT.out.next B4.out)).mono ?_
  rintro x w5 ⟨rfl, hb5⟩
  have B5 := Lib.hid (B4.out.trans (hb5.mono B4.out.size))
  have K5 := Lib.hid (K4.out.below hb5 K4.out.lt)
  clear hb5 B4 K4
  go_wp2_with (refine wpList_load_row rfl 23 (.tmp 2) rfl V rfl _ P.toArray (0, 0) _ K5.out Tryd.underlying23 rfl YP.out ?_)
  refine (sWrong sg P w5 HP.out HS.out (HT.out.next B5.out)).mono ?_
  rintro x w6 ⟨rfl, hb6⟩
  have B6 := Lib.hid (B5.out.trans (hb6.mono B5.out.size))
  have K6 := Lib.hid (K5.out.below hb6 K5.out.lt)
  clear hb6 B5 K5
  go_wp2_with fail
  refine (sSpent fs w6 HF.out (HT.out.next B6.out)).mono ?_
  rintro x w7 ⟨rfl, hb7⟩
  have B7 := Lib.hid (B6.out.trans (hb7.mono B6.out.size))
  have K7 := Lib.hid (K6.out.below hb7 K6.out.lt)
  clear hb7 B6 K6
  go_wp2_with fail
  rw [← HXS.out.1]
  refine (sShort xs Zd w7 HXS.out.2 HZ.out (HT.out.next B7.out)).mono ?_
  rintro x w8 ⟨rfl, hb8⟩
  obtain ⟨W9, hW9, m1, m2, m3⟩ := row_new w8 23 16 Zd Zd LL.out.1 LL.out.1
  have B9 := Lib.hid (B7.out.trans ((hb8.trans (m3.mono hb8.size)).mono B7.out.size))
  have K9 := Lib.hid (K7.out.below (hb8.trans (m3.mono hb8.size)) K7.out.lt)
  have M1 := Lib.hid m1
  have HW9 := Lib.hid hW9
  clear hb8 m1 m2 m3 hW9 B7 K7
  go_wp2_with (refine wpList_store_mid rfl 23 (.tmp 12) (.tmp 47) rfl w8.heap.size 0 Zd.toArray rfl rfl M1.out YZ.out oZ ?_; rw [← HW9.out])
  refine (CD.out W9).mono ?_
  rintro x w10 ⟨rfl, hk10, hb10⟩
  have B10 := Lib.hid (B9.out.trans (hb10.mono B9.out.size))
  have K10 := Lib.hid (And.intro (K9.out.below hb10 K9.out.lt) hk10)
  obtain ⟨Vb, hVb⟩ : ∃ Vb, Vb = W9.heap.size + 1 := ⟨_, rfl⟩
  rw [← hVb] at K10 ⊢
  clear hb10 hk10 B9 K9 M1 HW9 CD hVb
  go_wp2_with fail
  try go_frame
  refine wp_region_guarded [66, 67, 68, 69, 70, 71, 72, 73, 74, 75, 76, 77, 78, 79, 80, 81, 82, 83, 84, 85, 86, 87, 88, 89, 90, 91, 92, 93, 94, 95, 96, 97, 98, 99, 100, 101, 102, 103, 104] [.is (.int .i64 1), .is (.bool true), .is (.bool true), .is (.int .i64 10), .is (.bool true), .is (.bool true), .is (.bool true), .is (.int .i64 22), .is (.bool true), .is (.bool true), .is (.bool true), .is (.int .i64 1), .is (.bool true), .is (.bool true), .is (.bool true), .is (.slice (some ⟨Vb, 0, none⟩) 68 68), .is (.pointer (some ⟨Vb, 0, none⟩)), .is (.int .i64 0), .is (.bool true), .is (.bool true), .is (.bool true), .is (.slice (some ⟨Vb, 0, none⟩) 68 68), .is (.pointer (some ⟨Vb, 64, none⟩)), .is (.int .i64 3), .is (.bool true), .is (.bool true), .is (.bool true), .is (.slice (some ⟨Vb, 0, none⟩) 68 68), .is (.pointer (some ⟨Vb, 67, none⟩)), .is (.int .i64 0), .is (.bool true), .is (.bool true), .is (.bool true), .is (.agg P.toArray), .is (.agg D1.toArray), .is (.agg P.toArray), .is (.agg D0.toArray), .is (.bool true), .is (.bool true)] (by kernel_rfl) (by kernel_rfl) ?_ ?_
  · intro i hi b w' hb hd hx o ho
    match i, hi with
    | 0, _ =>
      obtain rfl := Option.some.inj ho
      exact ⟨hx 6 rfl, Below.refl _ _⟩
    | 1, _ =>
      obtain rfl := Option.some.inj ho
      have e1 : b.tmps.getD 66 undef = .int .i64 1 := hd 0 (by kernel_rfl) (by decide)
      have hr := run_eql_int w' 1 (.tmp 66) (.const (.int .i64 1))
      refine runs_value (X := (do eqGuard .eql 3 (.tmp 66) (.const (.int .i64 1)) (b.tmps.getD 66 undef) (.int .i64 1); binOp .eql 3 (b.tmps.getD 66 undef) (.int .i64 1))) rfl ?_ ⟨rfl, Below.refl _ _⟩
      rw [e1]
      exact hr
    | 2, _ =>
      obtain rfl := Option.some.inj ho
      exact ⟨hd 1 (by kernel_rfl) (by decide), Below.refl _ _⟩
    | 3, _ =>
      obtain rfl := Option.some.inj ho
      refine ⟨true, hd 2 (by kernel_rfl) (by decide), fun _ => ?_, fun h => absurd rfl h⟩
      exact ⟨hx 9 rfl, Below.refl _ _⟩
    | 4, _ =>
      obtain rfl := Option.some.inj ho
      refine ⟨true, hd 2 (by kernel_rfl) (by decide), fun _ => ?_, fun h => absurd rfl h⟩
      have e1 : b.tmps.getD 69 undef = .int .i64 10 := hd 3 (by kernel_rfl) (by decide)
      have hr := run_eql_err w' 10 (.tmp 69) (.const (.int .i64 10))
      refine runs_value (X := (do eqGuard .eql 29 (.tmp 69) (.const (.int .i64 10)) (b.tmps.getD 69 undef) (.int .i64 10); binOp .eql 29 (b.tmps.getD 69 undef) (.int .i64 10))) rfl ?_ ⟨rfl, Below.refl _ _⟩
      rw [e1]
      exact hr
    | 5, _ =>
      obtain rfl := Option.some.inj ho
      have e1 : b.tmps.getD 68 undef = .bool true := hd 2 (by kernel_rfl) (by decide)
      have e2 : b.tmps.getD 70 undef = .bool true := hd 4 (by kernel_rfl) (by decide)
      exact runs_pick rfl true e1 ⟨e2, Below.refl _ _⟩
    | 6, _ =>
      obtain rfl := Option.some.inj ho
      exact ⟨hd 5 (by kernel_rfl) (by decide), Below.refl _ _⟩
    | 7, _ =>
      obtain rfl := Option.some.inj ho
      refine ⟨true, hd 6 (by kernel_rfl) (by decide), fun _ => ?_, fun h => absurd rfl h⟩
      exact ⟨hx 11 rfl, Below.refl _ _⟩
    | 8, _ =>
      obtain rfl := Option.some.inj ho
      refine ⟨true, hd 6 (by kernel_rfl) (by decide), fun _ => ?_, fun h => absurd rfl h⟩
      have e1 : b.tmps.getD 73 undef = .int .i64 22 := hd 7 (by kernel_rfl) (by decide)
      have hr := run_eql_err w' 22 (.tmp 73) (.const (.int .i64 22))
      refine runs_value (X := (do eqGuard .eql 29 (.tmp 73) (.const (.int .i64 22)) (b.tmps.getD 73 undef) (.int .i64 22); binOp .eql 29 (b.tmps.getD 73 undef) (.int .i64 22))) rfl ?_ ⟨rfl, Below.refl _ _⟩
      rw [e1]
      exact hr
    | 9, _ =>
      obtain rfl := Option.some.inj ho
      have e1 : b.tmps.getD 72 undef = .bool true := hd 6 (by kernel_rfl) (by decide)
      have e2 : b.tmps.getD 74 undef = .bool true := hd 8 (by kernel_rfl) (by decide)
      exact runs_pick rfl true e1 ⟨e2, Below.refl _ _⟩
    | 10, _ =>
      obtain rfl := Option.some.inj ho
      exact ⟨hd 9 (by kernel_rfl) (by decide), Below.refl _ _⟩
    | 11, _ =>
      obtain rfl := Option.some.inj ho
      refine ⟨true, hd 10 (by kernel_rfl) (by decide), fun _ => ?_, fun h => absurd rfl h⟩
      exact ⟨hx 13 rfl, Below.refl _ _⟩
    | 12, _ =>
      obtain rfl := Option.some.inj ho
      refine ⟨true, hd 10 (by kernel_rfl) (by decide), fun _ => ?_, fun h => absurd rfl h⟩
      have e1 : b.tmps.getD 77 undef = .int .i64 1 := hd 11 (by kernel_rfl) (by decide)
      have hr := run_eql_err w' 1 (.tmp 77) (.const (.int .i64 1))
      refine runs_value (X := (do eqGuard .eql 29 (.tmp 77) (.const (.int .i64 1)) (b.tmps.getD 77 undef) (.int .i64 1); binOp .eql 29 (b.tmps.getD 77 undef) (.int .i64 1))) rfl ?_ ⟨rfl, Below.refl _ _⟩
      rw [e1]
      exact hr
    | 13, _ =>
      obtain rfl := Option.some.inj ho
      have e1 : b.tmps.getD 76 undef = .bool true := hd 10 (by kernel_rfl) (by decide)
      have e2 : b.tmps.getD 78 undef = .bool true := hd 12 (by kernel_rfl) (by decide)
      exact runs_pick rfl true e1 ⟨e2, Below.refl _ _⟩
    | 14, _ =>
      obtain rfl := Option.some.inj ho
      exact ⟨hd 13 (by kernel_rfl) (by decide), Below.refl _ _⟩
    | 15, _ =>
      obtain rfl := Option.some.inj ho
      refine ⟨true, hd 14 (by kernel_rfl) (by decide), fun _ => ?_, fun h => absurd rfl h⟩
      exact ⟨hx 14 rfl, Below.refl _ _⟩
    | 16, _ =>
      obtain rfl := Option.some.inj ho
      refine ⟨true, hd 14 (by kernel_rfl) (by decide), fun _ => ?_, fun h => absurd rfl h⟩
      have e1 : b.tmps.getD 81 undef = .slice (some ⟨Vb, 0, none⟩) 68 68 := hd 15 (by kernel_rfl) (by decide)
      have hr := run_at w' Vb 0 (by decide)
      rw [← e1] at hr
      exact runs_value rfl hr ⟨rfl, Below.refl _ _⟩
    | 17, _ =>
      obtain rfl := Option.some.inj ho
      refine ⟨true, hd 14 (by kernel_rfl) (by decide), fun _ => ?_, fun h => absurd rfl h⟩
      have e1 : b.tmps.getD 82 undef = .pointer (some ⟨Vb, 0, none⟩) := hd 16 (by kernel_rfl) (by decide)
      have hr := run_get w' Vb 0 0 ((K10.out.2.below hb K10.out.2.lt).cell 0 _ HDS.out.1)
      rw [← e1] at hr
      exact runs_value rfl hr ⟨rfl, Below.refl _ _⟩
    | 18, _ =>
      obtain rfl := Option.some.inj ho
      refine ⟨true, hd 14 (by kernel_rfl) (by decide), fun _ => ?_, fun h => absurd rfl h⟩
      have e1 : b.tmps.getD 83 undef = .int .i64 0 := hd 17 (by kernel_rfl) (by decide)
      have hr := run_eql_int w' 0 (.tmp 83) (.const (.int .i64 0))
      refine runs_value (X := (do eqGuard .eql 3 (.tmp 83) (.const (.int .i64 0)) (b.tmps.getD 83 undef) (.int .i64 0); binOp .eql 3 (b.tmps.getD 83 undef) (.int .i64 0))) rfl ?_ ⟨rfl, Below.refl _ _⟩
      rw [e1]
      exact hr
    | 19, _ =>
      obtain rfl := Option.some.inj ho
      have e1 : b.tmps.getD 80 undef = .bool true := hd 14 (by kernel_rfl) (by decide)
      have e2 : b.tmps.getD 84 undef = .bool true := hd 18 (by kernel_rfl) (by decide)
      exact runs_pick rfl true e1 ⟨e2, Below.refl _ _⟩
    | 20, _ =>
      obtain rfl := Option.some.inj ho
      exact ⟨hd 19 (by kernel_rfl) (by decide), Below.refl _ _⟩
    | 21, _ =>
      obtain rfl := Option.some.inj ho
      refine ⟨true, hd 20 (by kernel_rfl) (by decide), fun _ => ?_, fun h => absurd rfl h⟩
      exact ⟨hx 14 rfl, Below.refl _ _⟩
    | 22, _ =>
      obtain rfl := Option.some.inj ho
      refine ⟨true, hd 20 (by kernel_rfl) (by decide), fun _ => ?_, fun h => absurd rfl h⟩
      have e1 : b.tmps.getD 87 undef = .slice (some ⟨Vb, 0, none⟩) 68 68 := hd 21 (by kernel_rfl) (by decide)
      have hr := run_at w' Vb 64 (by decide)
      rw [← e1] at hr
      exact runs_value rfl hr ⟨rfl, Below.refl _ _⟩
    | 23, _ =>
      obtain rfl := Option.some.inj ho
      refine ⟨true, hd 20 (by kernel_rfl) (by decide), fun _ => ?_, fun h => absurd rfl h⟩
      have e1 : b.tmps.getD 88 undef = .pointer (some ⟨Vb, 64, none⟩) := hd 22 (by kernel_rfl) (by decide)
      have hr := run_get w' Vb 64 3 ((K10.out.2.below hb K10.out.2.lt).cell 64 _ HDS.out.2.1)
      rw [← e1] at hr
      exact runs_value rfl hr ⟨rfl, Below.refl _ _⟩
    | 24, _ =>
      obtain rfl := Option.some.inj ho
      refine ⟨true, hd 20 (by kernel_rfl) (by decide), fun _ => ?_, fun h => absurd rfl h⟩
      have e1 : b.tmps.getD 89 undef = .int .i64 3 := hd 23 (by kernel_rfl) (by decide)
      have hr := run_eql_int w' 3 (.tmp 89) (.const (.int .i64 3))
      refine runs_value (X := (do eqGuard .eql 3 (.tmp 89) (.const (.int .i64 3)) (b.tmps.getD 89 undef) (.int .i64 3); binOp .eql 3 (b.tmps.getD 89 undef) (.int .i64 3))) rfl ?_ ⟨rfl, Below.refl _ _⟩
      rw [e1]
      exact hr
    | 25, _ =>
      obtain rfl := Option.some.inj ho
      have e1 : b.tmps.getD 86 undef = .bool true := hd 20 (by kernel_rfl) (by decide)
      have e2 : b.tmps.getD 90 undef = .bool true := hd 24 (by kernel_rfl) (by decide)
      exact runs_pick rfl true e1 ⟨e2, Below.refl _ _⟩
    | 26, _ =>
      obtain rfl := Option.some.inj ho
      exact ⟨hd 25 (by kernel_rfl) (by decide), Below.refl _ _⟩
    | 27, _ =>
      obtain rfl := Option.some.inj ho
      refine ⟨true, hd 26 (by kernel_rfl) (by decide), fun _ => ?_, fun h => absurd rfl h⟩
      exact ⟨hx 14 rfl, Below.refl _ _⟩
    | 28, _ =>
      obtain rfl := Option.some.inj ho
      refine ⟨true, hd 26 (by kernel_rfl) (by decide), fun _ => ?_, fun h => absurd rfl h⟩
      have e1 : b.tmps.getD 93 undef = .slice (some ⟨Vb, 0, none⟩) 68 68 := hd 27 (by kernel_rfl) (by decide)
      have hr := run_at w' Vb 67 (by decide)
      rw [← e1] at hr
      exact runs_value rfl hr ⟨rfl, Below.refl _ _⟩
    | 29, _ =>
      obtain rfl := Option.some.inj ho
      refine ⟨true, hd 26 (by kernel_rfl) (by decide), fun _ => ?_, fun h => absurd rfl h⟩
      have e1 : b.tmps.getD 94 undef = .pointer (some ⟨Vb, 67, none⟩) := hd 28 (by kernel_rfl) (by decide)
      have hr := run_get w' Vb 67 0 ((K10.out.2.below hb K10.out.2.lt).cell 67 _ HDS.out.2.2)
      rw [← e1] at hr
      exact runs_value rfl hr ⟨rfl, Below.refl _ _⟩
    | 30, _ =>
      obtain rfl := Option.some.inj ho
      refine ⟨true, hd 26 (by kernel_rfl) (by decide), fun _ => ?_, fun h => absurd rfl h⟩
      have e1 : b.tmps.getD 95 undef = .int .i64 0 := hd 29 (by kernel_rfl) (by decide)
      have hr := run_eql_int w' 0 (.tmp 95) (.const (.int .i64 0))
      refine runs_value (X := (do eqGuard .eql 3 (.tmp 95) (.const (.int .i64 0)) (b.tmps.getD 95 undef) (.int .i64 0); binOp .eql 3 (b.tmps.getD 95 undef) (.int .i64 0))) rfl ?_ ⟨rfl, Below.refl _ _⟩
      rw [e1]
      exact hr
    | 31, _ =>
      obtain rfl := Option.some.inj ho
      have e1 : b.tmps.getD 92 undef = .bool true := hd 26 (by kernel_rfl) (by decide)
      have e2 : b.tmps.getD 96 undef = .bool true := hd 30 (by kernel_rfl) (by decide)
      exact runs_pick rfl true e1 ⟨e2, Below.refl _ _⟩
    | 32, _ =>
      obtain rfl := Option.some.inj ho
      exact ⟨hd 31 (by kernel_rfl) (by decide), Below.refl _ _⟩
    | 33, _ =>
      obtain rfl := Option.some.inj ho
      refine ⟨true, hd 32 (by kernel_rfl) (by decide), fun _ => ?_, fun h => absurd rfl h⟩
      have e9 : b.tmps.getD 2 undef = .pointer (some ⟨V, 0, none⟩) := hx 2 rfl
      have hr := row_load w' V 23 5 16 P (K10.out.1.below hb K10.out.1.lt) Tryd.underlying23 YP.out
      rw [← e9] at hr
      exact runs_value rfl hr ⟨rfl, Below.refl _ _⟩
    | 34, _ =>
      obtain rfl := Option.some.inj ho
      refine ⟨true, hd 32 (by kernel_rfl) (by decide), fun _ => ?_, fun h => absurd rfl h⟩
      have e1 : b.tmps.getD 99 undef = .agg P.toArray := hd 33 (by kernel_rfl) (by decide)
      refine runs_call rfl (fun _ _ => rfl) ?_
      show Calls _ _ #[b.tmps.getD 99 undef, .int .i64 1, .string { data := #[109] }] w' _
      rw [e1]
      exact (sDigest P 1 D1 w' HP.out (by unfold M.I64; decide) HD.out.1 (HT.out.below (B10.out.trans (hb.mono B10.out.size)) (Nat.le_refl _))).mono fun e w'' h => ⟨_, h.1, rfl, h.2⟩
    | 35, _ =>
      obtain rfl := Option.some.inj ho
      refine ⟨true, hd 32 (by kernel_rfl) (by decide), fun _ => ?_, fun h => absurd rfl h⟩
      have e9 : b.tmps.getD 2 undef = .pointer (some ⟨V, 0, none⟩) := hx 2 rfl
      have hr := row_load w' V 23 5 16 P (K10.out.1.below hb K10.out.1.lt) Tryd.underlying23 YP.out
      rw [← e9] at hr
      exact runs_value rfl hr ⟨rfl, Below.refl _ _⟩
    | 36, _ =>
      obtain rfl := Option.some.inj ho
      refine ⟨true, hd 32 (by kernel_rfl) (by decide), fun _ => ?_, fun h => absurd rfl h⟩
      have e1 : b.tmps.getD 101 undef = .agg P.toArray := hd 35 (by kernel_rfl) (by decide)
      refine runs_call rfl (fun _ _ => rfl) ?_
      show Calls _ _ #[b.tmps.getD 101 undef, .int .i64 0, .string { data := #[109] }] w' _
      rw [e1]
      exact (sDigest P 0 D0 w' HP.out (by unfold M.I64; decide) HD.out.2 (HT.out.below (B10.out.trans (hb.mono B10.out.size)) (Nat.le_refl _))).mono fun e w'' h => ⟨_, h.1, rfl, h.2⟩
    | 37, _ =>
      obtain rfl := Option.some.inj ho
      refine ⟨true, hd 32 (by kernel_rfl) (by decide), fun _ => ?_, fun h => absurd rfl h⟩
      have e1 : b.tmps.getD 100 undef = .agg D1.toArray := hd 34 (by kernel_rfl) (by decide)
      have e2 : b.tmps.getD 102 undef = .agg D0.toArray := hd 36 (by kernel_rfl) (by decide)
      have hr := run_neq_dig (.tmp 100) (.tmp 102) (Sg.msg rt5 1 [109]) (Sg.msg rt5 0 [109]) (Sg.of_len _ _) (Sg.of_len _ _) Sg.msgs_apart w'
      rw [← HD.out.1, ← HD.out.2, ← e1, ← e2] at hr
      exact runs_value rfl hr ⟨rfl, Below.refl _ _⟩
    | 38, _ =>
      obtain rfl := Option.some.inj ho
      have e1 : b.tmps.getD 98 undef = .bool true := hd 32 (by kernel_rfl) (by decide)
      have e2 : b.tmps.getD 103 undef = .bool true := hd 37 (by kernel_rfl) (by decide)
      exact runs_pick rfl true e1 ⟨e2, Below.refl _ _⟩
    | n + 39, h => exact absurd h (by simp)
  · intro vals w' hb hf
    have e9 : vals 38 = .bool true := hf 38 (by decide)
    simp only [puts, List.length_cons, List.length_nil, Nat.zero_add, Nat.reduceAdd, List.drop_succ_cons, List.drop_zero, e9]
    have hB := Lib.hid (B10.out.trans (hb.mono B10.out.size))
    clear e9 hb hf
    go_frame
    go_wp2_with fail
    go_ret
    exact ⟨rfl, hB.out⟩
end Go.Proofs.YtkelfcgomeojeaaDoor
end

