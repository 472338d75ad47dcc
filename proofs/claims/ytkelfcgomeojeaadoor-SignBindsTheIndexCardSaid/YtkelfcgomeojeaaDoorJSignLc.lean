import Derived.Test.YtkelfcgomeojeaaDoorJSignPw

section
/- SignIsAccepted. -/

namespace Go.Proofs.YtkelfcgomeojeaaDoor
open Go.RowKit
set_option linter.unusedVariables false
set_option maxRecDepth 100000

theorem sig_size (sd : List UInt8) (h i : Nat) (m : List UInt8) : (sigS sd h i m).length = (M.encI (i : Int)).length + (1088 + 16 * h) := by
  unfold sigS
  rw [List.length_append, List.length_append, cvs_size, beside_len]
  omega
/-- A signature of another length. -/
theorem bad_len (sd : List UInt8) (h i : Nat) (m rest : List UInt8) (hh : h ≤ 6) (hi : i < 2 ^ h) (hm : m.length ≤ 1048576) (hr : rest.length ≠ (68 + h) * 16) : verS (Sg.root sd h) h m (M.encI (i : Int) ++ rest) = (0, 2) := by
  have h2h : 2 ^ h ≤ 64 := Nat.pow_le_pow_right (n := 2) (by decide) hh
  unfold verS
  rw [M.getI_encI _ (by unfold M.I64; omega)]
  simp only
  rw [List.drop_left, if_pos (show okH (h : Int) from ⟨by omega, by omega⟩), if_pos hm, if_pos trivial, if_neg (fun e => hr (by have := e.2; rw [Int.toNat_natCast] at this; exact this))]
theorem long_sig (sd : List UInt8) (h i : Nat) (m : List UInt8) (hh : h ≤ 6) (hi : i < 2 ^ h) (hm : m.length ≤ 1048576) : verS (Sg.root sd h) h m (sigS sd h i m ++ [120]) = (0, 2) := by
  unfold sigS
  rw [List.append_assoc, List.append_assoc]
  refine bad_len sd h i m _ hh hi hm ?_
  rw [List.length_append, List.length_append, cvs_size, beside_len]
  simp
  omega
theorem less_sig (sd : List UInt8) (h i : Nat) (m : List UInt8) (hh : h ≤ 6) (hi : i < 2 ^ h) (hm : m.length ≤ 1048576) : verS (Sg.root sd h) h m ((sigS sd h i m).take ((sigS sd h i m).length - 1)) = (0, 2) := by
  have hl := sig_size sd h i m
  have e : (sigS sd h i m).take ((sigS sd h i m).length - 1) = M.encI (i : Int) ++ ((sigS sd h i m).drop (M.encI (i : Int)).length).take (1087 + 16 * h) := by
    rw [drop_sig]
    have e2 : sigS sd h i m = M.encI (i : Int) ++ (cvs i (Sg.digits (Sg.msg (Sg.root sd h) (i : Int) m)) sd 68 ++ (Sg.beside sd i h).flatten) := by unfold sigS; rw [List.append_assoc]
    rw [hl, e2, List.take_append, List.take_of_length_le (by omega)]
    congr 2
    omega
  rw [e]
  refine bad_len sd h i m _ hh hi hm ?_
  rw [List.length_take, List.length_drop, hl]
  omega

theorem run_len_str (w : World) (s : ByteArray) (b : Act) (o : Oper) (t : Nat) (ats : Array TypeId) (ho : o.op = .call { callee := .builtin .len, args := #[.tmp t], argTypes := #[9] }) (ht : b.tmps.getD t undef = .string s) : (execOp b.eval o).run Tryd.prog w = .ok (.value (.int .i64 s.size)) w := by
  have e : b.eval (.tmp t) = .string s := ht
  unfold execOp
  simp only [ho, resolve, invoke, builtin, List.map_toArray, List.map_cons, List.map_nil, e]
  go_simp
theorem run_sub_one (w : World) (n : Nat) (hn : 1 ≤ n) (h : n ≤ 1000000) (x y : Operand) : (do eqGuard BinOp.sub 3 x y (.int .i64 n) (.int .i64 1); binOp BinOp.sub 3 (.int .i64 n) (.int .i64 1)).run Tryd.prog w = .ok (.int .i64 ((n - 1 : Nat) : Int)) w := by
  go_simp
  rw [IntKind.wrap_i64]
  omega
theorem run_cut_to (w : World) (s : ByteArray) (n : Nat) (h : n ≤ s.size) : (Instr.sliceAt 9 (.string s) none (some (.int .i64 n)) none).run Tryd.prog w = .ok (.string (s.extract 0 n)) w := by
  have h1 : (n : Int) ≤ s.size := by omega
  have h2 : (0 : Int) ≤ n := by omega
  go_simp
set_option maxHeartbeats 8000000 in
theorem accepted_walk (c : UInt8) (hh ii : Nat) (m : ByteArray) (w : World) (h1 : hh < 256) (h2 : ii < 256) (hT : HTab w) : Calls Tryd.prog 6 #[.int .u8 (c.toNat : Int), .int .u8 (hh : Int), .int .u8 (ii : Int), .string m] w (Tells true w) := by
  have cS := sanity_any w hT
  have CS := Lib.hid cS
  clear cS
  by_cases hm : 200 < m.size
  · have hm' : (200 : Int) < m.size := by omega
    clear hT hm
    go_enter Tryd.func6, Tryd.ntmps6
    go_wp2_with fail
    refine CS.out.mono ?_
    rintro e w1 ⟨rfl, hb1⟩
    have B1 := Lib.hid hb1
    clear hb1 CS
    go_wp2_with fail
    go_ret
    exact ⟨rfl, B1.out⟩
  have hm' : (m.size : Int) ≤ 200 := by omega
  obtain ⟨h, hhd⟩ : ∃ h, h = hh % 3 := ⟨_, rfl⟩
  have h2' : h ≤ 2 := by omega
  obtain ⟨i, hid⟩ : ∃ i, i = ii % 2 ^ h := ⟨_, rfl⟩
  have hpos : 0 < 2 ^ h := Nat.two_pow_pos h
  have hi : i < 2 ^ h := by rw [hid]; exact Nat.mod_lt _ hpos
  have ik : (0 : Int) ≤ hh := by omega
  obtain ⟨P, hP⟩ : ∃ P, P = 2 ^ h := ⟨_, rfl⟩
  have hw : wrap64 ((2 : Int) ^ (hh % 3)) = (P : Int) := by
    have h4 : 2 ^ h ≤ 4 := Nat.pow_le_pow_right (n := 2) (by decide) h2'
    rw [hP, ← w64 (2 ^ h) (by omega), hhd]
    simp
  have hP0 : ((P : Int) == 0) = false := by simp; omega
  have hP1 : (0 : Int) < P := by omega
  have hP2 : (P : Int) ≠ 0 := by omega
  have hP3 : P ≠ 0 := by omega
  have HT := Lib.hid hT
  have HI := Lib.hid (And.intro hhd (And.intro h2' (And.intro hid (And.intro hi hP))))
  clear hT hhd h2' hid hi hP hpos
  go_enter Tryd.func6, Tryd.ntmps6
  go_wp2_with fail
  refine CS.out.mono ?_
  rintro e w1 ⟨rfl, hb1⟩
  have B1 := Lib.hid hb1
  clear hb1 CS
  go_wp2_with fail
  have he1 : (hh : Int) % 3 = (h : Int) := by rw [HI.out.1]; rfl
  have he2 : (ii : Int) % (P : Int) = (i : Int) := by rw [HI.out.2.2.1, ← HI.out.2.2.2.2]; rfl
  rw [he1, he2]
  clear he1 he2 hw hP0 hP1 hP2 hP3
  obtain ⟨hzd, -⟩ := zero_of_info dig_zero
  obtain ⟨Zd, hZd⟩ : ∃ Zd, Zd = (H.zeros 16).map bv := ⟨_, rfl⟩
  rw [← hZd] at hzd
  have lZd : Zd.length = 16 := by rw [hZd, List.length_map, H.zeros_len]
  obtain ⟨sd, hsd⟩ : ∃ sd, sd = List.replicate 32 c := ⟨_, rfl⟩
  have lsd : sd.length = 32 := by rw [hsd]; simp
  obtain ⟨fs, hfs⟩ : ∃ fs, fs = bs sd := ⟨_, rfl⟩
  obtain ⟨rt, hrt⟩ : ∃ rt, rt = Sg.root sd h := ⟨_, rfl⟩
  have lrt : rt.length = 16 := by rw [hrt, root_len]
  obtain ⟨R, hR⟩ : ∃ R, R = rt.map bv := ⟨_, rfl⟩
  have lR : R.length = 16 := by rw [hR, List.length_map, lrt]
  have yR := size_dig lR
  have oR : R.toArray.all (·.oneCell') = true := all_oneCell_toArray (by rw [hR]; exact bytes_one _)
  obtain ⟨sl, hsl⟩ : ∃ sl, sl = sigS sd h i (sb m) := ⟨_, rfl⟩
  have h2 := HI.out.2.1
  have hi := HI.out.2.2.2.1
  have hsb : (sb m).length ≤ 1048576 := by rw [sb_len]; omega
  have hel := M.encI_len_le (i : Int) (by unfold M.I64; have : 2 ^ h ≤ 4 := Nat.pow_le_pow_right (n := 2) (by decide) h2; omega)
  have hsz : sl.length ≤ 2000 ∧ 1088 ≤ sl.length := by rw [hsl, sig_size]; omega
  obtain ⟨sg, hsg⟩ : ∃ sg, sg = bs sl := ⟨_, rfl⟩
  have hsgs : sg.size ≤ 2000 := by rw [hsg, bbytes_size]; exact hsz.1
  have hsgl : 1088 ≤ sg.size := by rw [hsg, bbytes_size]; exact hsz.2
  have hv : okS sd (h : Int) := ⟨lsd, by omega, by omega⟩
  have hI : M.I64 (i : Int) := by unfold M.I64; have : 2 ^ h ≤ 4 := Nat.pow_le_pow_right (n := 2) (by decide) h2; omega
  have pu : pubS sd (h : Int) = (rt, 0) := (if_pos hv).trans (by rw [hrt]; rfl)
  have sn : signS sd (h : Int) (i : Int) (sb m) = (sl, 0) := (if_pos hv).trans ((if_pos (show okI (h : Int).toNat (i : Int) from ⟨by omega, by rw [Int.toNat_natCast]; omega⟩)).trans ((if_pos hsb).trans (by rw [hsl]; rfl)))
  have cP := fun W hT => public_any fs (h : Int) W hT
  have cS := fun W hT => sign_any fs (h : Int) (i : Int) m W (by omega) hI hT
  have cV := fun (s : ByteArray) (hs : s.size ≤ 100000000) W hT => verify_any rt (h : Int) m s W lrt (by omega) hs hT
  have v1 : verS rt (h : Int) (sb m) (sb sg) = ((i : Int), 0) := by rw [hsg, sb_bs, hsl, hrt]; exact accepted sd h i (sb m) (by omega) hi hsb
  obtain ⟨xs, hxs⟩ : ∃ xs, xs = sg ++ ⟨#[120]⟩ := ⟨_, rfl⟩
  have v2 : verS rt (h : Int) (sb m) (sb xs) = (0, 2) := by rw [hxs, sb_append, hsg, sb_bs, hsl, hrt]; exact long_sig sd h i (sb m) (by omega) hi hsb
  obtain ⟨ys, hys⟩ : ∃ ys, ys = sg.extract 0 (sg.size - 1) := ⟨_, rfl⟩
  have v3 : verS rt (h : Int) (sb m) (sb ys) = (0, 2) := by
    rw [hys, sb_extract, List.drop_zero, Nat.sub_zero, ← sb_len, hsg, sb_bs, hsl, hrt]
    exact less_sig sd h i (sb m) (by omega) hi hsb
  have hxsz : xs.size ≤ 3000 := by rw [← sb_len, hxs, sb_append, List.length_append, sb_len]; have : (sb ⟨#[120]⟩).length = 1 := rfl; omega
  have hysz : ys.size ≤ 3000 := by rw [hys]; simp; omega
  have cV1 := fun W hT => cV sg (by omega) W hT
  have cV2 := fun W hT => cV xs (by omega) W hT
  have cV3 := fun W hT => cV ys (by omega) W hT
  rw [v1, ← hR] at cV1
  rw [v2, ← hR] at cV2
  rw [v3, ← hR] at cV3
  rw [hfs, sb_bs, pu, ← hfs] at cP
  rw [hfs, sb_bs, sn, ← hfs] at cS
  simp only at cP cS cV1 cV2 cV3
  rw [← hR] at cP
  rw [← hsg] at cS
  have CP := Lib.hid cP
  have CSi := Lib.hid cS
  have CV1 := Lib.hid cV1
  have CV2 := Lib.hid cV2
  have CV3 := Lib.hid cV3
  have HF := Lib.hid (And.intro hsd hfs)
  have LL := Lib.hid (And.intro lZd lR)
  have YR := Lib.hid yR
  have HX := Lib.hid hxs
  have HY := Lib.hid hys
  have cSd := fun W => seed_any c W
  rw [← hsd, ← hfs] at cSd
  have CSd := Lib.hid cSd
  have hl2 : (2 : Int) ≤ sg.size := by omega
  clear cP cS cV cV1 cV2 cV3 cSd hsd hfs lsd hrt lrt hR lR yR hsl hsb hel hsz hsg hv hI pu sn v1 v2 v3 hxs hys hxsz hysz h2 hi hZd lZd HI
  refine (CSd.out w1).mono ?_
  rintro e w2 ⟨rfl, hb2⟩
  have B2 := Lib.hid (B1.out.trans (hb2.mono B1.out.size))
  clear hb2 B1
  go_wp2_with fail
  refine (CP.out w2 (HT.out.next B2.out)).mono ?_
  rintro e w3 ⟨rfl, hb3⟩
  obtain ⟨W4, hW4, m1, m2, m3⟩ := row_new w3 23 16 Zd R LL.out.1 LL.out.2
  have B4 := Lib.hid (And.intro m2 (B2.out.trans ((hb3.trans (m3.mono hb3.size)).mono B2.out.size)))
  have M1 := Lib.hid m1
  have HW4 := Lib.hid hW4
  clear hb3 m1 m2 m3 hW4 B2 CP
  go_wp2_with (refine wpList_store_mid rfl 23 (.tmp 12) (.tmp 40) rfl w3.heap.size 0 R.toArray rfl rfl M1.out YR.out oR ?_; rw [← HW4.out])
  clear M1 HW4
  refine (CSd.out W4).mono ?_
  rintro e w5 ⟨rfl, hb5⟩
  have B5 := Lib.hid (And.intro (B4.out.1.below hb5 B4.out.1.lt) (B4.out.2.trans (hb5.mono B4.out.2.size)))
  clear hb5 B4 CSd
  go_wp2_with fail
  refine (CSi.out w5 (HT.out.next B5.out.2)).mono ?_
  rintro e w6 ⟨rfl, hb6⟩
  have B6 := Lib.hid (And.intro (B5.out.1.below hb6 B5.out.1.lt) (B5.out.2.trans (hb6.mono B5.out.2.size)))
  clear hb6 B5 CSi
  go_wp2_with (refine wpList_load_row rfl 23 (.tmp 12) rfl w3.heap.size rfl _ R.toArray (0, 0) _ B6.out.1 Tryd.underlying23 rfl YR.out ?_)
  refine (CV1.out w6 (HT.out.next B6.out.2)).mono ?_
  rintro e w7 ⟨rfl, hb7⟩
  have B7 := Lib.hid (And.intro (B6.out.1.below hb7 B6.out.1.lt) (B6.out.2.trans (hb7.mono B6.out.2.size)))
  clear hb7 B6 CV1
  go_wp2_with (refine wpList_load_row rfl 23 (.tmp 12) rfl w3.heap.size rfl _ R.toArray (0, 0) _ B7.out.1 Tryd.underlying23 rfl YR.out ?_)
  rw [← HX.out]
  refine (CV2.out w7 (HT.out.next B7.out.2)).mono ?_
  rintro e w8 ⟨rfl, hb8⟩
  have B8 := Lib.hid (And.intro (B7.out.1.below hb8 B7.out.1.lt) (B7.out.2.trans (hb8.mono B7.out.2.size)))
  clear hb8 B7 CV2
  go_wp2_with fail
  try go_frame
  refine wp_region_list [84, 85, 86, 87, 88, 89, 90, 91, 92, 83, 93, 94, 20] [.is (.agg R.toArray), .is (.int .i64 h), .is (.string m), .is (.string sg), .is (.string sg), .is (.int .i64 sg.size), .is (.int .i64 ((sg.size - 1 : Nat) : Int)), .is (.string ys), .is (.tuple #[.int .i64 0, .int .i64 2]), .is (.tuple #[.int .i64 0, .int .i64 2]), .is (.int .i64 0), .is (.int .i64 2), .is (.int .i64 0)] (by kernel_rfl) (by kernel_rfl) ?_ ?_
  · intro z hz b w' hb hd hx o ho
    match z, hz with
    | 0, _ =>
      obtain rfl := Option.some.inj ho
      have e9 : b.tmps.getD 12 undef = .pointer (some ⟨w3.heap.size, 0, none⟩) := hx 12 rfl
      have hr := row_load w' w3.heap.size 23 5 16 R (B8.out.1.below hb B8.out.1.lt) Tryd.underlying23 YR.out
      rw [← e9] at hr
      exact runs_value rfl hr ⟨rfl, Below.refl _ _⟩
    | 1, _ => obtain rfl := Option.some.inj ho; exact ⟨hx 10 rfl, Below.refl _ _⟩
    | 2, _ => obtain rfl := Option.some.inj ho; exact ⟨hx 3 rfl, Below.refl _ _⟩
    | 3, _ => obtain rfl := Option.some.inj ho; exact ⟨hx 14 rfl, Below.refl _ _⟩
    | 4, _ => obtain rfl := Option.some.inj ho; exact ⟨hx 14 rfl, Below.refl _ _⟩
    | 5, _ =>
      obtain rfl := Option.some.inj ho
      have e1 : b.tmps.getD 88 undef = .string sg := hd 4 (by kernel_rfl) (by decide)
      rw [run_len_str w' sg b _ 88 #[] rfl e1]
      exact ⟨rfl, Below.refl _ _⟩
    | 6, _ =>
      obtain rfl := Option.some.inj ho
      have e1 : b.tmps.getD 89 undef = .int .i64 sg.size := hd 5 (by kernel_rfl) (by decide)
      have hr := run_sub_one w' sg.size (by omega) (by omega) (.tmp 89) (.const (.int .i64 1))
      rw [← e1] at hr
      exact runs_value rfl hr ⟨rfl, Below.refl _ _⟩
    | 7, _ =>
      obtain rfl := Option.some.inj ho
      have e1 : b.tmps.getD 87 undef = .string sg := hd 3 (by kernel_rfl) (by decide)
      have e2 : b.tmps.getD 90 undef = .int .i64 ((sg.size - 1 : Nat) : Int) := hd 6 (by kernel_rfl) (by decide)
      have hr := run_cut_to w' sg (sg.size - 1) (by omega)
      rw [← HY.out, ← e1, ← e2] at hr
      exact runs_value rfl hr ⟨rfl, Below.refl _ _⟩
    | 8, _ =>
      obtain rfl := Option.some.inj ho
      have e1 : b.tmps.getD 84 undef = .agg R.toArray := hd 0 (by kernel_rfl) (by decide)
      have e2 : b.tmps.getD 85 undef = .int .i64 h := hd 1 (by kernel_rfl) (by decide)
      have e3 : b.tmps.getD 86 undef = .string m := hd 2 (by kernel_rfl) (by decide)
      have e4 : b.tmps.getD 91 undef = .string ys := hd 7 (by kernel_rfl) (by decide)
      refine runs_call rfl (fun _ _ => rfl) ?_
      show Calls _ _ #[b.tmps.getD 84 undef, b.tmps.getD 85 undef, b.tmps.getD 86 undef, b.tmps.getD 91 undef] w' _
      rw [e1, e2, e3, e4]
      exact (CV3.out w' (HT.out.below (B8.out.2.trans (hb.mono B8.out.2.size)) (Nat.le_refl _))).mono fun e w'' h => ⟨_, h.1, rfl, h.2⟩
    | 9, _ => obtain rfl := Option.some.inj ho; exact ⟨hd 8 (by kernel_rfl) (by decide), Below.refl _ _⟩
    | 10, _ =>
      obtain rfl := Option.some.inj ho
      have e1 : b.tmps.getD 83 undef = .tuple #[.int .i64 0, .int .i64 2] := hd 9 (by kernel_rfl) (by decide)
      have hr : (Instr.extract (.tuple #[.int .i64 0, .int .i64 2]) 0).run Tryd.prog w' = .ok (.int .i64 0) w' := by go_simp
      rw [← e1] at hr
      exact runs_value rfl hr ⟨rfl, Below.refl _ _⟩
    | 11, _ =>
      obtain rfl := Option.some.inj ho
      have e1 : b.tmps.getD 83 undef = .tuple #[.int .i64 0, .int .i64 2] := hd 9 (by kernel_rfl) (by decide)
      have hr : (Instr.extract (.tuple #[.int .i64 0, .int .i64 2]) 1).run Tryd.prog w' = .ok (.int .i64 2) w' := by go_simp
      rw [← e1] at hr
      exact runs_value rfl hr ⟨rfl, Below.refl _ _⟩
    | 12, _ => obtain rfl := Option.some.inj ho; exact ⟨hd 10 (by kernel_rfl) (by decide), Below.refl _ _⟩
    | n + 13, h => exact absurd h (by simp)
  intro vals w9 hb9 hf9
  have e11 : vals 11 = .int .i64 2 := hf9 11 (by decide)
  have e12 : vals 12 = .int .i64 0 := hf9 12 (by decide)
  simp only [puts, List.length_cons, List.length_nil, Nat.zero_add, Nat.reduceAdd, List.drop_succ_cons, List.drop_zero, e11, e12]
  have B9 := Lib.hid (B8.out.2.trans (hb9.mono B8.out.2.size))
  clear e11 e12 hb9 hf9 B8 CV3
  go_frame
  go_wp2_with fail
  go_ret
  exact ⟨rfl, B9.out⟩
end Go.Proofs.YtkelfcgomeojeaaDoor
end

