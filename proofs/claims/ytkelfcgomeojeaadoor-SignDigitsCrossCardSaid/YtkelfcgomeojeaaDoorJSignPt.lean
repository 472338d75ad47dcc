import Derived.Test.YtkelfcgomeojeaaDoorJHashN2
import Derived.Test.YtkelfcgomeojeaaDoorJSignPr
import Derived.Test.YtkelfcgomeojeaaDoorJWireD

section
/- The contract of sign.Verify. -/



namespace Go.Proofs.YtkelfcgomeojeaaDoor
open Go.RowKit
set_option linter.unusedVariables false
set_option maxRecDepth 100000

theorem tv_take (i : Nat) (ds : List Nat) (l : List UInt8) : tv i ds (l.take 1088) 68 = tv i ds l 68 := by
  unfold tv
  rw [List.flatMap_def, List.flatMap_def]
  congr 1
  apply List.map_congr_left
  intro c hc
  have hc := List.mem_range.1 hc
  congr 1
  unfold chunk
  rw [List.drop_take, List.take_take]
  congr 1
  omega
theorem tv_len (i : Nat) (ds : List Nat) (l : List UInt8) (h : 1088 ≤ l.length) : (tv i ds l 68).length = 1088 := flat_len _ 68 fun c hc => adv_len _ _ _ _ _ (chunk_len _ _ (by omega))
theorem cut_head (w : World) (s : ByteArray) (h : 1088 ≤ s.size) : (Instr.sliceAt 9 (.string s) none (some (.int .i64 1088)) none).run Tryd.prog w = .ok (.string (s.extract 0 1088)) w := by
  have h1 : (1088 : Int) ≤ s.size := by omega
  go_simp
theorem cut_tail (w : World) (s : ByteArray) (h : 1088 ≤ s.size) : (Instr.sliceAt 9 (.string s) (some (.int .i64 1088)) none none).run Tryd.prog w = .ok (.string (s.extract 1088 s.size)) w := by
  have h1 : (1088 : Int) ≤ s.size := by omega
  go_simp
theorem sb_extract (s : ByteArray) (a b : Nat) : sb (s.extract a b) = ((sb s).drop a).take (b - a) := by
  show (s.extract a b).data.toList = _
  rw [Lib.extract_data]
  rfl

set_option maxHeartbeats 4000000 in
theorem verify_any (p : List UInt8) (h : Int) (m sg : ByteArray) (w : World) (hp : p.length = 16) (hm : m.size ≤ 100000000) (hsz : sg.size ≤ 100000000) (hT : HTab w) :
    Calls Tryd.prog 18 #[.agg (p.map bv).toArray, .int .i64 h, .string m, .string sg] w fun x w' => x = .returned (.tuple #[.int .i64 (verS p h (sb m) (sb sg)).1, .int .i64 (verS p h (sb m) (sb sg)).2]) ∧ Below w.heap.size w w' := by
  obtain ⟨X, hX⟩ : ∃ X, X = p.map bv := ⟨_, rfl⟩
  have lX : X.length = 16 := by rw [hX, List.length_map, hp]
  have yX := size_dig lX
  rw [← hX]
  obtain ⟨W0, hW0⟩ : ∃ W0, W0 = w.alloc (.cells X.toArray 23) := ⟨_, rfl⟩
  have hb0 : Below w.heap.size w W0 := by rw [hW0]; exact (Below.refl _ _).alloc (Nat.le_refl _) _
  have hk0 : Blk W0 w.heap.size X 23 := by rw [hW0]; exact Blk.new w _ _
  have c1 := validHeight_any h W0
  have HW0 := Lib.hid hW0
  have K0 := Lib.hid (And.intro hk0 hb0)
  have HX := Lib.hid (And.intro hX lX)
  have YX := Lib.hid yX
  have HT := Lib.hid hT
  clear hW0 hb0 hk0 hX lX yX hT
  by_cases hv : okH h
  case neg =>
    rw [show verS p h (sb m) (sb sg) = (0, 1) from if_neg hv]
    rw [show decide (0 ≤ h ∧ h ≤ 6) = false from decide_eq_false hv] at c1
    have C1 := Lib.hid c1
    clear hv c1
    go_enter Tryd.func18, Tryd.ntmps18
    go_wp2_with fail
    rw [← HW0.out]
    refine C1.out.mono ?_
    rintro x w1 ⟨rfl, hb1⟩
    have B1 := Lib.hid (K0.out.2.trans (hb1.mono K0.out.2.size))
    clear hb1 C1 K0
    go_wp2_with fail
    go_ret2
    exact ⟨rfl, B1.out⟩
  rw [show decide (0 ≤ h ∧ h ≤ 6) = true from decide_eq_true hv] at c1
  have C1 := Lib.hid c1
  obtain ⟨n, hn⟩ := Int.eq_ofNat_of_zero_le hv.1
  subst hn
  have hn6 : n ≤ 6 := by have := hv.2; omega
  by_cases hml : (sb m).length ≤ 1048576
  case neg =>
    rw [show verS p n (sb m) (sb sg) = (0, 4) from (if_pos hv).trans (if_neg hml)]
    rw [sb_len] at hml
    have hl : (1048576 : Int) < m.size := by omega
    clear hv c1 hml
    go_enter Tryd.func18, Tryd.ntmps18
    go_wp2_with fail
    rw [← HW0.out]
    refine C1.out.mono ?_
    rintro x w1 ⟨rfl, hb1⟩
    have B1 := Lib.hid (K0.out.2.trans (hb1.mono K0.out.2.size))
    clear hb1 C1 K0
    go_wp2_with fail
    go_ret2
    exact ⟨rfl, B1.out⟩
  have hvm : verS p n (sb m) (sb sg) = (if (M.getI (sb sg)).2.2 = 0 then
    (if okI n (M.getI (sb sg)).1 ∧ ((sb sg).drop (M.getI (sb sg)).2.1).length = (68 + n) * 16 then
      (if topS p n (M.getI (sb sg)).1.toNat (sb m) ((sb sg).drop (M.getI (sb sg)).2.1) = p then ((M.getI (sb sg)).1, 0) else (0, 10)) else (0, 2)) else (0, ((M.getI (sb sg)).2.2 : Int))) := (if_pos hv).trans (if_pos hml)
  rw [hvm]
  rw [sb_len] at hml
  have hl : (m.size : Int) ≤ 1048576 := by omega
  have hok := M.getI_ok (sb sg)
  have c2 := fun (A : Option Addr) (c : Nat) (W : World) (B : Nat) h1 h2 h3 => getInt_any A c (sb sg) W B h1 h2 h3
  rw [sb_len] at c2
  obtain ⟨⟨k, u, er⟩, hg⟩ : ∃ x, x = M.getI (sb sg) := ⟨_, rfl⟩
  rw [← hg] at hok c2 ⊢
  simp only at hok c2 ⊢
  obtain ⟨ans, hans⟩ : ∃ ans : Int × Int, ans = (if er = 0 then (if okI n k ∧ ((sb sg).drop u).length = (68 + n) * 16 then (if topS p n k.toNat (sb m) ((sb sg).drop u) = p then (k, 0) else (0, 10)) else (0, 2)) else (0, (er : Int))) := ⟨_, rfl⟩
  rw [← hans]
  have C2 := Lib.hid c2
  have HOKI := Lib.hid hok
  have HV := Lib.hid hn6
  clear hvm c1 c2 hok hg hv hml
  go_enter Tryd.func18, Tryd.ntmps18
  go_wp2_with fail
  rw [← HW0.out]
  refine C1.out.mono ?_
  rintro x w1 ⟨rfl, hb1⟩
  have b1 := K0.out.2.trans (hb1.mono K0.out.2.size)
  have k1 := K0.out.1.below hb1 K0.out.1.lt
  obtain ⟨W2, A, c, hcv, hr, hc1, hc2, hb2⟩ := conv_rdc w1 sg (by unfold maxLen; omega)
  have b2 := b1.trans (hb2.mono b1.size)
  have k2 := k1.below hb2 k1.lt
  have C2' := Lib.hid (C2.out A c W2 _ hr hc1 hc2)
  have K2 := Lib.hid (And.intro k2 b2)
  clear hb1 b1 k1 hr hc1 hc2 hb2 b2 k2 C1 C2 K0
  go_wp2_with fail
  refine C2'.out.mono ?_
  rintro x w2 ⟨rfl, rfl⟩
  unfold I3
  clear hcv C2'
  by_cases her : er = 0
  case neg =>
    have he2 : ((er : Int) != 0) = true := by simp; omega
    rw [if_neg her] at hans
    have HA := Lib.hid hans
    clear her hans
    go_wp2_with fail
    go_ret2
    exact ⟨by rw [HA.out]; rfl, K2.out.2⟩
  rw [if_pos her] at hans
  subst her
  obtain ⟨hkI, hul, -, -⟩ := HOKI.out rfl
  rw [sb_len] at hul
  have hul' : (u : Int) ≤ sg.size := by omega
  have hu0 : (0 : Int) ≤ u := by omega
  obtain ⟨rest, hrest⟩ : ∃ rest, rest = sg.extract u sg.size := ⟨_, rfl⟩
  have hrb : (sb sg).drop u = sb rest := by
    rw [hrest, sb_extract, List.take_of_length_le (by rw [List.length_drop, sb_len]; omega)]
  rw [hrb, sb_len] at hans
  have hrs : rest.size = sg.size - u := by rw [hrest]; simp
  have c3 := validIndex_any n k W2 hn6
  by_cases hki : okI n k
  case neg =>
    rw [show decide (0 ≤ k ∧ k < ((2 ^ n : Nat) : Int)) = false from decide_eq_false hki] at c3
    rw [if_neg (fun h => hki h.1)] at hans
    have HA := Lib.hid hans
    have C3 := Lib.hid c3
    clear c3 hki hrb hrs hrest hans
    go_wp2_with fail
    refine C3.out.mono ?_
    rintro x w3 ⟨rfl, hb3⟩
    have B3 := Lib.hid (K2.out.2.trans (hb3.mono K2.out.2.size))
    clear hb3 C3 K2
    go_wp2_with fail
    go_ret2
    exact ⟨by rw [HA.out]; rfl, B3.out⟩
  rw [show decide (0 ≤ k ∧ k < ((2 ^ n : Nat) : Int)) = true from decide_eq_true hki] at c3
  have C3 := Lib.hid c3
  have HREST := Lib.hid hrest
  by_cases hlen : rest.size = (68 + n) * 16
  case neg =>
    rw [if_neg (fun h => hlen h.2)] at hans
    have HA := Lib.hid hans
    have hl2 : ((rest.size : Int) != (68 + (n : Int)) * 16) = true := by simp; omega
    clear c3 hki hrb hrest hlen hans
    go_wp2_with fail
    refine C3.out.mono ?_
    rintro x w3 ⟨rfl, hb3⟩
    have B3 := Lib.hid (K2.out.2.trans (hb3.mono K2.out.2.size))
    rw [← HREST.out]
    clear hb3 C3 K2
    go_wp2_with fail
    go_ret2
    exact ⟨by rw [HA.out]; rfl, B3.out⟩
  rw [if_pos ⟨hki, hlen⟩] at hans
  have hl2 : ((rest.size : Int) != (68 + (n : Int)) * 16) = false := by simp; omega
  obtain ⟨j, hj⟩ := Int.eq_ofNat_of_zero_le hki.1
  subst hj
  have h2h : 2 ^ n ≤ 64 := Nat.pow_le_pow_right (n := 2) (by decide) hn6
  have hj2 : j ≤ 64 := by have := hki.2; omega
  obtain ⟨vs, hvs⟩ : ∃ vs, vs = rest.extract 0 1088 := ⟨_, rfl⟩
  obtain ⟨pt, hpt⟩ : ∃ pt, pt = rest.extract 1088 rest.size := ⟨_, rfl⟩
  have hvb : sb vs = (sb rest).take 1088 := by rw [hvs, sb_extract]; rfl
  have hpb : sb pt = (sb rest).drop 1088 := by rw [hpt, sb_extract, List.take_of_length_le (by rw [List.length_drop, sb_len]; omega)]
  have hvs2 : vs.size = 1088 := by rw [hvs]; simp; omega
  have hps2 : pt.size = n * 16 := by rw [hpt]; simp; omega
  obtain ⟨d, hd⟩ : ∃ d, d = Sg.msg p (j : Int) (sb m) := ⟨_, rfl⟩
  have ld : d.length = 16 := by rw [hd]; exact Sg.of_len _ _
  have c4 := fun W h => msg_any p (j : Int) m W hp (by unfold M.I64; omega) (by omega) h
  rw [← HX.out.1, ← hd] at c4
  obtain ⟨D, hD⟩ : ∃ D, D = d.map bv := ⟨_, rfl⟩
  have c5 := fun W => digits_any d W ld
  rw [← hD] at c4 c5
  obtain ⟨ds, hds⟩ : ∃ ds, ds = Sg.digits d := ⟨_, rfl⟩
  rw [← hds] at c5
  have lds : ds.length = 68 := by rw [hds, digits_len d ld]
  have c6 := fun (A : Option Addr) W h h2 => topValues_any j ds A 68 vs W (by omega) h lds (by rw [hds]; exact digits_le d ld) hvs2 h2
  rw [hvb, tv_take] at c6
  obtain ⟨tp, htp⟩ : ∃ tp, tp = tv j ds (sb rest) 68 := ⟨_, rfl⟩
  have ltp : tp.length = 1088 := by rw [htp]; exact tv_len _ _ _ (by rw [sb_len]; omega)
  rw [← htp] at c6
  have c7 := fun W h => leafOf_any tp W (by omega) h
  obtain ⟨lf, hlf⟩ : ∃ lf, lf = Sg.leafOf tp := ⟨_, rfl⟩
  have llf : lf.length = 16 := by rw [hlf]; exact Sg.of_len _ _
  rw [← hlf] at c7
  have c8 := fun W h => rootOf_any lf j n pt W llf hps2 (by omega) (by omega) h
  rw [hpb] at c8
  obtain ⟨rt, hrt⟩ : ∃ rt, rt = Sg.climb j lf (chunks ((sb rest).drop 1088) n) := ⟨_, rfl⟩
  have lrt : rt.length = 16 := by rw [hrt]; exact climb_len _ _ _ llf
  rw [← hrt] at c8
  have hts : topS p n (j : Int).toNat (sb m) (sb rest) = rt := by
    rw [Int.toNat_natCast]
    unfold topS
    rw [hrt, hlf, htp, hds, hd]
  rw [hts] at hans
  have HA := Lib.hid hans
  have hcut1 := fun W => cut_head W rest (by omega)
  have hcut2 := fun W => cut_tail W rest (by omega)
  rw [← hvs] at hcut1
  rw [← hpt] at hcut2
  obtain ⟨L, hL⟩ : ∃ L, L = lf.map bv := ⟨_, rfl⟩
  obtain ⟨R, hR⟩ : ∃ R, R = rt.map bv := ⟨_, rfl⟩
  rw [← hL] at c7 c8
  rw [← hR] at c8
  have C4 := Lib.hid c4
  have C5 := Lib.hid c5
  have C6 := Lib.hid c6
  have C7 := Lib.hid c7
  have C8 := Lib.hid c8
  have CUT1 := Lib.hid hcut1
  have CUT2 := Lib.hid hcut2
  have HR := Lib.hid (And.intro hR lrt)
  clear hans c3 hki hrb hrest c4 c5 c6 c7 c8 hcut1 hcut2 hvb hpb hvs hpt hvs2 hps2 hd ld hD hds lds htp ltp hlf llf hrt lrt hts hL hR h2h
  go_wp2_with fail
  refine C3.out.mono ?_
  rintro x w3 ⟨rfl, hb3⟩
  have B3 := Lib.hid (And.intro (K2.out.1.below hb3 K2.out.1.lt) (K2.out.2.trans (hb3.mono K2.out.2.size)))
  rw [← HREST.out]
  clear hb3 C3 K2
  go_wp2_with fail
  try go_frame
  refine wp_region_list [48, 49, 50, 51, 14] [.is (.string rest), .is (.string vs), .is (.string rest), .is (.string pt), .is (.string vs)] (by kernel_rfl) (by kernel_rfl) ?_ ?_
  · intro z hz b w' hb hd hx o ho
    match z, hz with
    | 0, _ =>
      obtain rfl := Option.some.inj ho
      exact ⟨hx 13 rfl, Below.refl _ _⟩
    | 1, _ =>
      obtain rfl := Option.some.inj ho
      have e1 : b.tmps.getD 48 undef = .string rest := hd 0 (by kernel_rfl) (by decide)
      have hr := CUT1.out w'
      rw [← e1] at hr
      exact runs_value rfl hr ⟨rfl, Below.refl _ _⟩
    | 2, _ =>
      obtain rfl := Option.some.inj ho
      exact ⟨hx 13 rfl, Below.refl _ _⟩
    | 3, _ =>
      obtain rfl := Option.some.inj ho
      have e1 : b.tmps.getD 50 undef = .string rest := hd 2 (by kernel_rfl) (by decide)
      have hr := CUT2.out w'
      rw [← e1] at hr
      exact runs_value rfl hr ⟨rfl, Below.refl _ _⟩
    | 4, _ =>
      obtain rfl := Option.some.inj ho
      have e1 : b.tmps.getD 49 undef = .string vs := hd 1 (by kernel_rfl) (by decide)
      exact ⟨e1, Below.refl _ _⟩
  intro vals w4 hb4 hf4
  have e3 : vals 3 = .string pt := hf4 3 (by decide)
  have e4 : vals 4 = .string vs := hf4 4 (by decide)
  simp only [puts, List.length_cons, List.length_nil, Nat.zero_add, Nat.reduceAdd, List.drop_succ_cons, List.drop_zero, e3, e4]
  have B4 := Lib.hid (And.intro (B3.out.1.below hb4 B3.out.1.lt) (B3.out.2.trans (hb4.mono B3.out.2.size)))
  clear e3 e4 hb4 hf4 B3 CUT1 CUT2
  go_frame
  go_wp2_with (refine wpList_load_row rfl 23 (.tmp 4) rfl w.heap.size rfl _ X.toArray (0, 0) _ B4.out.1 Tryd.underlying23 rfl YX.out ?_)
  refine (C4.out w4 (HT.out.below B4.out.2 (Nat.le_refl _))).mono ?_
  rintro x w5 ⟨rfl, hb5⟩
  have B5 := Lib.hid (And.intro (B4.out.1.below hb5 B4.out.1.lt) (B4.out.2.trans (hb5.mono B4.out.2.size)))
  clear hb5 C4 B4
  go_wp2_with fail
  refine (C5.out w5).mono ?_
  rintro x w6 ⟨rfl, hk6, hb6⟩
  have B6 := Lib.hid (And.intro (B5.out.1.below hb6 B5.out.1.lt) (B5.out.2.trans (hb6.mono B5.out.2.size)))
  have C6' := Lib.hid (C6.out (some ⟨w5.heap.size + 1, 0, none⟩) w6 hk6.rd (HT.out.below B6.out.2 (Nat.le_refl _)))
  clear hb6 hk6 C5 B5 C6
  go_wp2_with fail
  refine C6'.out.mono ?_
  rintro x w7 ⟨rfl, hb7⟩
  have B7 := Lib.hid (And.intro (B6.out.1.below hb7 B6.out.1.lt) (B6.out.2.trans (hb7.mono B6.out.2.size)))
  clear hb7 C6' B6
  go_wp2_with fail
  try go_frame
  refine wp_region_list [60, 61, 62, 63, 64, 65] [.is (.string (bs tp)), .is (.agg L.toArray), .is (.int .i64 j), .is (.string pt), .is (.agg R.toArray), .is (.agg X.toArray)] (by kernel_rfl) (by kernel_rfl) ?_ ?_
  · intro z hz b w' hb hd hx o ho
    match z, hz with
    | 0, _ =>
      obtain rfl := Option.some.inj ho
      exact ⟨hx 16 rfl, Below.refl _ _⟩
    | 1, _ =>
      obtain rfl := Option.some.inj ho
      have e1 : b.tmps.getD 60 undef = .string (bs tp) := hd 0 (by kernel_rfl) (by decide)
      refine runs_call rfl (fun _ _ => rfl) ?_
      show Calls _ _ #[b.tmps.getD 60 undef] w' _
      rw [e1]
      exact (C7.out w' (HT.out.below (B7.out.2.trans (hb.mono B7.out.2.size)) (Nat.le_refl _))).mono fun e w'' h => ⟨_, h.1, rfl, h.2⟩
    | 2, _ =>
      obtain rfl := Option.some.inj ho
      exact ⟨hx 10 rfl, Below.refl _ _⟩
    | 3, _ =>
      obtain rfl := Option.some.inj ho
      exact ⟨hx 15 rfl, Below.refl _ _⟩
    | 4, _ =>
      obtain rfl := Option.some.inj ho
      have e1 : b.tmps.getD 61 undef = .agg L.toArray := hd 1 (by kernel_rfl) (by decide)
      have e2 : b.tmps.getD 62 undef = .int .i64 j := hd 2 (by kernel_rfl) (by decide)
      have e3 : b.tmps.getD 63 undef = .string pt := hd 3 (by kernel_rfl) (by decide)
      refine runs_call rfl (fun _ _ => rfl) ?_
      show Calls _ _ #[b.tmps.getD 61 undef, b.tmps.getD 62 undef, b.tmps.getD 63 undef] w' _
      rw [e1, e2, e3]
      exact (C8.out w' (HT.out.below (B7.out.2.trans (hb.mono B7.out.2.size)) (Nat.le_refl _))).mono fun e w'' h => ⟨_, h.1, rfl, h.2⟩
    | 5, _ =>
      obtain rfl := Option.some.inj ho
      have e9 : b.tmps.getD 4 undef = .pointer (some ⟨w.heap.size, 0, none⟩) := hx 4 rfl
      have hr := row_load w' w.heap.size 23 5 16 X (B7.out.1.below hb B7.out.1.lt) Tryd.underlying23 YX.out
      rw [← e9] at hr
      exact runs_value rfl hr ⟨rfl, Below.refl _ _⟩
  intro vals w8 hb8 hf8
  have e4 : vals 4 = .agg R.toArray := hf8 4 (by decide)
  have e5 : vals 5 = .agg X.toArray := hf8 5 (by decide)
  simp only [puts, List.length_cons, List.length_nil, Nat.zero_add, Nat.reduceAdd, List.drop_succ_cons, List.drop_zero, e4, e5]
  have heq := eq_dig rt p HR.out.2 hp w8
  rw [← HR.out.1, ← HX.out.1] at heq
  have B8 := Lib.hid (B7.out.2.trans (hb8.mono B7.out.2.size))
  clear e4 e5 hb8 hf8 B7 C7 C8
  by_cases hrp : rt = p
  · rw [show decide (rt = p) = true from decide_eq_true hrp] at heq
    have hans := HA.out
    rw [if_pos hrp] at hans
    have HA2 := Lib.hid hans
    clear hans hrp
    go_frame
    go_wp2_with fail
    go_ret2
    exact ⟨by rw [HA2.out]; rfl, B8.out⟩
  · rw [show decide (rt = p) = false from decide_eq_false hrp] at heq
    have hans := HA.out
    rw [if_neg hrp] at hans
    have HA2 := Lib.hid hans
    clear hans hrp
    go_frame
    go_wp2_with fail
    go_ret2
    exact ⟨by rw [HA2.out]; rfl, B8.out⟩
end Go.Proofs.YtkelfcgomeojeaaDoor
end

