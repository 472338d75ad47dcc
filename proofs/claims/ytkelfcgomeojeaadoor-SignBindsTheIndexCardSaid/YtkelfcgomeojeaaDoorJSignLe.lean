import Derived.Test.YtkelfcgomeojeaaDoorJSignLc
import Derived.Test.YtkelfcgomeojeaaDoorJSignRj

section
/- SignBindsTheIndex. -/


namespace Go.Proofs.YtkelfcgomeojeaaDoor
open Go.RowKit
set_option linter.unusedVariables false
set_option maxRecDepth 100000

theorem run_sub_nat (w : World) (a n : Nat) (h1 : n ≤ a) (h : a ≤ 1000000) (x y : Operand) : (do eqGuard BinOp.sub 3 x y (.int .i64 a) (.int .i64 n); binOp BinOp.sub 3 (.int .i64 a) (.int .i64 n)).run Tryd.prog w = .ok (.int .i64 ((a - n : Nat) : Int)) w := by
  go_simp
  rw [IntKind.wrap_i64]
  omega
/-- The rest of one signature behind the index of another. -/
theorem mixed_eq (sd : List UInt8) (h i k : Nat) (m : List UInt8) : (sigS sd h k m).take ((sigS sd h k m).length - (68 + h) * 16) ++ (sigS sd h i m).drop ((sigS sd h i m).length - (68 + h) * 16) = M.encI (k : Int) ++ (sigS sd h i m).drop (M.encI (i : Int)).length := by
  rw [sig_size, sig_size, show (M.encI (k : Int)).length + (1088 + 16 * h) - (68 + h) * 16 = (M.encI (k : Int)).length by omega, show (M.encI (i : Int)).length + (1088 + 16 * h) - (68 + h) * 16 = (M.encI (i : Int)).length by omega]
  congr 1
  unfold sigS
  rw [List.append_assoc, List.take_left]

set_option maxHeartbeats 8000000 in
theorem binds_walk (c : UInt8) (hh ii kk : Nat) (m : ByteArray) (w : World) (h1 : hh < 256) (h2 : ii < 256) (h3 : kk < 256) (hR : RTab w) (hT : HTab w) : Calls Tryd.prog 8 #[.int .u8 (c.toNat : Int), .int .u8 (hh : Int), .int .u8 (ii : Int), .int .u8 (kk : Int), .string m] w (Tells true w) := by
  have cS := sanity_any w hT
  have CS := Lib.hid cS
  clear cS
  by_cases hm : 200 < m.size
  · have hm' : (200 : Int) < m.size := by omega
    clear hT hm
    go_enter Tryd.func8, Tryd.ntmps8
    go_wp2_with fail
    refine CS.out.mono ?_
    rintro e w1 ⟨rfl, hb1⟩
    have B1 := Lib.hid hb1
    clear hb1 CS
    go_wp2_with fail
    go_ret
    exact ⟨rfl, B1.out⟩
  have hm' : (m.size : Int) ≤ 200 := by omega
  obtain ⟨h, hhd⟩ : ∃ h, h = hh % 3 := ⟨_, rfl⟩
  have h2' : h ≤ 2 := by omega
  obtain ⟨i, hid⟩ : ∃ i, i = ii % 2 ^ h := ⟨_, rfl⟩
  have hpos : 0 < 2 ^ h := Nat.two_pow_pos h
  have hi : i < 2 ^ h := by rw [hid]; exact Nat.mod_lt _ hpos
  have ik : (0 : Int) ≤ hh := by omega
  obtain ⟨k, hkd⟩ : ∃ k, k = kk % 2 ^ h := ⟨_, rfl⟩
  have hk : k < 2 ^ h := by rw [hkd]; exact Nat.mod_lt _ hpos
  have HKK := Lib.hid (And.intro hkd hk)
  clear hkd hk
  obtain ⟨P, hP⟩ : ∃ P, P = 2 ^ h := ⟨_, rfl⟩
  have hw : wrap64 ((2 : Int) ^ (hh % 3)) = (P : Int) := by
    have h4 : 2 ^ h ≤ 4 := Nat.pow_le_pow_right (n := 2) (by decide) h2'
    rw [hP, ← w64 (2 ^ h) (by omega), hhd]
    simp
  have hPp : 0 < P := by rw [hP]; exact hpos
  have hP3 : P ≠ 0 := Nat.pos_iff_ne_zero.1 hPp
  have hP2 : (P : Int) ≠ 0 := fun e => hP3 (Int.ofNat.inj e)
  have hP1 : (0 : Int) < P := Int.ofNat_lt.2 hPp
  have hP0 : ((P : Int) == 0) = false := beq_eq_false_iff_ne.2 hP2
  clear hPp
  have HT := Lib.hid hT
  have HI := Lib.hid (And.intro hhd (And.intro h2' (And.intro hid (And.intro hi (And.intro hP HKK.out)))))
  have HR := Lib.hid hR
  clear hT hR hhd h2' hid hi hP hpos HKK
  go_enter Tryd.func8, Tryd.ntmps8
  go_wp2_with fail
  refine CS.out.mono ?_
  rintro e w1 ⟨rfl, hb1⟩
  have B1 := Lib.hid hb1
  clear hb1 CS
  go_wp2_with fail
  have he1 : (hh : Int) % 3 = (h : Int) := by rw [HI.out.1]; rfl
  have he2 : (ii : Int) % (P : Int) = (i : Int) := by rw [HI.out.2.2.1, ← HI.out.2.2.2.2.1]; rfl
  have he3 : (kk : Int) % (P : Int) = (k : Int) := by rw [HI.out.2.2.2.2.2.1, ← HI.out.2.2.2.2.1]; rfl
  rw [he1, he2, he3]
  clear he1 he2 he3 hw hP0 hP1 hP2 hP3
  obtain ⟨hzd, -⟩ := zero_of_info dig_zero
  obtain ⟨Zd, hZd⟩ : ∃ Zd, Zd = (H.zeros 16).map bv := ⟨_, rfl⟩
  rw [← hZd] at hzd
  have lZd : Zd.length = 16 := by rw [hZd, List.length_map, H.zeros_len]
  obtain ⟨sd, hsd⟩ : ∃ sd, sd = List.replicate 32 c := ⟨_, rfl⟩
  have lsd : sd.length = 32 := by rw [hsd]; simp
  obtain ⟨fs, hfs⟩ : ∃ fs, fs = bs sd := ⟨_, rfl⟩
  obtain ⟨rt, hrt⟩ : ∃ rt, rt = Sg.root sd h := ⟨_, rfl⟩
  have lrt : rt.length = 16 := by rw [hrt, root_len]
  obtain ⟨R, hR⟩ : ∃ R, R = rt.map bv := ⟨_, rfl⟩
  have lR : R.length = 16 := by rw [hR, List.length_map, lrt]
  have yR := size_dig lR
  have oR : R.toArray.all (·.oneCell') = true := all_oneCell_toArray (by rw [hR]; exact bytes_one _)
  have h2 := HI.out.2.1
  have h4 : 2 ^ h ≤ 4 := Nat.pow_le_pow_right (n := 2) (by decide) h2
  have hi := HI.out.2.2.2.1
  have hk := HI.out.2.2.2.2.2.2
  have hsb : (sb m).length ≤ 1048576 := by rw [sb_len]; omega
  have hv : okS sd (h : Int) := ⟨lsd, by omega, by omega⟩
  have pu : pubS sd (h : Int) = (rt, 0) := (if_pos hv).trans (by rw [hrt]; rfl)
  have cP := fun W hT => public_any fs (h : Int) W hT
  rw [hfs, sb_bs, pu, ← hfs] at cP
  simp only at cP
  rw [← hR] at cP
  obtain ⟨sl, hsl⟩ : ∃ sl : Nat → List UInt8, ∀ i, sl i = sigS sd h i (sb m) := ⟨_, fun _ => rfl⟩
  obtain ⟨sg, hsg⟩ : ∃ sg : Nat → ByteArray, ∀ i, sg i = bs (sl i) := ⟨_, fun _ => rfl⟩
  have hIi : ∀ i : Nat, i < 2 ^ h → M.I64 (i : Int) := fun i hi => by unfold M.I64; omega
  have hsz : ∀ i : Nat, i < 2 ^ h → (sg i).size = (M.encI (i : Int)).length + (1088 + 16 * h) := fun i hi => by rw [hsg, bbytes_size, hsl, sig_size]
  have hel : ∀ i : Nat, i < 2 ^ h → (M.encI (i : Int)).length ≤ 9 := fun i hi => M.encI_len_le _ (hIi i hi)
  have cS : ∀ (i : Nat), i < 2 ^ h → ∀ (W : World), HTab W → Calls Tryd.prog 14 #[.string fs, .int .i64 (h : Int), .int .i64 (i : Int), .string m] W fun x w' => x = .returned (.tuple #[.string (sg i), .int .i64 0]) ∧ Below W.heap.size W w' := by
    intro i hi W hT
    have c := sign_any fs (h : Int) (i : Int) m W (by omega) (hIi i hi) hT
    have sn : signS sd (h : Int) (i : Int) (sb m) = (sl i, 0) := (if_pos hv).trans ((if_pos (show okI (h : Int).toNat (i : Int) from ⟨by omega, by rw [Int.toNat_natCast]; omega⟩)).trans ((if_pos hsb).trans (by rw [hsl]; rfl)))
    rw [hfs, sb_bs, sn, ← hfs] at c
    simp only at c
    rw [← hsg] at c
    exact c
  obtain ⟨n, hn⟩ : ∃ n, n = (68 + h) * 16 := ⟨_, rfl⟩
  obtain ⟨xa, hxa⟩ : ∃ xa, xa = (sg k).extract 0 ((sg k).size - n) := ⟨_, rfl⟩
  obtain ⟨xb, hxb⟩ : ∃ xb, xb = (sg i).extract ((sg i).size - n) (sg i).size := ⟨_, rfl⟩
  obtain ⟨mx, hmx⟩ : ∃ mx, mx = xa ++ xb := ⟨_, rfl⟩
  have zi := hsz i hi
  have zk := hsz k hk
  have li := hel i hi
  have lk := hel k hk
  have hmb : sb mx = M.encI (k : Int) ++ (sigS sd h i (sb m)).drop (M.encI (i : Int)).length := by
    have ea : sb xa = (sl k).take ((sl k).length - n) := by rw [hxa, sb_extract, List.drop_zero, Nat.sub_zero, ← sb_len, hsg, sb_bs]
    have eb : sb xb = (sl i).drop ((sl i).length - n) := by
      rw [hxb, sb_extract, List.take_of_length_le (by rw [List.length_drop, sb_len]; omega), ← sb_len, hsg, sb_bs]
    rw [hmx, sb_append, ea, eb, hsl, hsl, hn]
    exact mixed_eq sd h i k (sb m)
  have hxas : xa.size ≤ 9 := by rw [hxa]; simp; omega
  have hxbs : xb.size ≤ 2000 := by rw [hxb]; simp; omega
  have hmxs : mx.size ≤ 3000 := by rw [← sb_len, hmx, sb_append, List.length_append, sb_len, sb_len]; omega
  have cV := fun W hT => verify_any rt (h : Int) m mx W lrt (by omega) (by omega) hT
  have cR := fun W hT => refVerify_any rt (h : Int) m mx W lrt (by omega) (by omega) hT
  obtain ⟨⟨a, e⟩, hae⟩ : ∃ x, x = verS rt (h : Int) (sb m) (sb mx) := ⟨_, rfl⟩
  have hik : i = k → e = 0 := fun hik => by
    have hw : (a, e) = ((k : Int), (0 : Int)) := by
      rw [hae, hmb, hik, drop_sig]
      have := accepted sd h k (sb m) (by omega) hk hsb
      unfold sigS at this
      rw [List.append_assoc] at this
      rw [hrt]
      exact this
    exact (Prod.mk.inj hw).2
  rw [← hae, ← hR] at cV cR
  simp only at cV cR
  have cSd := fun W => seed_any c W
  rw [← hsd, ← hfs] at cSd
  obtain ⟨si, hsi⟩ : ∃ si, si = sg i := ⟨_, rfl⟩
  obtain ⟨sk, hsk⟩ : ∃ sk, sk = sg k := ⟨_, rfl⟩
  have cSi := cS i hi
  have cSk := cS k hk
  rw [← hsi] at cSi hxb zi
  rw [← hsk] at cSk hxa zk
  have CP := Lib.hid cP
  have CSi := Lib.hid cSi
  have CSk := Lib.hid cSk
  have CV := Lib.hid cV
  have CR := Lib.hid cR
  have CSd := Lib.hid cSd
  have LL := Lib.hid (And.intro lZd lR)
  have YR := Lib.hid yR
  have HX := Lib.hid (And.intro hxa (And.intro hxb hmx))
  have HIK := Lib.hid hik
  have hn1 : (68 + (h : Int)) * 16 = (n : Int) := by omega
  have hni : (n : Int) ≤ si.size := by omega
  have hnk : (n : Int) ≤ sk.size := by omega
  have h88 : (1088 : Int) ≤ si.size := by omega
  have hbi : si.size ≤ 2000 := by omega
  have hbk : sk.size ≤ 2000 := by omega
  have hni' : n ≤ si.size := by omega
  have hnk' : n ≤ sk.size := by omega
  clear cP cS cSi cSk cV cR cSd hsd hfs lsd hrt lrt hR lR yR hsl hsb hel hsz hsg hv hIi pu hxa hxb hmx hmb hmxs h2 h4 hi hk hZd lZd HI zi zk li lk hik hsi hsk hae hn
  refine (CSd.out w1).mono ?_
  rintro x w2 ⟨rfl, hb2⟩
  have B2 := Lib.hid (B1.out.trans (hb2.mono B1.out.size))
  clear hb2 B1
  go_wp2_with fail
  refine (CP.out w2 (HT.out.next B2.out)).mono ?_
  rintro x w3 ⟨rfl, hb3⟩
  obtain ⟨W4, hW4, m1, m2, m3⟩ := row_new w3 23 16 Zd R LL.out.1 LL.out.2
  have B4 := Lib.hid (And.intro m2 (B2.out.trans ((hb3.trans (m3.mono hb3.size)).mono B2.out.size)))
  have M1 := Lib.hid m1
  have HW4 := Lib.hid hW4
  clear hb3 m1 m2 m3 hW4 B2 CP
  go_wp2_with (refine wpList_store_mid rfl 23 (.tmp 15) (.tmp 50) rfl w3.heap.size 0 R.toArray rfl rfl M1.out YR.out oR ?_; rw [← HW4.out])
  clear M1 HW4
  refine (CSd.out W4).mono ?_
  rintro x w5 ⟨rfl, hb5⟩
  have B5 := Lib.hid (And.intro (B4.out.1.below hb5 B4.out.1.lt) (B4.out.2.trans (hb5.mono B4.out.2.size)))
  clear hb5 B4
  go_wp2_with fail
  refine (CSi.out w5 (HT.out.next B5.out.2)).mono ?_
  rintro x w6 ⟨rfl, hb6⟩
  have B6 := Lib.hid (And.intro (B5.out.1.below hb6 B5.out.1.lt) (B5.out.2.trans (hb6.mono B5.out.2.size)))
  clear hb6 B5 CSi
  go_wp2_with fail
  refine (CSd.out w6).mono ?_
  rintro x w7 ⟨rfl, hb7⟩
  have B7 := Lib.hid (And.intro (B6.out.1.below hb7 B6.out.1.lt) (B6.out.2.trans (hb7.mono B6.out.2.size)))
  clear hb7 B6 CSd
  go_wp2_with fail
  refine (CSk.out w7 (HT.out.next B7.out.2)).mono ?_
  rintro x w8 ⟨rfl, hb8⟩
  have B8 := Lib.hid (And.intro (B7.out.1.below hb8 B7.out.1.lt) (B7.out.2.trans (hb8.mono B7.out.2.size)))
  clear hb8 B7 CSk
  go_wp2_with fail
  try go_frame
  refine wp_region_list [90, 91, 92, 93, 94, 95, 96, 97, 98, 99, 100, 101, 102] [.is (.string sk), .is (.string sk), .is (.int .i64 sk.size), .is (.int .i64 n), .is (.int .i64 ((sk.size - n : Nat) : Int)), .is (.string xa), .is (.string si), .is (.string si), .is (.int .i64 si.size), .is (.int .i64 n), .is (.int .i64 ((si.size - n : Nat) : Int)), .is (.string xb), .is (.string (xa ++ xb))] (by kernel_rfl) (by kernel_rfl) ?_ ?_
  · intro z hz b w' hb hd hx o ho
    match z, hz with
    | 0, _ => obtain rfl := Option.some.inj ho; exact ⟨hx 19 rfl, Below.refl _ _⟩
    | 1, _ => obtain rfl := Option.some.inj ho; exact ⟨hx 19 rfl, Below.refl _ _⟩
    | 2, _ =>
      obtain rfl := Option.some.inj ho
      have e1 : b.tmps.getD 91 undef = .string sk := hd 1 (by kernel_rfl) (by decide)
      rw [run_len_str w' sk b _ 91 #[] rfl e1]
      exact ⟨rfl, Below.refl _ _⟩
    | 3, _ => obtain rfl := Option.some.inj ho; exact ⟨(hx 21 rfl).trans (by rw [← hn1]; rfl), Below.refl _ _⟩
    | 4, _ =>
      obtain rfl := Option.some.inj ho
      have e1 : b.tmps.getD 92 undef = .int .i64 sk.size := hd 2 (by kernel_rfl) (by decide)
      have e2 : b.tmps.getD 93 undef = .int .i64 n := hd 3 (by kernel_rfl) (by decide)
      have hr := run_sub_nat w' sk.size n hnk' (by omega) (.tmp 92) (.tmp 93)
      rw [← e1, ← e2] at hr
      exact runs_value rfl hr ⟨rfl, Below.refl _ _⟩
    | 5, _ =>
      obtain rfl := Option.some.inj ho
      have e1 : b.tmps.getD 90 undef = .string sk := hd 0 (by kernel_rfl) (by decide)
      have e2 : b.tmps.getD 94 undef = .int .i64 ((sk.size - n : Nat) : Int) := hd 4 (by kernel_rfl) (by decide)
      have hr := run_cut_to w' sk (sk.size - n) (by omega)
      rw [← HX.out.1, ← e1, ← e2] at hr
      exact runs_value rfl hr ⟨rfl, Below.refl _ _⟩
    | 6, _ => obtain rfl := Option.some.inj ho; exact ⟨hx 17 rfl, Below.refl _ _⟩
    | 7, _ => obtain rfl := Option.some.inj ho; exact ⟨hx 17 rfl, Below.refl _ _⟩
    | 8, _ =>
      obtain rfl := Option.some.inj ho
      have e1 : b.tmps.getD 97 undef = .string si := hd 7 (by kernel_rfl) (by decide)
      rw [run_len_str w' si b _ 97 #[] rfl e1]
      exact ⟨rfl, Below.refl _ _⟩
    | 9, _ => obtain rfl := Option.some.inj ho; exact ⟨(hx 21 rfl).trans (by rw [← hn1]; rfl), Below.refl _ _⟩
    | 10, _ =>
      obtain rfl := Option.some.inj ho
      have e1 : b.tmps.getD 98 undef = .int .i64 si.size := hd 8 (by kernel_rfl) (by decide)
      have e2 : b.tmps.getD 99 undef = .int .i64 n := hd 9 (by kernel_rfl) (by decide)
      have hr := run_sub_nat w' si.size n hni' (by omega) (.tmp 98) (.tmp 99)
      rw [← e1, ← e2] at hr
      exact runs_value rfl hr ⟨rfl, Below.refl _ _⟩
    | 11, _ =>
      obtain rfl := Option.some.inj ho
      have e1 : b.tmps.getD 96 undef = .string si := hd 6 (by kernel_rfl) (by decide)
      have e2 : b.tmps.getD 100 undef = .int .i64 ((si.size - n : Nat) : Int) := hd 10 (by kernel_rfl) (by decide)
      have hr := run_cut_from w' si (si.size - n) (by omega)
      rw [← HX.out.2.1, ← e1, ← e2] at hr
      exact runs_value rfl hr ⟨rfl, Below.refl _ _⟩
    | 12, _ =>
      obtain rfl := Option.some.inj ho
      have e1 : b.tmps.getD 95 undef = .string xa := hd 5 (by kernel_rfl) (by decide)
      have e2 : b.tmps.getD 101 undef = .string xb := hd 11 (by kernel_rfl) (by decide)
      have hr := run_cat w' xa xb (by omega) (by omega) (.tmp 95) (.tmp 101)
      rw [← e1, ← e2] at hr
      exact runs_value rfl hr ⟨rfl, Below.refl _ _⟩
    | n + 13, h => exact absurd h (by simp)
  intro vals w9 hb9 hf9
  have e12 : vals 12 = .string (xa ++ xb) := hf9 12 (by decide)
  simp only [puts, List.length_cons, List.length_nil, Nat.zero_add, Nat.reduceAdd, List.drop_succ_cons, List.drop_zero, e12]
  have B9 := Lib.hid (And.intro (B8.out.1.below hb9 B8.out.1.lt) (B8.out.2.trans (hb9.mono B8.out.2.size)))
  rw [← HX.out.2.2]
  clear e12 hb9 hf9 B8
  go_frame
  go_wp2_with (refine wpList_load_row rfl 23 (.tmp 15) rfl w3.heap.size rfl _ R.toArray (0, 0) _ B9.out.1 Tryd.underlying23 rfl YR.out ?_)
  refine (CV.out w9 (HT.out.next B9.out.2)).mono ?_
  rintro x w10 ⟨rfl, hb10⟩
  have B10 := Lib.hid (And.intro (B9.out.1.below hb10 B9.out.1.lt) (B9.out.2.trans (hb10.mono B9.out.2.size)))
  clear hb10 B9 CV
  go_wp2_with (refine wpList_load_row rfl 23 (.tmp 15) rfl w3.heap.size rfl _ R.toArray (0, 0) _ B10.out.1 Tryd.underlying23 rfl YR.out ?_)
  refine (CR.out w10 (HR.out.below B10.out.2 (Nat.le_refl _))).mono ?_
  rintro x w11 ⟨rfl, hb11⟩
  have B11 := Lib.hid (B10.out.2.trans (hb11.mono B10.out.2.size))
  clear hb11 B10 CR
  by_cases hik : i = k
  · have he0 := HIK.out hik
    subst hik
    subst he0
    go_wp2_with fail
    go_ret
    exact ⟨rfl, B11.out⟩
  · have hne : ((i : Int) != (k : Int)) = true := by simp; omega
    go_wp2_with fail
    go_ret
    exact ⟨rfl, B11.out⟩
end Go.Proofs.YtkelfcgomeojeaaDoor
end

