import Derived.Test.YtkelfcgomeojeaaDoorJSignPr
import Derived.Test.YtkelfcgomeojeaaDoorJSignRj
import Derived.Test.YtkelfcgomeojeaaDoorJSignRl

section
/- The reference's Public. -/


namespace Go.Proofs.YtkelfcgomeojeaaDoor
open Go.RowKit
set_option linter.unusedVariables false
set_option maxRecDepth 100000

/-- The rows that levels returns, each with its cell. -/
theorem LvO.form {w w' : World} {sd : List UInt8} {h l : Nat} {out : Value} {vs : List Value} (H : LvO w sd h l out vs w') : ∃ o ocap, out = .slice (some ⟨o, 0, none⟩) (l + 1) ocap ∧ o < w'.heap.size ∧ l + 1 ≤ ocap ∧
    ∀ j, j ≤ l → ∃ g cap, w'.cell? ⟨o, j, none⟩ = some (.slice (some ⟨g, 0, none⟩) (2 ^ (h - j)) cap) ∧ Row1 sd j (2 ^ (h - j)) w' (.slice (some ⟨g, 0, none⟩) (2 ^ (h - j)) cap) g := by
  obtain ⟨o, ocap, rfl, hob, hog, hoc, hom, hocell⟩ := own_form H.own (by omega)
  have hlen : vs.length = l + 1 := by have := H.own.1; omega
  refine ⟨o, ocap, rfl, hog, hoc, fun j hj => ?_⟩
  obtain ⟨g, hrow, -⟩ := H.rows j hj
  obtain ⟨u, hu⟩ : ∃ u, u = vs.getD j undef := ⟨_, rfl⟩
  rw [← hu] at hrow
  have hvl : vs[j]? = some u := by rw [List.getElem?_eq_getElem (by omega), hu]; simp [show j < vs.length by omega]
  have hol : w'.cell? ⟨o, j, none⟩ = some u := by have := hocell j u hvl; rw [Addr.add_mid, Nat.zero_add] at this; exact this
  obtain ⟨cap, rfl, h1, h2, h3, h4⟩ := hrow
  exact ⟨g, cap, hol, cap, rfl, h1, h2, h3, h4⟩

set_option maxHeartbeats 8000000 in
theorem refPublic_any (s : ByteArray) (h : Int) (w : World) (hR : RTab w) :
    Calls Tryd.prog 13 #[.string s, .int .i64 h] w fun x w' => x = .returned (.tuple #[.agg ((pubS (sb s) h).1.map bv).toArray, .int .i64 (pubS (sb s) h).2]) ∧ Below w.heap.size w w' := by
  obtain ⟨hzd, -⟩ := zero_of_info dig_zero
  obtain ⟨Zd, hZd⟩ : ∃ Zd, Zd = (H.zeros 16).map bv := ⟨_, rfl⟩
  rw [← hZd] at hzd
  have lZd : Zd.length = 16 := by rw [hZd, List.length_map, H.zeros_len]
  have yZ := size_dig lZd
  have oZ : Zd.toArray.all (·.oneCell') = true := all_oneCell_toArray (by rw [hZd]; exact bytes_one _)
  obtain ⟨W0, hW0⟩ : ∃ W0, W0 = w.alloc (.cells Zd.toArray 23) := ⟨_, rfl⟩
  have hb0 : Below w.heap.size w W0 := by rw [hW0]; exact (Below.refl _ _).alloc (Nat.le_refl _) _
  have hk0 : Blk W0 w.heap.size Zd 23 := by rw [hW0]; exact Blk.new w _ _
  have c1 := refFits_any s h W0
  have C1 := Lib.hid c1
  have HW0 := Lib.hid hW0
  have K0 := Lib.hid (And.intro hk0 hb0)
  have LZ := Lib.hid lZd
  have YZ := Lib.hid yZ
  have HZ := Lib.hid hZd
  have HT := Lib.hid hR
  clear c1 hW0 hk0 hb0 lZd yZ hZd hR
  by_cases hv : okS (sb s) h
  · obtain ⟨G, hG⟩ : ∃ G, G = (Sg.root (sb s) h.toNat).map bv := ⟨_, rfl⟩
    have lG : G.length = 16 := by rw [hG, List.length_map, root_len]
    have yG := size_dig lG
    have oG : G.toArray.all (·.oneCell') = true := all_oneCell_toArray (by rw [hG]; exact bytes_one _)
    have hp : pubS (sb s) h = (Sg.root (sb s) h.toNat, 0) := if_pos hv
    rw [hp]
    show Calls _ _ _ _ fun x w' => x = .returned (.tuple #[.agg ((Sg.root (sb s) h.toNat).map bv).toArray, .int .i64 0]) ∧ Below w.heap.size w w'
    rw [← hG]
    have hv' : s.size = 32 ∧ 0 ≤ h ∧ h ≤ 6 := by have := hv; unfold okS at this; rw [sb_len] at this; exact this
    obtain ⟨n, hn⟩ := Int.eq_ofNat_of_zero_le hv'.2.1
    subst hn
    have hdec : fitsB s n = true := decide_eq_true hv'
    have hlG := Lib.hid (And.intro hG lG)
    have YG := Lib.hid yG
    have HV := Lib.hid hv'
    have HD := Lib.hid hdec
    clear hG lG yG hv hp hv' hdec
    go_enter Tryd.func13, Tryd.ntmps13
    go_wp2_with fail
    rw [← HW0.out]
    refine C1.out.mono ?_
    rintro x w1 ⟨rfl, hb1⟩
    rw [HD.out]
    have h1 := K0.out.2.trans (hb1.mono K0.out.2.size)
    have k1 := K0.out.1.below hb1 K0.out.1.lt
    have c2 := refLevels_any s n w1 (by have := HV.out.1; omega) (by have := HV.out.2.2; omega) (HT.out.below h1 (Nat.le_refl _))
    have C2 := Lib.hid c2
    have K1 := Lib.hid (And.intro k1 h1)
    clear hb1 h1 k1 c2 C1 K0
    go_wp2_with fail
    refine C2.out.mono ?_
    rintro x w2 ⟨v, vs, rfl, hO⟩
    obtain ⟨o, ocap, rfl, hol, hoc, hrows⟩ := hO.form
    obtain ⟨g, cap, hcell, hrow⟩ := hrows n (Nat.le_refl _)
    rw [Nat.sub_self, Nat.pow_zero] at hcell hrow
    have r2 := hrow.range 0 (by decide)
    rw [show (Sg.tree (sb s) n 0).map bv = G from hlG.out.1.symm, Nat.mul_zero] at r2
    have hb2 := hO.bel
    have k3 := K1.out.1.below hb2 K1.out.1.lt
    have h3 := K1.out.2.trans (hb2.mono K1.out.2.size)
    have t1 : w2.there w.heap.size 0 G.toArray.size := k3.there 0 _ (by rw [List.size_toArray, hlG.out.2, LZ.out]; omega)
    have d1 := k3.whole G (by rw [hlG.out.2, LZ.out])
    have b1 : Below w.heap.size w (w2.setCells w.heap.size 0 G) := below_setCells _ (Nat.le_refl _) _ _ _ h3
    have R2 := Lib.hid r2
    have T1 := Lib.hid t1
    have D1 := Lib.hid d1
    have B1 := Lib.hid b1
    have il : (n : Int) < ((n + 1 : Nat) : Int) := by omega
    have yG2 : (Tryd.prog.info? 23).map (·.size) = some G.length := by rw [hlG.out.2]; kernel_rfl
    have YG2 := Lib.hid yG2
    clear hb2 hO hrows hrow r2 k3 h3 t1 d1 b1 yG2 C2 K1
    go_wp2_with (first
      | (refine wpList_load_wanted 23 (.tmp 19) rfl rfl g 0 rfl G _ R2.out Tryd.underlying23 rfl YG2.out ?_)
      | (refine wpList_store_mid rfl 23 (.tmp 4) (.tmp 20) rfl w.heap.size 0 G.toArray rfl rfl T1.out YG.out oG ?_))
    refine bodyPost_ret (results_cell_row_tmp rfl _ _ w.heap.size 23 _ (0, 0) _ rfl D1.out Tryd.underlying23 rfl YG.out) rfl ⟨rfl, B1.out⟩
  · have hp : pubS (sb s) h = (H.zeros 16, 1) := if_neg hv
    rw [hp]
    show Calls _ _ _ _ fun x w' => x = .returned (.tuple #[.agg ((H.zeros 16).map bv).toArray, .int .i64 1]) ∧ Below w.heap.size w w'
    rw [← HZ.out]
    have hdec : fitsB s h = false := by
      unfold okS at hv
      rw [sb_len] at hv
      exact decide_eq_false hv
    have HD := Lib.hid hdec
    clear hv hp hdec
    go_enter Tryd.func13, Tryd.ntmps13
    go_wp2_with fail
    rw [← HW0.out]
    refine C1.out.mono ?_
    rintro x w1 ⟨rfl, hb1⟩
    rw [HD.out]
    have h1 := K0.out.2.trans (hb1.mono K0.out.2.size)
    have k1 := K0.out.1.below hb1 K0.out.1.lt
    have t1 : w1.there w.heap.size 0 Zd.toArray.size := k1.there 0 _ (by rw [List.size_toArray, LZ.out]; omega)
    have d1 := k1.whole Zd rfl
    have b1 : Below w.heap.size w (w1.setCells w.heap.size 0 Zd) := below_setCells _ (Nat.le_refl _) _ _ _ h1
    have T1 := Lib.hid t1
    have D1 := Lib.hid d1
    have B1 := Lib.hid b1
    clear hb1 h1 k1 t1 d1 b1 C1 K0
    go_wp2_with (refine wpList_store_mid rfl 23 (.tmp 4) (.tmp 12) rfl w.heap.size 0 Zd.toArray rfl rfl T1.out YZ.out oZ ?_)
    refine bodyPost_ret (results_cell_row_tmp rfl _ _ w.heap.size 23 _ (0, 0) _ rfl D1.out Tryd.underlying23 rfl YZ.out) rfl ⟨rfl, B1.out⟩
end Go.Proofs.YtkelfcgomeojeaaDoor
end

section
/- The reference's Sign. -/


namespace Go.Proofs.YtkelfcgomeojeaaDoor
open Go.RowKit
set_option linter.unusedVariables false
set_option maxRecDepth 100000

theorem beside_next (sd : List UInt8) (i l : Nat) : (Sg.beside sd i (l + 1)).flatten = (Sg.beside sd i l).flatten ++ Sg.tree sd l (if i / 2 ^ l % 2 = 1 then i / 2 ^ l - 1 else i / 2 ^ l + 1) := by
  rw [beside_succ, List.flatten_append]
  simp
/-- The neighbour lies in the row. -/
theorem beside_lt (k l n a : Nat) (hk : k < 2 ^ n) (hl : l < n) (ha : a = k / 2 ^ l) : (if a % 2 = 1 then a - 1 else a + 1) < 2 ^ (n - l) := by
  have h1 : 2 ^ n = 2 ^ l * (2 * 2 ^ (n - l - 1)) := by rw [← Nat.pow_succ', ← Nat.pow_add]; congr 1; omega
  have h2 : 2 ^ (n - l) = 2 * 2 ^ (n - l - 1) := by rw [← Nat.pow_succ']; congr 1; omega
  have h3 : a < 2 * 2 ^ (n - l - 1) := by rw [ha]; exact Nat.div_lt_of_lt_mul (by rw [← h1]; exact hk)
  rw [h2]
  generalize 2 ^ (n - l - 1) = y at h3 ⊢
  clear h1 h2
  split <;> omega

set_option maxHeartbeats 8000000 in
theorem refSign_any (s : ByteArray) (h i : Int) (m : ByteArray) (w : World) (hm : m.size ≤ 2000) (hI : M.I64 i) (hT : RTab w) :
    Calls Tryd.prog 15 #[.string s, .int .i64 h, .int .i64 i, .string m] w fun x w' => x = .returned (.tuple #[.string (bs (signS (sb s) h i (sb m)).1), .int .i64 (signS (sb s) h i (sb m)).2]) ∧ Below w.heap.size w w' := by
  have c1 := refFits_any s h w
  by_cases hv : okS (sb s) h
  case neg =>
    have hp : signS (sb s) h i (sb m) = ([], 1) := if_neg hv
    rw [hp]
    have hdec : fitsB s h = false := by
      unfold okS at hv
      rw [sb_len] at hv
      exact decide_eq_false hv
    rw [hdec] at c1
    have C1 := Lib.hid c1
    clear hv hp hdec c1 hT
    go_enter Tryd.func15, Tryd.ntmps15
    go_wp2_with fail
    refine C1.out.mono ?_
    rintro x w1 ⟨rfl, hb1⟩
    have B1 := Lib.hid hb1
    clear hb1 C1
    go_wp2_with fail
    go_ret2
    exact ⟨rfl, B1.out⟩
  have hv' : s.size = 32 ∧ 0 ≤ h ∧ h ≤ 6 := by have := hv; unfold okS at this; rw [sb_len] at this; exact this
  have hdec : fitsB s h = true := decide_eq_true hv'
  rw [hdec] at c1
  obtain ⟨n, hn⟩ := Int.eq_ofNat_of_zero_le hv'.2.1
  subst hn
  have hn6 : n ≤ 6 := by omega
  have C1 := Lib.hid c1
  have h2h : 2 ^ n ≤ 64 := Nat.pow_le_pow_right (n := 2) (by decide) hn6
  have hw : wrap64 ((2 : Int) ^ n) = ((2 ^ n : Nat) : Int) := by
    rw [← w64 (2 ^ n) (by omega)]
    simp
  obtain ⟨P, hP⟩ : ∃ P, P = 2 ^ n := ⟨_, rfl⟩
  rw [← hP] at hw h2h
  by_cases hi : okI n i
  case neg =>
    have hp : signS (sb s) n i (sb m) = ([], 22) := (if_pos hv).trans (if_neg hi)
    rw [hp]
    unfold okI at hi
    rw [← hP] at hi
    by_cases hk0 : i < 0
    · clear hv hp hdec c1 hT hv' hi hP
      go_enter Tryd.func15, Tryd.ntmps15
      go_wp2_with fail
      refine C1.out.mono ?_
      rintro x w1 ⟨rfl, hb1⟩
      have B1 := Lib.hid hb1
      clear hb1 C1
      go_wp2_with fail
      go_ret2
      exact ⟨rfl, B1.out⟩
    · have hk0' : 0 ≤ i := by omega
      have hkP : (P : Int) ≤ i := by omega
      clear hv hp hdec c1 hT hv' hi hP hk0
      go_enter Tryd.func15, Tryd.ntmps15
      go_wp2_with fail
      refine C1.out.mono ?_
      rintro x w1 ⟨rfl, hb1⟩
      have B1 := Lib.hid hb1
      clear hb1 C1
      go_wp2_with fail
      go_ret2
      exact ⟨rfl, B1.out⟩
  have hml : (sb m).length ≤ 1048576 := by rw [sb_len]; omega
  have hl : (m.size : Int) ≤ 1048576 := by omega
  obtain ⟨k, hk⟩ := Int.eq_ofNat_of_zero_le hi.1
  subst hk
  have hk2 : k < P := by have := hi.2; rw [← hP] at this; omega
  have hk2' : (k : Int) < P := by omega
  have hp : signS (sb s) n k (sb m) = (sigS (sb s) n k (sb m), 0) := (if_pos hv).trans ((if_pos hi).trans (if_pos hml))
  rw [hp]
  obtain ⟨r, hr⟩ : ∃ r, r = Sg.root (sb s) n := ⟨_, rfl⟩
  have lr : r.length = 16 := by rw [hr, root_len]
  obtain ⟨G, hG⟩ : ∃ G, G = r.map bv := ⟨_, rfl⟩
  have hG2 : (Sg.tree (sb s) n 0).map bv = G := by rw [hG, hr]; rfl
  have lG : G.length = 16 := by rw [hG, List.length_map, lr]
  have yG : (Tryd.prog.info? 23).map (·.size) = some G.length := by rw [lG]; kernel_rfl
  have c3 := fun W h => refLevels_any s n W (by omega) hn6 h
  obtain ⟨d, hd⟩ : ∃ d, d = Sg.msg r (k : Int) (sb m) := ⟨_, rfl⟩
  have ld : d.length = 16 := by rw [hd]; exact Sg.of_len _ _
  have c4 := fun W h => refMsg_any r (k : Int) m W lr (by unfold M.I64; omega) hm h
  rw [← hG, ← hd] at c4
  obtain ⟨D, hD⟩ : ∃ D, D = d.map bv := ⟨_, rfl⟩
  have c5 := fun W => refDigits_any d W ld
  rw [← hD] at c4 c5
  obtain ⟨ds, hds⟩ : ∃ ds, ds = Sg.digits d := ⟨_, rfl⟩
  rw [← hds] at c5
  have lds : ds.length = 68 := by rw [hds, digits_len d ld]
  have hle : ∀ c, ds.getD c 0 ≤ 3 := by rw [hds]; exact digits_le d ld
  obtain ⟨f0, hf0⟩ : ∃ f0, f0 = M.encI (k : Int) := ⟨_, rfl⟩
  have lf0 : f0.length ≤ 9 := by rw [hf0]; exact M.encI_len_le _ hI
  have c7 := fun W => refInt_any (k : Int) W hI
  unfold IntPost at c7
  rw [← hf0] at c7
  obtain ⟨f, hf⟩ : ∃ f : Nat → List UInt8, ∀ c, f c = Sg.adv k c 0 (ds.getD c 0) (Sg.start (sb s) k c) := ⟨_, fun _ => rfl⟩
  have hfl : ∀ c, (f c).length = 16 := fun c => by rw [hf]; exact adv_len _ _ _ _ _ (start_len _ _ _)
  have hfm : ∀ k, ((List.range k).flatMap f).length = 16 * k := fun k => flat_len f k fun c _ => hfl c
  obtain ⟨b0, hb0⟩ : ∃ b0, b0 = f0 ++ (List.range 68).flatMap f := ⟨_, rfl⟩
  have lb0 : b0.length ≤ 1100 := by rw [hb0, List.length_append, hfm]; omega
  have hfin : sigS (sb s) n k (sb m) = b0 ++ (Sg.beside (sb s) k n).flatten := by
    unfold sigS cvs
    rw [hb0, hf0, ← hr, ← hd, ← hds, show (fun c => Sg.adv k c 0 (ds.getD c 0) (Sg.start (sb s) k c)) = f from funext fun c => (hf c).symm]
  obtain ⟨F, hF⟩ : ∃ F : Nat → ByteArray, ∀ c, F c = bs (f0 ++ (List.range c).flatMap f) := ⟨_, fun _ => rfl⟩
  have hF0 : bs f0 = F 0 := by rw [hF]; simp
  have hFs : ∀ c, F (c + 1) = F c ++ bs (f c) := fun c => by rw [hF, hF, bs_append, flat_succ, List.append_assoc]
  have hFl : ∀ c, c ≤ 68 → (F c).size ≤ 1100 := fun c hc => by rw [hF, bbytes_size, List.length_append, hfm]; omega
  obtain ⟨E, hE⟩ : ∃ E : Nat → ByteArray, ∀ l, E l = bs (b0 ++ (Sg.beside (sb s) k l).flatten) := ⟨_, fun _ => rfl⟩
  have hE0 : F 68 = E 0 := by rw [hF, hE, hb0]; simp [Sg.beside]
  have hEs : ∀ l, E (l + 1) = E l ++ bs (Sg.tree (sb s) l (if k / 2 ^ l % 2 = 1 then k / 2 ^ l - 1 else k / 2 ^ l + 1)) := fun l => by rw [hE, hE, bs_append, beside_next, List.append_assoc]
  have hEl : ∀ l, l ≤ 6 → (E l).size ≤ 1200 := fun l hl => by rw [hE, bbytes_size, List.length_append, beside_len]; omega
  have hfin2 : bs (sigS (sb s) n k (sb m)) = E n := by rw [hfin, hE]
  rw [show (sigS (sb s) n k (sb m), (0 : Int)).1 = sigS (sb s) n k (sb m) from rfl, show (sigS (sb s) n k (sb m), (0 : Int)).2 = 0 from rfl, hfin2]
  have C3 := Lib.hid c3
  have C4 := Lib.hid c4
  have C5 := Lib.hid c5
  have C7 := Lib.hid c7
  have HF := Lib.hid (And.intro hf (And.intro hfl (And.intro hF0 (And.intro hFs hFl))))
  have HE := Lib.hid (And.intro hE0 (And.intro hEs hEl))
  have HD := Lib.hid (And.intro lds hle)
  have HG2 := Lib.hid hG2
  have YG := Lib.hid yG
  have HT := Lib.hid hT
  have HS := Lib.hid hv'.1
  have HP := Lib.hid hP
  clear hv hp hdec c1 c3 c4 c5 c7 hT hi hv' hml hr lr hG hG2 lG yG hd ld hD hds lds hle hf0 lf0 hf hfl hfm hb0 lb0 hfin hF hF0 hFs hFl hE hE0 hEs hEl hfin2 hI hP
  go_enter Tryd.func15, Tryd.ntmps15
  go_wp2_with fail
  refine C1.out.mono ?_
  rintro x w1 ⟨rfl, hb1⟩
  have B1 := Lib.hid hb1
  clear hb1 C1
  go_wp2_with fail
  refine (C3.out w1 (HT.out.below B1.out (Nat.le_refl _))).mono ?_
  rintro x w2 ⟨v, vs, rfl, hO⟩
  obtain ⟨o, ocap, rfl, hol, hoc, hrows⟩ := hO.form
  obtain ⟨g, cap, hcell, hrow⟩ := hrows n (Nat.le_refl _)
  rw [Nat.sub_self, Nat.pow_zero] at hcell hrow
  have r2 := hrow.range 0 (by decide)
  rw [HG2.out, Nat.mul_zero] at r2
  have R2 := Lib.hid r2
  have B2 := Lib.hid (B1.out.trans (hO.bel.mono B1.out.size))
  have HROWS := Lib.hid (And.intro hol hrows)
  have il : (n : Int) < ((n + 1 : Nat) : Int) := by omega
  have hoc' : ((n + 1 : Nat) : Int) ≤ ocap := by omega
  clear hO hol hrows hrow r2 B1 C3
  go_wp2_with (refine wpList_load_wanted 23 (.tmp 41) rfl rfl g 0 rfl G _ R2.out Tryd.underlying23 rfl YG.out ?_)
  refine (C4.out w2 (HT.out.below B2.out (Nat.le_refl _))).mono ?_
  rintro x w3 ⟨rfl, hb3⟩
  have B3 := Lib.hid hb3
  clear hb3 C4 hcell
  go_wp2_with fail
  refine (C5.out w3).mono ?_
  rintro x w4 ⟨v, rfl, hown, hb4⟩
  obtain ⟨g4, cap4, rfl, -, hg4, hcap4, -, hcell4⟩ := own_form hown (by omega)
  have hrd : Rd w4 w4.heap.size (some ⟨g4, 0, none⟩) (ds.map dv) := fun _ => ⟨g4, 0, rfl, hg4, fun j u hu => by
    have := hcell4 j u hu
    rw [Addr.add_mid] at this
    exact this⟩
  have K4 := Lib.hid (And.intro hrd (B3.out.trans (hb4.mono B3.out.size)))
  clear hb4 C5 hown hcell4 hrd hg4 hcap4 B3
  go_wp2_with fail
  refine (C7.out w4).mono ?_
  rintro x w5 ⟨v5, rfl, hown5, hb5⟩
  obtain ⟨A5, c5, rfl, hr5, -, -⟩ := own_rd (B := 0) hown5
  have hcv := conv_bytes w5 _ A5 f0 c5 hr5
  rw [HF.out.2.2.1] at hcv
  have K5 := Lib.hid (And.intro ((K4.out.1.below hb5).more hb5.size) (K4.out.2.trans (hb5.mono K4.out.2.size)))
  clear hb5 C7 hown5 hr5 K4
  go_wp2_with fail
  clear hcv
  go_loopw [13, 14] (fun x i wr => ∃ c : Nat, c ≤ 68 ∧ i = .int .i64 c ∧ x = .string (F c) ∧ (Rd wr wr.heap.size (some ⟨g4, 0, none⟩) (ds.map dv) ∧ Below w2.heap.size w2 wr)) (fun _ i _ => 68 - (intOf i).toNat)
  case atStart => exact ⟨0, by omega, rfl, rfl, K5.out⟩
  case round =>
    clear K5
    obtain ⟨c, hc, rfl, rfl, hK⟩ := hrel
    by_cases hlt : c < 68
    · have ik : (c : Int) < 68 := by omega
      obtain ⟨q, hq⟩ : ∃ q, q = ds.getD c 0 := ⟨_, rfl⟩
      have hqv : (ds.map dv)[c]? = some (.int .i64 (q : Int)) := by rw [List.getElem?_map, getD_at ds c 0 (by have := HD.out.1; omega), ← hq]; rfl
      have hq3 : q ≤ 3 := by rw [hq]; exact HD.out.2 c
      obtain ⟨O, hO⟩ : ∃ O, O = (Sg.start (sb s) k c).map bv := ⟨_, rfl⟩
      obtain ⟨T, hTT⟩ : ∃ T, T = (Sg.adv k c 0 q (Sg.start (sb s) k c)).map bv := ⟨_, rfl⟩
      have hTf : T = (f c).map bv := by rw [hTT, HF.out.1, hq]
      have e1 := fun W h => refStart_any s k c W (by have := HS.out; omega) (by omega) (by omega) h
      rw [← hO] at e1
      have e2 : ∀ W, RTab W → Calls Tryd.prog 30 #[.int .i64 k, .int .i64 c, .int .i64 0, .int .i64 q, .agg O.toArray] W fun e w' => e = .returned (.agg T.toArray) ∧ Below W.heap.size W w' := fun W h => by
        have := refAdvance_any k c 0 q (Sg.start (sb s) k c) W (by omega) (by omega) (by omega) (start_len _ _ _) h
        rw [Nat.zero_add, ← hO, ← hTT] at this
        exact this
      have e3 := fun W => text_any (f c) W (HF.out.2.1 c)
      rw [← hTf] at e3
      obtain ⟨y, hy⟩ : ∃ y, y = bs (f c) := ⟨_, rfl⟩
      have hys : y.size ≤ 16 := by rw [hy, bbytes_size, HF.out.2.1 c]; exact Nat.le_refl _
      obtain ⟨xp, hxp⟩ : ∃ xp, xp = F c := ⟨_, rfl⟩
      have hxs : xp.size ≤ 1100 := by rw [hxp]; exact HF.out.2.2.2.2 c hc
      have hsum : F (c + 1) = xp ++ y := by rw [hxp, hy, HF.out.2.2.2.1]
      rw [← hy] at e3
      rw [← hxp]
      have K := Lib.hid hK
      have HQ := Lib.hid hqv
      have E1 := Lib.hid e1
      have E2 := Lib.hid e2
      have E3 := Lib.hid e3
      have HXP := Lib.hid hxs
      have HY := Lib.hid hys
      have HSUM := Lib.hid hsum
      clear hK hqv hq hq3 hO hTT hTf e1 e2 e3 hy hys hxp hxs hsum
      go_wp2_with fail
      try go_frame
      refine wp_region_list [54, 55, 56, 57, 58, 59, 60, 61, 62, 63, 64, 65, 66, 67] [.is (.string xp), .is (.int .i64 k), .is (.int .i64 c), .is (.slice (some ⟨g4, 0, none⟩) 68 cap4), .is (.int .i64 c), .is (.pointer (some ⟨g4, c, none⟩)), .is (.int .i64 q), .is (.string s), .is (.int .i64 k), .is (.int .i64 c), .is (.agg O.toArray), .is (.agg T.toArray), .is (.string y), .is (.string (xp ++ y))] (by kernel_rfl) (by kernel_rfl) ?_ ?_
      · intro z hz b w' hb hd hx o' ho
        match z, hz with
        | 0, _ =>
          obtain rfl := Option.some.inj ho; exact ⟨hx 13 rfl, Below.refl _ _⟩
        | 1, _ =>
          obtain rfl := Option.some.inj ho; exact ⟨hx 2 rfl, Below.refl _ _⟩
        | 2, _ =>
          obtain rfl := Option.some.inj ho; exact ⟨hx 14 rfl, Below.refl _ _⟩
        | 3, _ =>
          obtain rfl := Option.some.inj ho; exact ⟨hx 12 rfl, Below.refl _ _⟩
        | 4, _ =>
          obtain rfl := Option.some.inj ho; exact ⟨hx 14 rfl, Below.refl _ _⟩
        | 5, _ =>
          obtain rfl := Option.some.inj ho
          have e0 : b.tmps.getD 57 undef = .slice (some ⟨g4, 0, none⟩) 68 cap4 := hd 3 (by kernel_rfl) (by decide)
          have e1 : b.tmps.getD 58 undef = .int .i64 c := hd 4 (by kernel_rfl) (by decide)
          have hr := run_atg w' g4 c cap4 hlt
          rw [← e0, ← e1] at hr
          exact runs_value rfl hr ⟨rfl, Below.refl _ _⟩
        | 6, _ =>
          obtain rfl := Option.some.inj ho
          have e0 : b.tmps.getD 59 undef = .pointer (some ⟨g4, c, none⟩) := hd 5 (by kernel_rfl) (by decide)
          have hr := run_get w' g4 c q (Rd.cellAt ((K.out.1.below hb).more hb.size) c _ HQ.out)
          rw [← e0] at hr
          exact runs_value rfl hr ⟨rfl, Below.refl _ _⟩
        | 7, _ =>
          obtain rfl := Option.some.inj ho; exact ⟨hx 0 rfl, Below.refl _ _⟩
        | 8, _ =>
          obtain rfl := Option.some.inj ho; exact ⟨hx 2 rfl, Below.refl _ _⟩
        | 9, _ =>
          obtain rfl := Option.some.inj ho; exact ⟨hx 14 rfl, Below.refl _ _⟩
        | 10, _ =>
          obtain rfl := Option.some.inj ho
          have e0 : b.tmps.getD 61 undef = .string s := hd 7 (by kernel_rfl) (by decide)
          have e1 : b.tmps.getD 62 undef = .int .i64 k := hd 8 (by kernel_rfl) (by decide)
          have e2 : b.tmps.getD 63 undef = .int .i64 c := hd 9 (by kernel_rfl) (by decide)
          refine runs_call rfl (fun _ _ => rfl) ?_
          show Calls _ _ #[b.tmps.getD 61 undef, b.tmps.getD 62 undef, b.tmps.getD 63 undef] w' _
          rw [e0, e1, e2]
          exact (E1.out w' (HT.out.below (B2.out.trans ((K.out.2.trans (hb.mono K.out.2.size)).mono B2.out.size)) (Nat.le_refl _))).mono fun e w'' h => ⟨_, h.1, rfl, h.2⟩
        | 11, _ =>
          obtain rfl := Option.some.inj ho
          have e0 : b.tmps.getD 55 undef = .int .i64 k := hd 1 (by kernel_rfl) (by decide)
          have e1 : b.tmps.getD 56 undef = .int .i64 c := hd 2 (by kernel_rfl) (by decide)
          have e2 : b.tmps.getD 60 undef = .int .i64 q := hd 6 (by kernel_rfl) (by decide)
          have e3 : b.tmps.getD 64 undef = .agg O.toArray := hd 10 (by kernel_rfl) (by decide)
          refine runs_call rfl (fun _ _ => rfl) ?_
          show Calls _ _ #[b.tmps.getD 55 undef, b.tmps.getD 56 undef, .int .i64 0, b.tmps.getD 60 undef, b.tmps.getD 64 undef] w' _
          rw [e0, e1, e2, e3]
          exact (E2.out w' (HT.out.below (B2.out.trans ((K.out.2.trans (hb.mono K.out.2.size)).mono B2.out.size)) (Nat.le_refl _))).mono fun e w'' h => ⟨_, h.1, rfl, h.2⟩
        | 12, _ =>
          obtain rfl := Option.some.inj ho
          have e0 : b.tmps.getD 65 undef = .agg T.toArray := hd 11 (by kernel_rfl) (by decide)
          refine runs_call rfl (fun _ _ => rfl) ?_
          show Calls _ _ #[b.tmps.getD 65 undef] w' _
          rw [e0]
          exact (E3.out w').mono fun e w'' h => ⟨_, h.1, rfl, h.2⟩
        | 13, _ =>
          obtain rfl := Option.some.inj ho
          have e0 : b.tmps.getD 54 undef = .string xp := hd 0 (by kernel_rfl) (by decide)
          have e1 : b.tmps.getD 66 undef = .string y := hd 12 (by kernel_rfl) (by decide)
          have hr := run_cat w' xp y (by have := HXP.out; omega) (by have := HY.out; omega) (.tmp 54) (.tmp 66)
          rw [← e0, ← e1] at hr
          exact runs_value rfl hr ⟨rfl, Below.refl _ _⟩
        | z + 14, hz => exact absurd hz (by simp)
      · intro vals w6 hb6 hf6
        have e13 : vals 13 = .string (xp ++ y) := hf6 13 (by decide)
        simp only [puts, List.length_cons, List.length_nil, Nat.zero_add, Nat.reduceAdd, List.drop_succ_cons, List.drop_zero, e13]
        have K6 := Lib.hid (And.intro ((K.out.1.below hb6).more hb6.size) (K.out.2.trans (hb6.mono K.out.2.size)))
        clear e13 hb6 hf6 K
        go_frame
        go_wp2_with fail
        exact ⟨⟨c + 1, by omega, by go_num, by rw [HSUM.out], K6.out⟩, by simp [intOf]; omega⟩
    · have hc8 : c = 68 := by omega
      have ik : (68 : Int) ≤ c := by omega
      rw [hc8, HE.out.1, show ((68 : Nat) : Int) = 68 from rfl]
      have hK2 := hK.2
      clear hK hc8
      go_wp2_with fail
      have HK2 := Lib.hid hk2
      clear hl hw hk2' hk2 ik
      go_loopw [13, 15, 16, 17] (fun x a l _ wr => ∃ l' : Nat, l' ≤ n ∧ l = .int .i64 l' ∧ a = .int .i64 ((k / 2 ^ l' : Nat) : Int) ∧ x = .string (E l') ∧ Below w2.heap.size w2 wr) (fun _ _ l _ _ => n - (intOf l).toNat)
      case atStart => exact ⟨0, by omega, rfl, by rw [Nat.pow_zero, Nat.div_one], rfl, hK2⟩
      case round =>
        clear hK2
        obtain ⟨l, hln, rfl, rfl, rfl, hK⟩ := hrel
        by_cases hll : l < n
        · have il : (l : Int) < n := by omega
          obtain ⟨a, haj⟩ : ∃ a, a = k / 2 ^ l := ⟨_, rfl⟩
          have ha64 : a ≤ 64 := by rw [haj]; exact Nat.le_trans (Nat.div_le_self _ _) (by have := HK2.out; omega)
          obtain ⟨nx, hnx⟩ : ∃ nx, nx = (if a % 2 = 1 then a - 1 else a + 1) := ⟨_, rfl⟩
          have hnlt : nx < 2 ^ (n - l) := by rw [hnx]; exact beside_lt k l n a (by rw [← HP.out]; exact HK2.out) hll haj
          have hnj : ((a : Int)).tdiv 2 = ((k / 2 ^ (l + 1) : Nat) : Int) := by
            rw [Nat.pow_succ, ← Nat.div_div_eq_div_mul, ← haj]
            rfl
          have hnj' : (a : Int) / 2 = ((k / 2 ^ (l + 1) : Nat) : Int) := by
            rw [Nat.pow_succ, ← Nat.div_div_eq_div_mul, ← haj]
            rfl
          obtain ⟨gl, capl, hcl, hrow⟩ := HROWS.out.2 l (by omega)
          obtain ⟨n2, hn2⟩ : ∃ n2, n2 = 2 ^ (n - l) := ⟨_, rfl⟩
          rw [← hn2] at hnlt hcl hrow
          have hrr := (hrow.below hK).range nx hnlt
          have hcl' : wr.cell? ⟨o, l, none⟩ = some (.slice (some ⟨gl, 0, none⟩) n2 capl) := (hK.cell (p := ⟨o, l, none⟩) HROWS.out.1).trans hcl
          obtain ⟨V, hV⟩ : ∃ V, V = (Sg.tree (sb s) l nx).map bv := ⟨_, rfl⟩
          have lV : V.length = 16 := by rw [hV, List.length_map, tree_len]
          have yV : (Tryd.prog.info? 23).map (·.size) = some V.length := by rw [lV]; kernel_rfl
          rw [← hV, Nat.mul_comm 16 nx] at hrr
          have cT := fun W => text_any (Sg.tree (sb s) l nx) W (tree_len _ _ _)
          rw [← hV] at cT
          obtain ⟨y, hy⟩ : ∃ y, y = bs (Sg.tree (sb s) l nx) := ⟨_, rfl⟩
          rw [← hy] at cT
          have hys : y.size ≤ 16 := by rw [hy, bbytes_size, tree_len]; exact Nat.le_refl _
          obtain ⟨xp, hxp⟩ : ∃ xp, xp = E l := ⟨_, rfl⟩
          have hxs : xp.size ≤ 1200 := by rw [hxp]; exact HE.out.2.2 l (by omega)
          have hsum : E (l + 1) = xp ++ y := by rw [HE.out.2.1, ← haj, ← hnx, hxp, hy]
          rw [← hxp, ← haj]
          have il2 : (l : Int) < ((n + 1 : Nat) : Int) := by omega
          have inx : (nx : Int) < n2 := by omega
          have K := Lib.hid hK
          have RR := Lib.hid hrr
          have YV := Lib.hid yV
          have CT := Lib.hid cT
          have HSUM := Lib.hid hsum
          have HNJ := Lib.hid (And.intro hnj hnj')
          clear hK hrr hV lV yV cT hy hxp hsum hnj hnj' haj hcl hrow hn2 hnlt
          by_cases hp2 : a % 2 = 1
          · have hp3 : ((a : Int)).tmod 2 = 1 := by
              show ((a % 2 : Nat) : Int) = 1
              rw [hp2]
              rfl
            have hp4 : ((a : Int) % 2 == 1) = true := by simp; omega
            have hp5 : (a : Int) % 2 = 1 := by omega
            rw [if_pos hp2] at hnx
            have hsub : (a : Int) - 1 = nx := by omega
            have ha1 : 1 ≤ a := by omega
            clear hnx hp2
            go_wp2_with (refine wpList_load_wanted 23 (.tmp 87) rfl rfl gl (nx * 16) rfl V _ RR.out Tryd.underlying23 rfl YV.out ?_)
            refine (CT.out wr).mono ?_
            rintro x w8 ⟨rfl, hb8⟩
            have K8 := Lib.hid (K.out.trans (hb8.mono K.out.size))
            have hcat := run_cat w8 xp y (by omega) (by omega) (.tmp 81) (.tmp 89)
            clear hb8 K CT
            go_wp2_with fail
            exact ⟨⟨l + 1, by omega, by go_num, by first | (rw [← HNJ.out.1]; rfl) | (rw [← HNJ.out.2]; rfl) | rw [← HNJ.out.1] | rw [← HNJ.out.2], by rw [HSUM.out], K8.out⟩, by simp [intOf]; omega⟩
          · have hp1 : a % 2 = 0 := by omega
            have hp3 : ((a : Int)).tmod 2 = 0 := by
              show ((a % 2 : Nat) : Int) = 0
              rw [hp1]
              rfl
            have hp4 : ((a : Int) % 2 == 1) = false := by simp; omega
            have hp5 : (a : Int) % 2 = 0 := by omega
            rw [if_neg hp2] at hnx
            have hadd : (a : Int) + 1 = nx := by omega
            clear hnx hp2 hp1
            go_wp2_with (refine wpList_load_wanted 23 (.tmp 87) rfl rfl gl (nx * 16) rfl V _ RR.out Tryd.underlying23 rfl YV.out ?_)
            refine (CT.out wr).mono ?_
            rintro x w8 ⟨rfl, hb8⟩
            have K8 := Lib.hid (K.out.trans (hb8.mono K.out.size))
            have hcat := run_cat w8 xp y (by omega) (by omega) (.tmp 81) (.tmp 89)
            clear hb8 K CT
            go_wp2_with fail
            exact ⟨⟨l + 1, by omega, by go_num, by first | (rw [← HNJ.out.1]; rfl) | (rw [← HNJ.out.2]; rfl) | rw [← HNJ.out.1] | rw [← HNJ.out.2], by rw [HSUM.out], K8.out⟩, by simp [intOf]; omega⟩
        · have hln2 : l = n := by omega
          have il : (n : Int) ≤ l := by omega
          rw [hln2]
          have KB := Lib.hid (B2.out.trans (hK.mono B2.out.size))
          clear hK hln2
          go_wp2_with fail
          go_ret2
          exact ⟨rfl, KB.out⟩
end Go.Proofs.YtkelfcgomeojeaaDoor
end

