import Derived.Test.YtkelfcgomeojeaaDoorJSignPt
import Derived.Test.YtkelfcgomeojeaaDoorJSignPv
import Derived.Test.YtkelfcgomeojeaaDoorJSignRk
import Derived.Test.YtkelfcgomeojeaaDoorJWireK0
import Derived.Test.YtkelfcgomeojeaaDoorJWireRg

section
/- The reference's Verify. -/







namespace Go.Proofs.YtkelfcgomeojeaaDoor
open Go.RowKit
set_option linter.unusedVariables false
set_option maxRecDepth 100000

theorem run_atg (w : World) (b k cap : Nat) (hk : k < 68) : (Instr.indexAt 25 (.slice (some ⟨b, 0, none⟩) 68 cap) (.int .i64 k)).run Tryd.prog w = .ok (.pointer (some ⟨b, k, none⟩)) w := by
  have h1 : (k : Int) < 68 := by omega
  have h2 : (0 : Int) ≤ k := by omega
  go_simp
theorem run_mul16 (w : World) (k : Nat) (hk : k ≤ 1000000) (x y : Operand) : (do eqGuard BinOp.mul 3 x y (.int .i64 16) (.int .i64 k); binOp BinOp.mul 3 (.int .i64 16) (.int .i64 k)).run Tryd.prog w = .ok (.int .i64 ((16 * k : Nat) : Int)) w := by
  go_simp
  rw [IntKind.wrap_i64]
  omega
theorem run_cut_from (w : World) (s : ByteArray) (n : Nat) (h : n ≤ s.size) : (Instr.sliceAt 9 (.string s) (some (.int .i64 n)) none none).run Tryd.prog w = .ok (.string (s.extract n s.size)) w := by
  have h1 : (n : Int) ≤ s.size := by omega
  have h2 : (0 : Int) ≤ n := by omega
  go_simp
theorem chunk_cut (s : ByteArray) (n : Nat) (h : n + 16 ≤ s.size) : (sb (s.extract n s.size)).take 16 = ((sb s).drop n).take 16 := by
  rw [sb_extract, List.take_take]
  congr 1
  omega

set_option maxHeartbeats 8000000 in
theorem refVerify_any (p : List UInt8) (h : Int) (m sg : ByteArray) (w : World) (hp : p.length = 16) (hm : m.size ≤ 2000) (hsz : sg.size ≤ 100000) (hT : RTab w) :
    Calls Tryd.prog 19 #[.agg (p.map bv).toArray, .int .i64 h, .string m, .string sg] w fun x w' => x = .returned (.tuple #[.int .i64 (verS p h (sb m) (sb sg)).1, .int .i64 (verS p h (sb m) (sb sg)).2]) ∧ Below w.heap.size w w' := by
  obtain ⟨hzd, -⟩ := zero_of_info dig_zero
  obtain ⟨Zd, hZd⟩ : ∃ Zd, Zd = (H.zeros 16).map bv := ⟨_, rfl⟩
  rw [← hZd] at hzd
  have lZd : Zd.length = 16 := by rw [hZd, List.length_map, H.zeros_len]
  obtain ⟨X, hX⟩ : ∃ X, X = p.map bv := ⟨_, rfl⟩
  have lX : X.length = 16 := by rw [hX, List.length_map, hp]
  have yX := size_dig lX
  rw [← hX]
  obtain ⟨W0, hW0⟩ : ∃ W0, W0 = w.alloc (.cells X.toArray 23) := ⟨_, rfl⟩
  have hb0 : Below w.heap.size w W0 := by rw [hW0]; exact (Below.refl _ _).alloc (Nat.le_refl _) _
  have hk0 : Blk W0 w.heap.size X 23 := by rw [hW0]; exact Blk.new w _ _
  have HW0 := Lib.hid hW0
  have K0 := Lib.hid (And.intro hk0 hb0)
  have HX := Lib.hid (And.intro hX lX)
  have YX := Lib.hid yX
  have HT := Lib.hid hT
  have LZ := Lib.hid lZd
  clear hW0 hb0 hk0 hX lX yX hT hZd lZd
  by_cases hv : okH h
  case neg =>
    rw [show verS p h (sb m) (sb sg) = (0, 1) from if_neg hv]
    unfold okH at hv
    by_cases h0 : h < 0
    · clear hv
      go_enter Tryd.func19, Tryd.ntmps19
      go_wp2_with fail
      rw [← HW0.out]
      go_ret2
      exact ⟨rfl, K0.out.2⟩
    · have h6 : 6 < h := by omega
      have h00 : 0 ≤ h := by omega
      clear hv
      go_enter Tryd.func19, Tryd.ntmps19
      go_wp2_with fail
      rw [← HW0.out]
      go_ret2
      exact ⟨rfl, K0.out.2⟩
  obtain ⟨n, hn⟩ := Int.eq_ofNat_of_zero_le hv.1
  subst hn
  have hn6 : n ≤ 6 := by have := hv.2; omega
  have hl : (m.size : Int) ≤ 1048576 := by omega
  have hml : (sb m).length ≤ 1048576 := by rw [sb_len]; omega
  have hvm : verS p n (sb m) (sb sg) = (if (M.getI (sb sg)).2.2 = 0 then
    (if okI n (M.getI (sb sg)).1 ∧ ((sb sg).drop (M.getI (sb sg)).2.1).length = (68 + n) * 16 then
      (if topS p n (M.getI (sb sg)).1.toNat (sb m) ((sb sg).drop (M.getI (sb sg)).2.1) = p then ((M.getI (sb sg)).1, 0) else (0, 10)) else (0, 2)) else (0, ((M.getI (sb sg)).2.2 : Int))) := (if_pos hv).trans (if_pos hml)
  rw [hvm]
  have hok := M.getI_ok (sb sg)
  have c2 := fun (A : Option Addr) (c : Nat) (W : World) h1 h2 h3 => refGetInt_any A c (sb sg) W h1 h2 h3
  rw [sb_len] at c2
  obtain ⟨⟨k, u, er⟩, hg⟩ : ∃ x, x = M.getI (sb sg) := ⟨_, rfl⟩
  rw [← hg] at hok c2 ⊢
  simp only at hok c2 ⊢
  obtain ⟨ans, hans⟩ : ∃ ans : Int × Int, ans = (if er = 0 then (if okI n k ∧ ((sb sg).drop u).length = (68 + n) * 16 then (if topS p n k.toNat (sb m) ((sb sg).drop u) = p then (k, 0) else (0, 10)) else (0, 2)) else (0, (er : Int))) := ⟨_, rfl⟩
  rw [← hans]
  obtain ⟨W2, A, c, hcv, hr, hc1, hc2, hb2⟩ := conv_rdc W0 sg (by unfold maxLen; omega)
  have C2 := Lib.hid (c2 A c W2 hr hc1 hc2)
  have K2 := Lib.hid (And.intro (K0.out.1.below hb2 K0.out.1.lt) (K0.out.2.trans (hb2.mono K0.out.2.size)))
  rw [HW0.out] at hcv
  have HOKI := Lib.hid hok
  clear hvm c2 hok hg hv hml hr hc1 hc2 hb2 K0
  go_enter Tryd.func19, Tryd.ntmps19
  go_wp2_with fail
  refine C2.out.mono ?_
  rintro x w2 ⟨rfl, hb2⟩
  have K3 := Lib.hid (And.intro (K2.out.1.below hb2 K2.out.1.lt) (K2.out.2.trans (hb2.mono K2.out.2.size)))
  unfold I3
  clear hcv C2 hb2 K2
  by_cases her : er = 0
  case neg =>
    have he2 : ((er : Int) != 0) = true := by simp; omega
    rw [if_neg her] at hans
    have HA := Lib.hid hans
    clear her hans
    go_wp2_with fail
    go_ret2
    exact ⟨by rw [HA.out]; rfl, K3.out.2⟩
  rw [if_pos her] at hans
  subst her
  obtain ⟨hkI, hul, -, -⟩ := HOKI.out rfl
  rw [sb_len] at hul
  have hul' : (u : Int) ≤ sg.size := by omega
  have hu0 : (0 : Int) ≤ u := by omega
  obtain ⟨rest, hrest⟩ : ∃ rest, rest = sg.extract u sg.size := ⟨_, rfl⟩
  have hrb : (sb sg).drop u = sb rest := by
    rw [hrest, sb_extract, List.take_of_length_le (by rw [List.length_drop, sb_len]; omega)]
  rw [hrb, sb_len] at hans
  have hrs : rest.size = sg.size - u := by rw [hrest]; simp
  have h2h : 2 ^ n ≤ 64 := Nat.pow_le_pow_right (n := 2) (by decide) hn6
  have hw : wrap64 ((2 : Int) ^ n) = ((2 ^ n : Nat) : Int) := by
    rw [← w64 (2 ^ n) (by omega)]
    simp
  obtain ⟨P, hP⟩ : ∃ P, P = 2 ^ n := ⟨_, rfl⟩
  rw [← hP] at hw
  by_cases hk0 : k < 0
  · rw [if_neg (fun h => by have := h.1.1; omega)] at hans
    have HA := Lib.hid hans
    clear hans hrest hrb hrs hP
    go_wp2_with fail
    go_ret2
    exact ⟨by rw [HA.out]; rfl, K3.out.2⟩
  have hk0' : 0 ≤ k := by omega
  by_cases hkP : (P : Int) ≤ k
  · rw [if_neg (fun h => by have := h.1.2; rw [← hP] at this; omega)] at hans
    have HA := Lib.hid hans
    clear hans hrest hrb hrs hP
    go_wp2_with fail
    go_ret2
    exact ⟨by rw [HA.out]; rfl, K3.out.2⟩
  have hkP' : k < (P : Int) := by omega
  have hki : okI n k := ⟨hk0', by rw [← hP]; exact hkP'⟩
  by_cases hlen : rest.size = (68 + n) * 16
  case neg =>
    rw [if_neg (fun h => hlen h.2)] at hans
    have HA := Lib.hid hans
    have hl2 : (((sg.size - u : Nat) : Int) != (68 + (n : Int)) * 16) = true := by simp; omega
    clear hans hrest hrb hP hki
    go_wp2_with fail
    go_ret2
    exact ⟨by rw [HA.out]; rfl, K3.out.2⟩
  rw [if_pos ⟨hki, hlen⟩] at hans
  have hl2 : (((sg.size - u : Nat) : Int) != (68 + (n : Int)) * 16) = false := by simp; omega
  obtain ⟨j, hj⟩ := Int.eq_ofNat_of_zero_le hk0'
  subst hj
  have hj2 : j ≤ 64 := by omega
  obtain ⟨d, hd⟩ : ∃ d, d = Sg.msg p (j : Int) (sb m) := ⟨_, rfl⟩
  have ld : d.length = 16 := by rw [hd]; exact Sg.of_len _ _
  have c4 := fun W h => refMsg_any p (j : Int) m W hp (by unfold M.I64; omega) hm h
  rw [← HX.out.1, ← hd] at c4
  obtain ⟨D, hD⟩ : ∃ D, D = d.map bv := ⟨_, rfl⟩
  have c5 := fun W => refDigits_any d W ld
  rw [← hD] at c4 c5
  obtain ⟨ds, hds⟩ : ∃ ds, ds = Sg.digits d := ⟨_, rfl⟩
  rw [← hds] at c5
  have lds : ds.length = 68 := by rw [hds, digits_len d ld]
  have hle : ∀ c, ds.getD c 0 ≤ 3 := by rw [hds]; exact digits_le d ld
  obtain ⟨f, hf⟩ : ∃ f : Nat → List UInt8, ∀ c, f c = Sg.adv j c (ds.getD c 0) (3 - ds.getD c 0) (chunk (sb rest) c) := ⟨_, fun _ => rfl⟩
  have hfl : ∀ c, c < 68 → (f c).length = 16 := fun c hc => by rw [hf]; exact adv_len _ _ _ _ _ (chunk_len _ _ (by rw [sb_len]; omega))
  have hfm : ∀ k, k ≤ 68 → ((List.range k).flatMap f).length = 16 * k := fun k hk => flat_len f k fun c hc => hfl c (by omega)
  obtain ⟨tp, htp⟩ : ∃ tp, tp = (List.range 68).flatMap f := ⟨_, rfl⟩
  have htv : tv j ds (sb rest) 68 = tp := by rw [htp]; unfold tv; congr 1; funext c; rw [hf]
  have ltp : tp.length = 1088 := by rw [htp]; exact hfm 68 (Nat.le_refl _)
  obtain ⟨ky, hky⟩ : ∃ ky, ky = Sg.of 3 [tp] := ⟨_, rfl⟩
  have lky : ky.length = 16 := by rw [hky, Sg.of_len]
  obtain ⟨lf, hlf⟩ : ∃ lf, lf = Sg.of 1 [ky] := ⟨_, rfl⟩
  have llf : lf.length = 16 := by rw [hlf, Sg.of_len]
  have hlt : Sg.leafOf tp = lf := by rw [hlf, hky]; rfl
  have c6 := fun (A : Option Addr) (W : World) h h2 => refOf_upto 3 A 1 [bs tp] W h (by simp) (by intro s hs; rw [List.mem_singleton.1 hs, bbytes_size]; omega) h2
  rw [show (3 : Int) = ((3 : Nat) : Int) from rfl, dig_one 3 (by omega), show UInt8.ofNat 3 = 3 from rfl, ← hky] at c6
  have c7 := fun (A : Option Addr) (W : World) h h2 => refOf_upto 1 A 1 [bs ky] W h (by simp) (by intro s hs; rw [List.mem_singleton.1 hs, bbytes_size]; omega) h2
  rw [show (1 : Int) = ((1 : Nat) : Int) from rfl, dig_one 1 (by omega), show UInt8.ofNat 1 = 1 from rfl, ← hlf] at c7
  obtain ⟨KY, hKY⟩ : ∃ KY, KY = ky.map bv := ⟨_, rfl⟩
  have lKY : KY.length = 16 := by rw [hKY, List.length_map, lky]
  have yK := size_dig lKY
  have oK : KY.toArray.all (·.oneCell') = true := all_oneCell_toArray (by rw [hKY]; exact bytes_one _)
  have cT := fun W => text_any ky W lky
  rw [← hKY] at c6 cT
  obtain ⟨xk, hxk⟩ : ∃ xk, xk = bs ky := ⟨_, rfl⟩
  obtain ⟨xt, hxt⟩ : ∃ xt, xt = bs tp := ⟨_, rfl⟩
  rw [← hxk] at cT c7
  rw [← hxt] at c6
  obtain ⟨V, hV⟩ : ∃ V : Nat → List Value, ∀ k, V k = (Sg.climb j lf (chunks ((sb rest).drop 1088) k)).map bv := ⟨_, fun _ => rfl⟩
  have lV : ∀ k, (V k).length = 16 := fun k => by rw [hV, List.length_map, climb_len _ _ _ llf]
  have yV := fun k => size_dig (lV k)
  have oV : ∀ k, (V k).toArray.all (·.oneCell') = true := fun k => all_oneCell_toArray (by rw [hV]; exact bytes_one _)
  have hV0 : lf.map bv = V 0 := by rw [hV]; rfl
  rw [hV0] at c7
  have hts : topS p n (j : Int).toNat (sb m) (sb rest) = Sg.climb j lf (chunks ((sb rest).drop 1088) n) := by
    rw [Int.toNat_natCast]
    unfold topS
    rw [← hd, ← hds, htv, hlt]
  rw [hts] at hans
  have HA := Lib.hid hans
  have C4 := Lib.hid c4
  have C5 := Lib.hid c5
  have C6 := Lib.hid c6
  have C7 := Lib.hid c7
  have CT := Lib.hid cT
  have HF := Lib.hid (And.intro hf (And.intro hfl hfm))
  have HTP := Lib.hid (And.intro htp (And.intro hxt ltp))
  have HD := Lib.hid (And.intro lds hle)
  have HREST := Lib.hid (And.intro hrest hlen)
  have LK := Lib.hid lKY
  have YK := Lib.hid yK
  have HV := Lib.hid hV
  have LV := Lib.hid lV
  have YV := Lib.hid yV
  have LLF := Lib.hid llf
  have HN := Lib.hid hn6
  clear hans hki hrb hrest hP hd ld c4 hD c5 hds lds hle hf hfl hfm htp htv ltp hky lky hlf llf hlt c6 c7 hKY lKY yK cT hxk hxt hV lV yV hV0 hts h2h hkP hk0
  go_wp2_with (refine wpList_load_row rfl 23 (.tmp 4) rfl w.heap.size rfl _ X.toArray (0, 0) _ K3.out.1 Tryd.underlying23 rfl YX.out ?_)
  rw [← HREST.out.1]
  refine (C4.out w2 (HT.out.below K3.out.2 (Nat.le_refl _))).mono ?_
  rintro x w4 ⟨rfl, hb4⟩
  have K4 := Lib.hid (And.intro (K3.out.1.below hb4 K3.out.1.lt) (K3.out.2.trans (hb4.mono K3.out.2.size)))
  clear hb4 C4 K3
  go_wp2_with fail
  refine (C5.out w4).mono ?_
  rintro x w5 ⟨v, rfl, hown, hb5⟩
  obtain ⟨g, cap, rfl, -, hg, hcap, -, hcell⟩ := own_form hown (by omega)
  have hrd : Rd w5 w5.heap.size (some ⟨g, 0, none⟩) (ds.map dv) := fun _ => ⟨g, 0, rfl, hg, fun j u hu => by
    have := hcell j u hu
    rw [Addr.add_mid] at this
    exact this⟩
  have K5 := Lib.hid (And.intro (K4.out.1.below hb5 K4.out.1.lt) (And.intro hrd (K4.out.2.trans (hb5.mono K4.out.2.size))))
  clear hb5 C5 K4 hown hcell hrd hg hcap
  go_wp2_with fail
  go_loopw [15, 16] (fun x i wr => ∃ k : Nat, k ≤ 68 ∧ i = .int .i64 k ∧ x = .string (bs ((List.range k).flatMap f)) ∧ (Blk wr w.heap.size X 23 ∧ Rd wr wr.heap.size (some ⟨g, 0, none⟩) (ds.map dv) ∧ Below w.heap.size w wr)) (fun _ i _ => 68 - (intOf i).toNat)
  case atStart => exact ⟨0, by omega, rfl, rfl, K5.out⟩
  case round =>
    clear K5
    obtain ⟨k, hk, rfl, rfl, hK⟩ := hrel
    by_cases hlt : k < 68
    · have ik : (k : Int) < 68 := by omega
      obtain ⟨q, hq⟩ : ∃ q, q = ds.getD k 0 := ⟨_, rfl⟩
      have hq3 : q ≤ 3 := by rw [hq]; exact HD.out.2 k
      have hqv : (ds.map dv)[k]? = some (.int .i64 (q : Int)) := by rw [List.getElem?_map, getD_at ds k 0 (by have := HD.out.1; omega), ← hq]; rfl
      obtain ⟨ys, hys⟩ : ∃ ys, ys = rest.extract (16 * k) rest.size := ⟨_, rfl⟩
      have hysz : ys.size = rest.size - 16 * k := by rw [hys]; simp
      have hyb : (sb ys).take 16 = chunk (sb rest) k := by rw [hys, chunk_cut _ _ (by have := HREST.out.2; omega)]; unfold chunk; rw [Nat.mul_comm]
      have lo : (chunk (sb rest) k).length = 16 := chunk_len _ _ (by rw [sb_len]; have := HREST.out.2; omega)
      have e1 := fun W => refDigest_any ys W (by have := HREST.out.2; omega) (by have := HREST.out.2; omega)
      rw [hyb] at e1
      have e2 := fun W h => refAdvance_any j k q (3 - q) (chunk (sb rest) k) W (by omega) (by omega) (by omega) lo h
      rw [show q + (3 - q) = 3 by omega, hq, ← HF.out.1 k, ← hq] at e2
      have e3 := fun W => text_any (f k) W (HF.out.2.1 k hlt)
      have hsum : bs ((List.range k).flatMap f) ++ bs (f k) = bs ((List.range (k + 1)).flatMap f) := by rw [bs_append, flat_succ]
      obtain ⟨xp, hxp⟩ : ∃ xp, xp = bs ((List.range k).flatMap f) := ⟨_, rfl⟩
      have hxps : xp.size ≤ 1088 := by rw [hxp, bbytes_size, HF.out.2.2 k hk]; omega
      rw [← hxp] at hsum ⊢
      have hfs : (bs (f k)).size = 16 := by rw [bbytes_size, HF.out.2.1 k hlt]
      obtain ⟨O, hO⟩ : ∃ O, O = (chunk (sb rest) k).map bv := ⟨_, rfl⟩
      obtain ⟨T, hTT⟩ : ∃ T, T = (f k).map bv := ⟨_, rfl⟩
      rw [← hO] at e1 e2
      rw [← hTT] at e2 e3
      have K := Lib.hid hK
      have HQ := Lib.hid hqv
      have HYS := Lib.hid (And.intro hys hysz)
      have E1 := Lib.hid e1
      have E2 := Lib.hid e2
      have E3 := Lib.hid e3
      have HSUM := Lib.hid hsum
      have HFS := Lib.hid hfs
      clear hK hqv hys hysz hyb lo e1 e2 e3 hsum hfs hxp hO hTT hq
      go_wp2_with fail
      try go_frame
      refine wp_region_list [69, 70, 71, 72, 73, 74, 75, 76, 77, 78, 79, 80, 81, 82, 83] [.is (.string xp), .is (.int .i64 j), .is (.int .i64 k), .is (.slice (some ⟨g, 0, none⟩) 68 cap), .is (.int .i64 k), .is (.pointer (some ⟨g, k, none⟩)), .is (.int .i64 q), .is (.string rest), .is (.int .i64 k), .is (.int .i64 ((16 * k : Nat) : Int)), .is (.string ys), .is (.agg O.toArray), .is (.agg T.toArray), .is (.string (bs (f k))), .is (.string (xp ++ bs (f k)))] (by kernel_rfl) (by kernel_rfl) ?_ ?_
      · intro z hz b w' hb hd hx o ho
        match z, hz with
        | 0, _ => obtain rfl := Option.some.inj ho; exact ⟨hx 15 rfl, Below.refl _ _⟩
        | 1, _ => obtain rfl := Option.some.inj ho; exact ⟨hx 10 rfl, Below.refl _ _⟩
        | 2, _ => obtain rfl := Option.some.inj ho; exact ⟨hx 16 rfl, Below.refl _ _⟩
        | 3, _ => obtain rfl := Option.some.inj ho; exact ⟨hx 14 rfl, Below.refl _ _⟩
        | 4, _ => obtain rfl := Option.some.inj ho; exact ⟨hx 16 rfl, Below.refl _ _⟩
        | 5, _ =>
          obtain rfl := Option.some.inj ho
          have e1 : b.tmps.getD 72 undef = .slice (some ⟨g, 0, none⟩) 68 cap := hd 3 (by kernel_rfl) (by decide)
          have e2 : b.tmps.getD 73 undef = .int .i64 k := hd 4 (by kernel_rfl) (by decide)
          have hr := run_atg w' g k cap hlt
          rw [← e1, ← e2] at hr
          exact runs_value rfl hr ⟨rfl, Below.refl _ _⟩
        | 6, _ =>
          obtain rfl := Option.some.inj ho
          have e1 : b.tmps.getD 74 undef = .pointer (some ⟨g, k, none⟩) := hd 5 (by kernel_rfl) (by decide)
          have hr := run_get w' g k q (Rd.cellAt ((K.out.2.1.below hb).more hb.size) k _ HQ.out)
          rw [← e1] at hr
          exact runs_value rfl hr ⟨rfl, Below.refl _ _⟩
        | 7, _ => obtain rfl := Option.some.inj ho; exact ⟨hx 13 rfl, Below.refl _ _⟩
        | 8, _ => obtain rfl := Option.some.inj ho; exact ⟨hx 16 rfl, Below.refl _ _⟩
        | 9, _ =>
          obtain rfl := Option.some.inj ho
          have e1 : b.tmps.getD 77 undef = .int .i64 k := hd 8 (by kernel_rfl) (by decide)
          have hr := run_mul16 w' k (by omega) (.const (.int .i64 16)) (.tmp 77)
          rw [← e1] at hr
          exact runs_value rfl hr ⟨rfl, Below.refl _ _⟩
        | 10, _ =>
          obtain rfl := Option.some.inj ho
          have e1 : b.tmps.getD 76 undef = .string rest := hd 7 (by kernel_rfl) (by decide)
          have e2 : b.tmps.getD 78 undef = .int .i64 ((16 * k : Nat) : Int) := hd 9 (by kernel_rfl) (by decide)
          have hr := run_cut_from w' rest (16 * k) (by have := HREST.out.2; omega)
          rw [← HYS.out.1, ← e1, ← e2] at hr
          exact runs_value rfl hr ⟨rfl, Below.refl _ _⟩
        | 11, _ =>
          obtain rfl := Option.some.inj ho
          have e1 : b.tmps.getD 79 undef = .string ys := hd 10 (by kernel_rfl) (by decide)
          refine runs_call rfl (fun _ _ => rfl) ?_
          show Calls _ _ #[b.tmps.getD 79 undef] w' _
          rw [e1]
          exact (E1.out w').mono fun e w'' h => ⟨_, h.1, rfl, h.2⟩
        | 12, _ =>
          obtain rfl := Option.some.inj ho
          have e1 : b.tmps.getD 70 undef = .int .i64 j := hd 1 (by kernel_rfl) (by decide)
          have e2 : b.tmps.getD 71 undef = .int .i64 k := hd 2 (by kernel_rfl) (by decide)
          have e3 : b.tmps.getD 75 undef = .int .i64 q := hd 6 (by kernel_rfl) (by decide)
          have e4 : b.tmps.getD 80 undef = .agg O.toArray := hd 11 (by kernel_rfl) (by decide)
          refine runs_call rfl (fun _ _ => rfl) ?_
          show Calls _ _ #[b.tmps.getD 70 undef, b.tmps.getD 71 undef, b.tmps.getD 75 undef, .int .i64 3, b.tmps.getD 80 undef] w' _
          rw [e1, e2, e3, e4]
          exact (E2.out w' (HT.out.below (K.out.2.2.trans (hb.mono K.out.2.2.size)) (Nat.le_refl _))).mono fun e w'' h => ⟨_, h.1, rfl, h.2⟩
        | 13, _ =>
          obtain rfl := Option.some.inj ho
          have e1 : b.tmps.getD 81 undef = .agg T.toArray := hd 12 (by kernel_rfl) (by decide)
          refine runs_call rfl (fun _ _ => rfl) ?_
          show Calls _ _ #[b.tmps.getD 81 undef] w' _
          rw [e1]
          exact (E3.out w').mono fun e w'' h => ⟨_, h.1, rfl, h.2⟩
        | 14, _ =>
          obtain rfl := Option.some.inj ho
          have e1 : b.tmps.getD 69 undef = .string xp := hd 0 (by kernel_rfl) (by decide)
          have e2 : b.tmps.getD 82 undef = .string (bs (f k)) := hd 13 (by kernel_rfl) (by decide)
          have hr := run_cat w' xp (bs (f k)) (by omega) (by have := HFS.out; omega) (.tmp 69) (.tmp 82)
          rw [← e1, ← e2] at hr
          exact runs_value rfl hr ⟨rfl, Below.refl _ _⟩
        | n + 15, h => exact absurd h (by simp)
      · intro vals w6 hb6 hf6
        have e14 : vals 14 = .string (xp ++ bs (f k)) := hf6 14 (by decide)
        simp only [puts, List.length_cons, List.length_nil, Nat.zero_add, Nat.reduceAdd, List.drop_succ_cons, List.drop_zero, e14]
        have K6 := Lib.hid (And.intro (K.out.1.below hb6 K.out.1.lt) (And.intro ((K.out.2.1.below hb6).more hb6.size) (K.out.2.2.trans (hb6.mono K.out.2.2.size))))
        rw [HSUM.out]
        clear e14 hb6 hf6 K
        go_frame
        go_wp2_with fail
        exact ⟨⟨k + 1, by omega, by go_num, rfl, K6.out⟩, by simp [intOf]; omega⟩
    · have hk8 : k = 68 := by omega
      have ik : (68 : Int) ≤ k := by omega
      rw [hk8, ← HTP.out.1, ← HTP.out.2.1]
      obtain ⟨W6, hW6⟩ : ∃ W6, W6 = wr.alloc (.cells #[.string xt] 9) := ⟨_, rfl⟩
      have hb6 : Below wr.heap.size wr W6 := by rw [hW6]; exact (Below.refl _ _).alloc (Nat.le_refl _) _
      have K6 := Lib.hid (And.intro (hK.1.below hb6 hK.1.lt) (hK.2.2.trans (hb6.mono hK.2.2.size)))
      have c6 := C6.out (some ⟨wr.heap.size, 0, none⟩) W6 (by rw [hW6]; exact rd_new wr [.string xt] _) (HT.out.below K6.out.2 (Nat.le_refl _))
      have C6' := Lib.hid c6
      have HW6 := Lib.hid hW6
      clear hK hW6 hb6 c6 C6 hk8
      go_wp2_with fail
      rw [← HW6.out]
      refine C6'.out.mono ?_
      rintro x w7 ⟨rfl, hb7⟩
      obtain ⟨W8, hW8, m1, m2, m3⟩ := row_new w7 23 16 Zd KY LZ.out LK.out
      have hb78 := hb7.trans (m3.mono hb7.size)
      have K8 := Lib.hid (And.intro (K6.out.1.below hb78 K6.out.1.lt) (K6.out.2.trans (hb78.mono K6.out.2.size)))
      have M1 := Lib.hid m1
      have M2 := Lib.hid m2
      have HW8 := Lib.hid hW8
      clear hb7 m1 m2 m3 hb78 hW8 K6 C6'
      go_wp2_with (first | (refine wpList_store_mid rfl 23 (.tmp 17) (.tmp 86) rfl w7.heap.size 0 KY.toArray rfl rfl M1.out YK.out oK ?_; rw [← HW8.out]) | (refine wpList_load_row rfl 23 (.tmp 17) rfl w7.heap.size rfl _ KY.toArray (0, 0) _ M2.out Tryd.underlying23 rfl YK.out ?_))
      refine (CT.out W8).mono ?_
      rintro x w9 ⟨rfl, hb9⟩
      have K9 := Lib.hid (And.intro (K8.out.1.below hb9 K8.out.1.lt) (K8.out.2.trans (hb9.mono K8.out.2.size)))
      obtain ⟨W10, hW10⟩ : ∃ W10, W10 = w9.alloc (.cells #[.string xk] 9) := ⟨_, rfl⟩
      have hb10 : Below w9.heap.size w9 W10 := by rw [hW10]; exact (Below.refl _ _).alloc (Nat.le_refl _) _
      have K10 := Lib.hid (And.intro (K9.out.1.below hb10 K9.out.1.lt) (K9.out.2.trans (hb10.mono K9.out.2.size)))
      have C7' := Lib.hid (C7.out (some ⟨w9.heap.size, 0, none⟩) W10 (by rw [hW10]; exact rd_new w9 [.string xk] _) (HT.out.below K10.out.2 (Nat.le_refl _)))
      have HW10 := Lib.hid hW10
      clear hb9 hW10 hb10 K8 K9 C7 CT M1 M2 HW8
      go_wp2_with fail
      rw [← HW10.out]
      refine C7'.out.mono ?_
      rintro x w11 ⟨rfl, hb11⟩
      obtain ⟨W12, hW12, m1, m2, m3⟩ := row_new w11 23 16 Zd (V 0) LZ.out (LV.out 0)
      have hb12 := hb11.trans (m3.mono hb11.size)
      have K12 := Lib.hid (And.intro (K10.out.1.below hb12 K10.out.1.lt) (And.intro (K10.out.2.trans (hb12.mono K10.out.2.size)) (And.intro m2 (show w.heap.size < w11.heap.size from by have := K10.out.1.lt; have := hb11.size; omega))))
      have M1 := Lib.hid m1
      have HW12 := Lib.hid hW12
      have Y0 := Lib.hid (YV.out 0)
      have o0 := oV 0
      clear hb11 m1 m2 m3 hb12 hW12 K10 C7'
      go_wp2_with (refine wpList_store_mid rfl 23 (.tmp 18) (.tmp 90) rfl w11.heap.size 0 (V 0).toArray rfl rfl M1.out Y0.out o0 ?_; rw [← HW12.out])
      clear M1 HW12 Y0 o0
      go_loopw [19, 20, 21] (fun i l _ wy => ∃ k : Nat, k ≤ n ∧ l = .int .i64 k ∧ i = .int .i64 ((j / 2 ^ k : Nat) : Int) ∧ (Blk wy w.heap.size X 23 ∧ Below w.heap.size w wy ∧ Blk wy w11.heap.size (V k) 23 ∧ w.heap.size < w11.heap.size)) (fun _ l _ _ => n - (intOf l).toNat)
      case atStart => exact ⟨0, by omega, rfl, by simp, K12.out⟩
      case round =>
        clear K12
        obtain ⟨l, hln, rfl, rfl, hK⟩ := hrel
        by_cases hll : l < n
        · have il : (l : Int) < n := by omega
          obtain ⟨a, haj⟩ : ∃ a, a = j / 2 ^ l := ⟨_, rfl⟩
          have ha64 : a ≤ 64 := by rw [haj]; exact Nat.le_trans (Nat.div_le_self _ _) hj2
          obtain ⟨cu, hcu⟩ : ∃ cu, cu = Sg.climb j lf (chunks ((sb rest).drop 1088) l) := ⟨_, rfl⟩
          have lcu : cu.length = 16 := by rw [hcu]; exact climb_len _ _ _ LLF.out
          obtain ⟨ys, hys⟩ : ∃ ys, ys = rest.extract (16 * (68 + l)) rest.size := ⟨_, rfl⟩
          have hysz : ys.size = rest.size - 16 * (68 + l) := by rw [hys]; simp
          obtain ⟨o, ho⟩ : ∃ o, o = chunk ((sb rest).drop 1088) l := ⟨_, rfl⟩
          have hyb : (sb ys).take 16 = o := by rw [hys, chunk_cut _ _ (by have := HREST.out.2; omega), ho]; unfold chunk; rw [List.drop_drop, show 1088 + l * 16 = 16 * (68 + l) by omega]
          have lo : o.length = 16 := by rw [ho]; exact chunk_len _ _ (by rw [List.length_drop, sb_len]; have := HREST.out.2; omega)
          have e1 := fun W => refDigest_any ys W (by have := HREST.out.2; omega) (by have := HREST.out.2; omega)
          rw [hyb] at e1
          have hnx : V (l + 1) = (if a % 2 = 1 then Sg.node o cu else Sg.node cu o).map bv := by rw [HV.out, chunks_succ, climb_snoc, chunks_len, ← haj, ← ho, ← hcu]
          have hVl : V l = cu.map bv := by rw [HV.out, hcu]
          have hnj : ((a : Int)).tdiv 2 = ((j / 2 ^ (l + 1) : Nat) : Int) := by
            rw [Nat.pow_succ, ← Nat.div_div_eq_div_mul, ← haj]
            rfl
          have hnj' : (a : Int) / 2 = ((j / 2 ^ (l + 1) : Nat) : Int) := by
            rw [Nat.pow_succ, ← Nat.div_div_eq_div_mul, ← haj]
            rfl
          obtain ⟨O, hO⟩ : ∃ O, O = o.map bv := ⟨_, rfl⟩
          have lO : O.length = 16 := by rw [hO, List.length_map, lo]
          have yO := size_dig lO
          have oO : O.toArray.all (·.oneCell') = true := all_oneCell_toArray (by rw [hO]; exact bytes_one _)
          rw [← hO] at e1
          rw [← haj]
          have hex : (16 : Int) * (68 + (l : Int)) ≤ rest.size := by have := HREST.out.2; omega
          have hxx : rest.extract (16 * (68 + l)) rest.size = ys := hys.symm
          have K := Lib.hid hK
          have E1 := Lib.hid e1
          have HO := Lib.hid (And.intro hO (And.intro lo lO))
          have HCU := Lib.hid (And.intro hVl lcu)
          have HNX := Lib.hid hnx
          have HNJ := Lib.hid (And.intro hnj hnj')
          have YO := Lib.hid yO
          have HYS := Lib.hid hys
          have hrz : rest.size = (68 + n) * 16 := HREST.out.2
          clear hK haj hcu lcu hys hysz ho hyb lo e1 hnx hVl hnj hnj' hO lO yO hrs hul' hul
          go_wp2_with fail
          rw [show rest.extract (16 * (68 + l)) ((68 + n) * 16) = ys by rw [← hrz, HYS.out]]
          refine (E1.out wr).mono ?_
          rintro x w13 ⟨rfl, hb13⟩
          obtain ⟨W14, hW14, m1, m2, m3⟩ := row_new w13 23 16 Zd O LZ.out HO.out.2.2
          have hb14 := hb13.trans (m3.mono hb13.size)
          have K14 := Lib.hid (And.intro (K.out.1.below hb14 K.out.1.lt) (And.intro (K.out.2.1.trans (hb14.mono K.out.2.1.size)) (And.intro (K.out.2.2.1.below hb14 K.out.2.2.1.lt) (And.intro K.out.2.2.2 trivial))))
          have hne : w.heap.size ≠ w11.heap.size := Nat.ne_of_lt K.out.2.2.2
          have M1 := Lib.hid m1
          have M2 := Lib.hid m2
          have HW14 := Lib.hid hW14
          have HT14 := Lib.hid (HT.out.below K14.out.2.1 (Nat.le_refl _))
          have Y1 := Lib.hid (YV.out (l + 1))
          have o1 := oV (l + 1)
          have YL := Lib.hid (YV.out l)
          have fin : ∀ w15, Below W14.heap.size W14 w15 → w15.there w11.heap.size 0 (V (l + 1)).toArray.size ∧ (Blk (w15.setCells w11.heap.size 0 (V (l + 1))) w.heap.size X 23 ∧ Below w.heap.size w (w15.setCells w11.heap.size 0 (V (l + 1))) ∧ Blk (w15.setCells w11.heap.size 0 (V (l + 1))) w11.heap.size (V (l + 1)) 23 ∧ w.heap.size < w11.heap.size) := by
            intro w15 hb15
            have x5 := K14.out.2.2.1.below hb15 K14.out.2.2.1.lt
            have z5 := K14.out.1.below hb15 K14.out.1.lt
            exact ⟨x5.there 0 _ (by rw [List.size_toArray, LV.out, LV.out]; omega), Blk.outside _ _ _ _ z5 hne, below_setCells _ (Nat.le_of_lt K14.out.2.2.2.1) _ _ _ (K14.out.2.1.trans (hb15.mono K14.out.2.1.size)), x5.whole _ (by rw [LV.out, LV.out]), K14.out.2.2.2.1⟩
          have FIN := Lib.hid fin
          clear hb13 m1 m2 m3 hb14 hW14 K E1 fin hne
          by_cases hp2 : a % 2 = 1
          · have hp3 : ((a : Int)).tmod 2 = 1 := by
              show ((a % 2 : Nat) : Int) = 1
              rw [hp2]
              rfl
            have hp4 : ((a : Int) % 2 == 1) = true := by simp; omega
            have hp5 : (a : Int) % 2 = 1 := by omega
            have c8 := refNode_any o cu W14 HO.out.2.1 HCU.out.2 HT14.out
            rw [← HO.out.1, ← HCU.out.1, show (Sg.node o cu).map bv = V (l + 1) by rw [HNX.out, if_pos hp2]] at c8
            have C8 := Lib.hid c8
            clear c8
            go_wp2_with (first | (refine wpList_store_mid rfl 23 (.tmp 21) (.tmp 102) rfl w13.heap.size 0 O.toArray rfl rfl M1.out YO.out oO ?_; rw [← HW14.out]) | (refine wpList_load_row rfl 23 (.tmp 18) rfl w11.heap.size rfl _ (V l).toArray (0, 0) _ K14.out.2.2.1 Tryd.underlying23 rfl YL.out ?_) | (refine wpList_load_row rfl 23 (.tmp 21) rfl w13.heap.size rfl _ O.toArray (0, 0) _ M2.out Tryd.underlying23 rfl YO.out ?_))
            refine C8.out.mono ?_
            rintro e w15 ⟨rfl, hb15⟩
            obtain ⟨t15, f15⟩ := FIN.out w15 hb15
            have T15 := Lib.hid t15
            have F15 := Lib.hid f15
            clear t15 f15 hb15 C8
            go_wp2_with (refine wpList_store_mid rfl 23 (.tmp 18) (.tmp 108) rfl w11.heap.size 0 (V (l + 1)).toArray rfl rfl T15.out Y1.out o1 ?_)
            exact ⟨⟨l + 1, by omega, by go_num, by first | (rw [← HNJ.out.1]; rfl) | (rw [← HNJ.out.2]; rfl) | rw [← HNJ.out.1] | rw [← HNJ.out.2], F15.out⟩, by simp [intOf]; omega⟩
          · have hp3 : ((a : Int)).tmod 2 = 0 := by
              show ((a % 2 : Nat) : Int) = 0
              rw [show a % 2 = 0 by omega]
              rfl
            have hp4 : ((a : Int) % 2 == 1) = false := by simp; omega
            have hp5 : (a : Int) % 2 = 0 := by omega
            have c8 := refNode_any cu o W14 HCU.out.2 HO.out.2.1 HT14.out
            rw [← HO.out.1, ← HCU.out.1, show (Sg.node cu o).map bv = V (l + 1) by rw [HNX.out, if_neg hp2]] at c8
            have C8 := Lib.hid c8
            clear c8
            go_wp2_with (first | (refine wpList_store_mid rfl 23 (.tmp 21) (.tmp 102) rfl w13.heap.size 0 O.toArray rfl rfl M1.out YO.out oO ?_; rw [← HW14.out]) | (refine wpList_load_row rfl 23 (.tmp 18) rfl w11.heap.size rfl _ (V l).toArray (0, 0) _ K14.out.2.2.1 Tryd.underlying23 rfl YL.out ?_) | (refine wpList_load_row rfl 23 (.tmp 21) rfl w13.heap.size rfl _ O.toArray (0, 0) _ M2.out Tryd.underlying23 rfl YO.out ?_))
            refine C8.out.mono ?_
            rintro e w15 ⟨rfl, hb15⟩
            obtain ⟨t15, f15⟩ := FIN.out w15 hb15
            have T15 := Lib.hid t15
            have F15 := Lib.hid f15
            clear t15 f15 hb15 C8
            go_wp2_with (refine wpList_store_mid rfl 23 (.tmp 18) (.tmp 111) rfl w11.heap.size 0 (V (l + 1)).toArray rfl rfl T15.out Y1.out o1 ?_)
            exact ⟨⟨l + 1, by omega, by go_num, by first | (rw [← HNJ.out.1]; rfl) | (rw [← HNJ.out.2]; rfl) | rw [← HNJ.out.1] | rw [← HNJ.out.2], F15.out⟩, by simp [intOf]; omega⟩
        · have hln2 : l = n := by omega
          have il : (n : Int) ≤ l := by omega
          rw [hln2] at hK
          obtain ⟨rt, hrt⟩ : ∃ rt, rt = Sg.climb j lf (chunks ((sb rest).drop 1088) n) := ⟨_, rfl⟩
          have lrt : rt.length = 16 := by rw [hrt]; exact climb_len _ _ _ LLF.out
          have heq := eq_dig rt p lrt hp wr
          have hVn : V n = rt.map bv := by rw [HV.out, hrt]
          rw [← HX.out.1, ← hVn] at heq
          have hA2 := HA.out
          rw [← hrt] at hA2
          have K := Lib.hid hK
          have YN := Lib.hid (YV.out n)
          clear hK hrt lrt hVn hln2
          by_cases hrp : rt = p
          · rw [show decide (rt = p) = true from decide_eq_true hrp] at heq
            rw [if_pos hrp] at hA2
            have HA2 := Lib.hid hA2
            clear hA2 hrp
            go_wp2_with (first | (refine wpList_load_row rfl 23 (.tmp 18) rfl w11.heap.size rfl _ (V n).toArray (0, 0) _ K.out.2.2.1 Tryd.underlying23 rfl YN.out ?_) | (refine wpList_load_row rfl 23 (.tmp 4) rfl w.heap.size rfl _ X.toArray (0, 0) _ K.out.1 Tryd.underlying23 rfl YX.out ?_))
            go_ret2
            exact ⟨by rw [HA2.out]; rfl, K.out.2.1⟩
          · rw [show decide (rt = p) = false from decide_eq_false hrp] at heq
            rw [if_neg hrp] at hA2
            have HA2 := Lib.hid hA2
            clear hA2 hrp
            go_wp2_with (first | (refine wpList_load_row rfl 23 (.tmp 18) rfl w11.heap.size rfl _ (V n).toArray (0, 0) _ K.out.2.2.1 Tryd.underlying23 rfl YN.out ?_) | (refine wpList_load_row rfl 23 (.tmp 4) rfl w.heap.size rfl _ X.toArray (0, 0) _ K.out.1 Tryd.underlying23 rfl YX.out ?_))
            go_ret2
            exact ⟨by rw [HA2.out]; rfl, K.out.2.1⟩
end Go.Proofs.YtkelfcgomeojeaaDoor
end

