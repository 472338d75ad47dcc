import Derived.Deep.CutBlock
import Derived.Test.YtkgddcemocfgfaaGreatDoorJZSmEb

section
/- The reference's parser: life, the walk. -/


namespace Go.Proofs.YtkgddcemocfgfaaGreatDoor
open Go.RowKit
set_option linter.unusedVariables false
set_option linter.unusedSimpArgs false
set_option maxRecDepth 100000

set_option maxHeartbeats 8000000 in
theorem paLife_any (pb : Nat) (s : ByteArray) (A : Option Addr) (cap : Nat) (ts : List (Nat × Nat)) (p : Sm.PS) (W : World) (h : PaAt pb s A cap ts p W) (hi : p.i ≤ ts.length) :
  Calls Tryz.prog 67 #[.pointer (some ⟨pb, 0, none⟩)] W (LfA pb s A cap ts (Sm.lifeV (tokT s ts) p).1 (Sm.lifeV (tokT s ts) p).2 W) := by
 obtain ⟨T, hT⟩ : ∃ T, T = tokT s ts := ⟨_, rfl⟩
 have hTl : T.length = ts.length := by rw [hT]; unfold tokT; rw [List.length_map]
 have hl8 : T.length ≤ 8192 := by rw [hTl]; exact h.sz.2.1
 rw [← hTl] at hi
 rw [← hT]
 obtain ⟨q1, hq1⟩ : ∃ q, q = Sm.wantP T Sm.lifeWd p := ⟨_, rfl⟩
 obtain ⟨q2, hq2⟩ : ∃ q, q = Sm.nameP T q1 := ⟨_, rfl⟩
 obtain ⟨q3, hq3⟩ : ∃ q, q = Sm.cntP T q2 := ⟨_, rfl⟩
 have b1 : q1.i ≤ T.length := by rw [hq1]; exact (Sm.wantP_on T _ p hi).2
 have b2 : q2.i ≤ T.length := by rw [hq2]; exact (Sm.nameP_on T q1 b1).2
 have b3 : q3.i ≤ T.length := by rw [hq3]; exact (Sm.cntP_on T q2 b2).2
 obtain ⟨cn, hcn⟩ : ∃ n, n = Sm.numV T q2 := ⟨_, rfl⟩
 obtain ⟨R1, hR1⟩ : ∃ R, R = Sm.statesL T cn.toNat [] q3 := ⟨_, rfl⟩
 have b4 : R1.2.i ≤ T.length := by rw [hR1]; exact (Sm.statesL_on T _ _ q3 b3).2
 obtain ⟨R, hR⟩ : ∃ R, R = Sm.movesL T (T.length + 1) [] R1.2 := ⟨_, rfl⟩
 have hV : Sm.lifeV T p = (⟨Sm.nameW T q1, R1.1, R.1⟩, R.2) := by
  unfold Sm.lifeV
  simp only [← hq1, ← hq2, ← hq3, ← hcn, ← hR1, ← hR]
 rw [hV]
 have c0 := fun V hV => paWant_any pb s A cap ts p V hV (by omega) Sm.lifeWd
 rw [← hT, ← hq1] at c0
 have c1 := fun V hV => paName_any pb s A cap ts q1 V hV (by omega)
 rw [← hT, ← hq2] at c1
 have c2 := fun V hV => paCount_any pb s A cap ts q2 V hV (by omega)
 rw [← hT, ← hq3, ← hcn] at c2
 have cL := fun q V (hV : PaAt pb s A cap ts q V) (hq : q.i ≤ 1000000) => paLook_any pb s A cap ts q V hV hq
 have cN := fun q V (hV : PaAt pb s A cap ts q V) (hq : q.i ≤ 1000000) => paName_any pb s A cap ts q V hV hq
 have cM := fun q V (hV : PaAt pb s A cap ts q V) (hq : q.i ≤ 1000000) => paNumber_any pb s A cap ts q V hV hq
 have cT := fun q V (hV : PaAt pb s A cap ts q V) (hq : q.i ≤ 1000000) => paWant_any pb s A cap ts q V hV hq Sm.moveWd
 simp only [← hT] at cN cM cL cT
 generalize Sm.nameW T q1 = n1 at *
 unfold Sm.lifeWd at c0
 have HCF := Lib.hid (show q3.f = false → cn ≤ 12 from fun x => by
  rw [hq3] at x
  have := (Sm.takeP_f T _ q2 x).2
  rw [Bool.and_eq_true] at this
  rw [hcn]
  exact (of_decide_eq_true this.2).2)
 have C0 := Lib.hid c0
 have C1 := Lib.hid c1
 have C2 := Lib.hid c2
 have CL := Lib.hid cL
 have CNN := Lib.hid cN
 have CMM := Lib.hid cM
 have CTT := Lib.hid cT
 have HH := Lib.hid h
 have HR1 := Lib.hid hR1
 have HR := Lib.hid (And.intro hR (And.intro b4 (And.intro hl8 b3)))
 have HW := Lib.hid (show Sm.moveWd = ⟨#[109, 111, 118, 101]⟩ from rfl)
 clear c0 c1 c2 cL cN cM cT hq1 hq2 hq3 b1 b2 b3 b4 hV hT h hi hTl hl8 hR hR1 hcn
 go_enter Tryz.func67, Tryz.ntmps67
 go_wp2_with fail
 refine (C0.out _ (HH.out.alloc _)).mono ?_
 rintro e w1 ⟨rfl, ha, hb⟩
 have H1 := Lib.hid (And.intro ha hb)
 clear ha hb C0
 go_wp2_with fail
 refine (C1.out _ H1.out.1).mono ?_
 rintro e w2 ⟨rfl, ha, hb⟩
 have hz : VaSt 67 lfZ pb s A cap ts W W.heap.size w2.heap.size q2 [.string n1, .slice none 0 0, .slice none 0 0] (w2.alloc (.cells #[.string n1, .slice none 0 0, .slice none 0 0] 67)) := VaSt.begin ha (H1.out.2.trans hb) HH.out.blk.lt
 clear ha hb C1 H1
 have HS := Lib.hid hz
 clear hz
 go_wp2_with fail
 generalize w2.heap.size = fb at *
 obtain ⟨rb, hrb⟩ : ∃ rb, rb = W.heap.size := ⟨_, rfl⟩
 rw [← hrb]
 rw [← hrb] at HS
 have HRB := Lib.hid hrb
 clear hrb
 refine (C2.out _ HS.out.pa).mono ?_
 rintro e w3 ⟨rfl, ha, hb⟩
 have hz : VaSt 67 lfZ pb s A cap ts W rb fb q3 [.string n1, .slice none 0 0, .slice none 0 0] w3 := HS.out.call ha hb
 clear HS
 have HS := Lib.hid hz
 clear hz ha hb C2
 obtain ⟨i0, hi0, hz0, hz1, hz2⟩ := info_parts2 info_mv
 have HI := Lib.hid (And.intro hi0 (And.intro hz0 (And.intro hz1 hz2)))
 obtain ⟨j0, hj0, hy0, hy1, hy2⟩ := info_parts pa_info_str
 have HJ := Lib.hid (And.intro hj0 (And.intro hy0 (And.intro hy1 hy2)))
 clear hi0 hz0 hz1 hz2 hj0 hy0 hy1 hy2
 have HPB := Lib.hid (show pb < W.heap.size from HH.out.blk.lt)
 go_upto_block 0 with fail
 go_cut [5] from 14 to 32 (fun i wx => ∃ vs, VaSt 67 lfZ pb s A cap ts W rb fb R1.2 [.string n1, vs, .slice none 0 0] wx ∧ wx.ownsRow (fb + 1) 9 1 vs R1.1.length (R1.1.map sv))
 case first =>
  go_wp2_with fail
  go_loopw [5] (fun i wr => ∃ (k : Nat) (q : Sm.PS) (vs : Value) (L : List ByteArray), i = .int .i64 k ∧ VaSt 67 lfZ pb s A cap ts W rb fb q [.string n1, vs, .slice none 0 0] wr ∧ wr.ownsRow (fb + 1) 9 1 vs L.length (L.map sv) ∧ R1 = Sm.statesL T (cn.toNat - k) L q ∧ L.length = k ∧ q.i ≤ T.length ∧ k ≤ 12 ∧ (q.f = false → cn ≤ 12)) (fun i _ => 13 - (intOf i).toNat)
  case atStart => exact ⟨0, q3, _, [], rfl, HS.out, World.ownsRow_nil _ _ _ _, HR1.out, rfl, HR.out.2.2.2, by omega, HCF.out⟩
  case round =>
   clear HS
   obtain ⟨k, q, vs, L, rfl, hst, how, hR, hL, hqi, hk12, hqf⟩ := hrel
   obtain ⟨x5, rfl⟩ : ∃ x5 : World, x5 = wr := ⟨_, rfl⟩
   have HK := Lib.hid (And.intro hst how)
   have c3 := hst.pa.blk.cell 3 _ rfl
   clear hst how
   obtain ⟨qf, hqff⟩ : ∃ z, z = q.f := ⟨_, rfl⟩
   rw [← hqff] at c3 hqf
   by_cases hlt : (k : Int) < cn
   ·cases qf with
    | true =>
     have hRR : R1 = (L, q) := by rw [hR, Sm.statesL_end _ _ _ _ hqff.symm]
     have HRR := Lib.hid hRR
     clear hR hL hqi hqf hqff hRR
     go_wp2_with fail
     go_meet
     case rel => rw [HRR.out]; exact ⟨vs, HK.out.1, HK.out.2⟩
    | false =>
     have hcn := hqf rfl
     have hpn := Sm.statesL_next T (cn.toNat - (k + 1)) L q hqff.symm
     rw [show cn.toNat - (k + 1) + 1 = cn.toNat - k by omega] at hpn
     rw [hpn] at hR
     have hon := (Sm.nameP_on T q hqi).2
     have cN := fun V hV => CNN.out q V hV (by have := HR.out.2.2.1; omega)
     obtain ⟨nn, hnn⟩ : ∃ n, n = Sm.nameW T q := ⟨_, rfl⟩
     obtain ⟨qb, hqb⟩ : ∃ z, z = Sm.nameP T q := ⟨_, rfl⟩
     simp only [← hnn, ← hqb] at cN
     rw [← hnn, ← hqb] at hR
     rw [← hqb] at hon
     have CN := Lib.hid cN
     have HX := Lib.hid (And.intro hR (And.intro hL (And.intro hon hcn)))
     clear cN hR hL hnn hqb hqi hqf hpn hqff hon
     go_wp2_with fail
     clear c3
     try go_frame
     refine wp_region_statelist [26, 27, 28, 29, 30] (fun d _ w' => But pb x5 w' ∧ PaAt pb s A cap ts (if d 3 = true then qb else q) w') (fun w' w'' => But pb w' w'' ∧ w'.heap.size ≤ w''.heap.size) [fun u _ => u = .pointer (some ⟨fb, 1, none⟩), fun u _ => u = vs, fun u _ => u = .pointer (some ⟨pb, 0, none⟩), fun u _ => u = .string nn, fun u w' => ∃ g, u = .slice (some ⟨g, 0, none⟩) 1 1 ∧ w'.cell? ⟨g, 0, none⟩ = some (.string nn) ∧ x5.heap.size ≤ g ∧ g < w'.heap.size]
      (by
       intro f hf u w' w'' h hr
       simp only [List.mem_cons, List.not_mem_nil, or_false] at hf
       rcases hf with rfl | rfl | rfl | rfl | rfl
       ·exact h
       ·exact h
       ·exact h
       ·exact h
       ·obtain ⟨g, h1, h2, h3, h4⟩ := h
        exact ⟨g, h1, (hr.1.cell (p := ⟨g, 0, none⟩) h4 (by show g ≠ pb; have := HPB.out; have := HK.out.1.but.size; omega)).trans h2, h3, Nat.lt_of_lt_of_le h4 hr.2⟩)
      (fun _ => ⟨(But.refl pb x5).drewn, HK.out.1.pa.drew⟩) (by kernel_rfl) (by kernel_rfl) ?_ ?_
     ·intro y hy d vals b w' hJ hu hd hall hx o ho
      match y, hy with
      | 0, _ =>
       obtain rfl := Option.some.inj ho
       have e : b.tmps.getD 3 undef = .pointer (some ⟨fb, 0, none⟩) := hx 3 rfl
       have hr := run_field_life w' fb 1 (by decide)
       rw [← e] at hr
       exact runs_value rfl hr ⟨rfl, ⟨But.refl _ _, Nat.le_refl _⟩, hJ⟩
      | 1, _ =>
       obtain rfl := Option.some.inj ho
       have e : b.tmps.getD 26 undef = .pointer (some ⟨fb, 1, none⟩) := (hd 0 (by kernel_rfl) (by decide)).2
       have hr := run_load_strs w' ⟨fb, 1, none⟩ vs ((HK.out.1.fld.but hJ.1 (by have := HK.out.1.news; omega)).cell 1 _ rfl)
       rw [← e] at hr
       exact runs_value rfl hr ⟨rfl, ⟨But.refl _ _, Nat.le_refl _⟩, hJ⟩
      | 2, _ =>
       obtain rfl := Option.some.inj ho
       exact ⟨hx 0 rfl, ⟨But.refl _ _, Nat.le_refl _⟩, hJ⟩
      | 3, _ =>
       obtain rfl := Option.some.inj ho
       have hu : d 3 = false := hu
       have e : b.tmps.getD 28 undef = .pointer (some ⟨pb, 0, none⟩) := (hd 2 (by kernel_rfl) (by decide)).2
       have hpa := hJ.2
       rw [hu] at hpa
       refine runs_call rfl (fun _ _ => rfl) ?_
       show Calls _ _ #[b.tmps.getD 28 undef] w' _
       rw [e]
       exact (CN.out w' hpa).mono fun e w'' h => ⟨_, h.1, rfl, ⟨h.2.2, h.2.2.size⟩, hJ.1.trans h.2.2, h.2.1⟩
      | 4, _ =>
       obtain rfl := Option.some.inj ho
       have e : b.tmps.getD 29 undef = .string nn := (hd 3 (by kernel_rfl) (by decide)).2
       have hbs := run_build_str w' nn
       have hbel : Below w'.heap.size w' (w'.alloc (.cells #[.string nn] 9)) := (Below.refl _ _).alloc (Nat.le_refl _) _
       refine runs_value (X := Instr.buildSlice 45 1 #[(0, b.tmps.getD 29 undef)]) (by unfold execOp; simp [Act.eval]) (by rw [e]; exact hbs) ⟨⟨w'.heap.size, rfl, (Blk.new w' [.string nn] 9).cell 0 _ rfl, hJ.1.size, by rw [World.size_alloc]; omega⟩, ⟨But.of hbel, hbel.size⟩, hJ.1.trans (But.of hbel), hJ.2.below hbel⟩
     ·intro d vals w' hJ hall hf
      have v1 : vals 1 = vs := hf 1 (by decide)
      obtain ⟨g, v4, hcg, hg1, hg2⟩ := hf 4 (by decide)
      have hpa := hJ.2
      rw [hall 3 (by decide)] at hpa
      have hpa : PaAt pb s A cap ts qb w' := hpa
      simp only [puts, List.length_cons, List.length_nil, Nat.zero_add, Nat.reduceAdd, List.drop_succ_cons, List.drop_zero, v1, v4]
      have hst := HK.out.1.call hpa hJ.1
      have how := own_but HK.out.2 hJ.1 (by have := HK.out.1.news; omega)
      have hg3 : fb + 1 ≤ w'.heap.size := hst.fld.lt
      have H8 := Lib.hid (And.intro hst (And.intro how (And.intro hg3 (And.intro hcg (And.intro hg1 hg2)))))
      clear v1 v4 hst how hcg hpa hJ hall hf
      try go_frame
      refine wpList_append_own_at _ rfl (.tmp 27) (.tmp 30) 45 rfl (fb + 1) 9 j0 (.string ByteArray.empty) 1 16 Tryz.underlying45 HJ.out.1 HJ.out.2.1 HJ.out.2.2.1 HJ.out.2.2.2 rfl (by decide) vs L.length (L.map sv) rfl H8.out.2.1 ⟨g, 0, none⟩ 1 1 [.string nn] rfl rfl (by
       intro j u hj
       match j, hj with
       | 0, hj => obtain rfl := Option.some.inj hj; exact H8.out.2.2.2.1
       | j + 1, hj => simp at hj) (by intro u hu; simp at hu; subst hu; rfl) (by rw [HX.out.2.1]; unfold maxLen; omega) (by rw [HX.out.2.1]; omega) H8.out.2.2.1 ?_
      intro v' w4 hown' hgrow _ hat
      have HA := Lib.hid (And.intro hown' (And.intro hgrow hat))
      clear hown' hgrow hat
      have hva := H8.out.1.grown HA.out.2.1 (fun j hj => by have := (H8.out.2.1.lt j hj).1; omega)
      obtain ⟨nl, hnl⟩ : ∃ n, n = L.length + 1 := ⟨_, rfl⟩
      have hown := HA.out.1
      rw [← hnl] at hown
      obtain ⟨Av, cv, rfl, -, -, -⟩ := own_rdS hown
      have HNL := Lib.hid hnl
      clear hown hnl
      have c1 := hva.fld.cell 1 _ rfl
      have f1 := hva.fld.frozen 1
      have HD4 := Lib.hid hva
      clear hva
      go_wp2_with fail
      refine ⟨⟨k + 1, qb, .slice Av nl cv, L ++ [nn], by go_num, HD4.out.set 1 _, own_setCell ?_ _ _ (Nat.lt_succ_self fb), HX.out.1, by rw [List.length_append, HX.out.2.1]; rfl, HX.out.2.2.1, by omega, fun _ => HX.out.2.2.2⟩, by simp [intOf]; omega⟩
      rw [List.length_append, List.map_append]; exact HA.out.1
   ·have hRR : R1 = (L, q) := by rw [hR, show cn.toNat - k = 0 by omega]; rfl
    have HRR := Lib.hid hRR
    clear hR hL hqi hqf hqff hRR
    go_wp2_with fail
    go_meet
    case rel => rw [HRR.out]; exact ⟨vs, HK.out.1, HK.out.2⟩
 case rest =>
  obtain ⟨vs, hst, how⟩ := hcut
  obtain ⟨wB, hwB⟩ : ∃ w, w = wc := ⟨_, rfl⟩
  rw [← hwB] at hst how ⊢
  clear hwB HS
  obtain ⟨ns, hns⟩ : ∃ n, n = R1.1.length := ⟨_, rfl⟩
  rw [← hns] at how
  obtain ⟨As, cs, rfl, hs1, hs2, hs3⟩ := own_rdB how
  obtain ⟨B, hB⟩ : ∃ B, B = wB.heap.size := ⟨_, rfl⟩
  rw [← hB] at hs1
  have hB1 : fb + 1 ≤ B := by rw [hB]; exact hst.fld.lt
  have HS2 := Lib.hid (And.intro hst (And.intro hs1 hB))
  have HN := Lib.hid (And.intro hns (And.intro hs2 (And.intro hs3 hB1)))
  clear hst how hs1 hs2 hs3 hns hB hB1
  go_wp2_with fail
  go_loopg [6] (T.length + 1) (fun m z wr => ∃ (q : Sm.PS) (vm : Value) (M : List (Int × Int)) (F : Nat), VaSt 67 lfZ pb s A cap ts W rb fb q [.string n1, .slice As ns cs, vm] wr ∧ RdS (fun k => fb + 1 ≤ k ∧ k < B) wr As (R1.1.map sv) ∧ wr.ownsRow B 68 2 vm M.length (Sm.moveC M) ∧ B ≤ wr.heap.size ∧ R = Sm.movesL T F M q ∧ q.i ≤ T.length ∧ T.length < q.i + F ∧ M.length ≤ q.i ∧ T.length + 1 - q.i ≤ m)
  case atStart => exact ⟨R1.2, _, [], T.length + 1, HS2.out.1, HS2.out.2.1, World.ownsRow_nil _ _ _ _, Nat.le_of_eq HS2.out.2.2, HR.out.1, HR.out.2.1, by omega, Nat.zero_le _, by omega⟩
  case round =>
   clear HS2
   obtain ⟨q, vm, M, F, hst, hrd, hrow, hBw, hR, hqi, hF, hL, hm⟩ := hrel
   obtain ⟨wo, rfl⟩ : ∃ wo : World, wo = wr := ⟨_, rfl⟩
   have HK := Lib.hid (And.intro hst (And.intro hrd (And.intro hrow (And.intro hBw (And.intro hqi (And.intro hL (And.intro hm hF)))))))
   have cl := CL.out q wo hst.pa (by have := HR.out.2.2.1; omega)
   have hmv := fun (x : (Sm.look T q).toList = Sm.moveWd.toList) => Sm.wantP_next x (by decide)
   have hmo := fun (x : (Sm.look T q).toList = Sm.moveWd.toList) => Sm.moveP_on (T := T) (p := q) x
   have hme := fun (x : ¬ (Sm.look T q).toList = Sm.moveWd.toList) => Sm.movesL_end T F M q x
   have hmn := fun (G : Nat) (x : (Sm.look T q).toList = Sm.moveWd.toList) => Sm.movesL_next T G M q x
   obtain ⟨lw, hlw⟩ : ∃ z, z = Sm.look T q := ⟨_, rfl⟩
   rw [← hlw] at cl
   simp only [← hlw] at hmv hmo hme hmn
   have CLq := Lib.hid cl
   have HRq := Lib.hid hR
   have HMv := Lib.hid hmv
   have HMo := Lib.hid hmo
   have HMe := Lib.hid hme
   have HMn := Lib.hid hmn
   clear hst hrd hrow hBw hqi hL hm hF cl hlw hR hmv hmo hme hmn
   go_wp2_with fail
   refine CLq.out.mono ?_
   rintro e x5 ⟨rfl, hb⟩
   have hst5 := HK.out.1.call (HK.out.1.pa.below hb) (But.of hb)
   have hbb : But pb wo x5 := But.of hb
   have hpB : pb < B := by have := HK.out.1.news; have := HN.out.2.2.2; omega
   have hrd5 := HK.out.2.1.keep (w' := x5) fun a ha => hbb.cell (Nat.lt_of_lt_of_le ha.2 HK.out.2.2.2.1) (by have := HK.out.1.news; have := ha.1; omega)
   have hrow5 := own_but HK.out.2.2.1 hbb hpB
   have hB5 : B ≤ x5.heap.size := Nat.le_trans HK.out.2.2.2.1 hbb.size
   have H5 := Lib.hid (And.intro hst5 (And.intro hrd5 (And.intro hrow5 hB5)))
   clear hst5 hrd5 hrow5 hb hbb hB5 CLq
   have hwd : Sm.moveWd.toList = [109, 111, 118, 101] := by rw [HW.out, Lib.toList_data]
   have HWd := Lib.hid hwd
   clear hwd
   by_cases hmm : lw.toList = [109, 111, 118, 101]
   ·have hmm2 : lw.toList = Sm.moveWd.toList := by rw [HWd.out]; exact hmm
    have hqa := (HMv.out hmm2).1
    have hon := HMo.out hmm2
    obtain ⟨F', rfl⟩ : ∃ F', F = F' + 1 := ⟨F - 1, by have := HK.out.2.2.2.2.2.2.2; have := HK.out.2.2.2.2.1; omega⟩
    have hnx := HRq.out
    rw [HMn.out F' hmm2] at hnx
    have hqi8 : q.i ≤ 8192 := by have := HK.out.2.2.2.2.1; have := HR.out.2.2.1; omega
    have ct := fun V hV => CTT.out q V hV (by omega)
    unfold Sm.moveV at hnx
    unfold Sm.moveP at hnx hon
    obtain ⟨qa, hqa'⟩ : ∃ z, z = Sm.wantP T Sm.moveWd q := ⟨_, rfl⟩
    rw [← hqa'] at hqa
    simp only [← hqa'] at hnx hon ct
    have bqa : qa.i ≤ 8193 := by rw [hqa]; show q.i + 1 ≤ _; omega
    have ca := fun V hV => CMM.out qa V hV (by omega)
    obtain ⟨na, hna⟩ : ∃ z, z = Sm.numV T qa := ⟨_, rfl⟩
    obtain ⟨qb, hqb⟩ : ∃ z, z = Sm.numP T qa := ⟨_, rfl⟩
    have bqb : qb.i ≤ 8194 := by rw [hqb]; have := Sm.numP_i T qa; omega
    simp only [← hna, ← hqb] at ca hnx hon
    have cb := fun V hV => CMM.out qb V hV (by omega)
    obtain ⟨nb, hnb⟩ : ∃ z, z = Sm.numV T qb := ⟨_, rfl⟩
    obtain ⟨qc, hqc⟩ : ∃ z, z = Sm.numP T qb := ⟨_, rfl⟩
    simp only [← hnb, ← hqc] at cb hnx hon
    unfold Sm.moveWd at ct
    have CT := Lib.hid ct
    have CA := Lib.hid ca
    have CB := Lib.hid cb
    have hM8 : M.length ≤ 8192 := by have := HK.out.2.2.2.2.2.1; omega
    have HX := Lib.hid (And.intro hnx (And.intro hon (And.intro (show M.length + 1 ≤ qc.i by have := HK.out.2.2.2.2.2.1; omega) hM8)))
    clear ct ca cb hnx hon hqa hqa' hna hqb hnb hqc bqa bqb hqi8 hM8 hmm2 hpB HMv HMo HMe HMn HWd
    go_wp2_with fail
    refine (CT.out _ H5.out.1.pa).mono ?_
    rintro e x6 ⟨rfl, ha, hb⟩
    have hva := H5.out.1.call ha hb
    have H6 := Lib.hid (And.intro hva hb)
    clear ha hb hva
    go_wp2_with fail
    refine (CA.out _ H6.out.1.pa).mono ?_
    rintro e x7 ⟨rfl, ha, hb⟩
    have hva := H6.out.1.call ha hb
    have hbb := H6.out.2.trans hb
    have hrd7 := H5.out.2.1.keep (w' := x7) fun a ha => hbb.cell (Nat.lt_of_lt_of_le ha.2 H5.out.2.2.2) (by have := HK.out.1.news; have := ha.1; omega)
    have hrow7 := own_but H5.out.2.2.1 hbb (by have := HK.out.1.news; have := HN.out.2.2.2; omega)
    have H7 := Lib.hid (And.intro hva (And.intro hrd7 (And.intro hrow7 (Nat.le_trans H5.out.2.2.2 hbb.size))))
    clear ha hb hva hbb hrd7 hrow7 H6 H5 CT CA hmm
    go_wp2_with fail
    try go_frame
    refine wp_region_statelist [40, 41, 42, 43, 44, 45, 46] (fun d _ w' => But pb x7 w' ∧ PaAt pb s A cap ts (if d 4 = true then qc else qb) w') (fun w' w'' => But pb w' w'' ∧ w'.heap.size ≤ w''.heap.size) [fun u _ => u = .pointer (some ⟨fb, 2, none⟩), fun u _ => u = vm, fun u _ => u = .int .i64 na, fun u _ => u = .pointer (some ⟨pb, 0, none⟩), fun u _ => u = .int .i64 nb, fun u _ => u = .agg #[.int .i64 na, .int .i64 nb], fun u w' => ∃ g, u = .slice (some ⟨g, 0, none⟩) 1 1 ∧ w'.cell? ⟨g, 0, none⟩ = some (.int .i64 na) ∧ w'.cell? ⟨g, 1, none⟩ = some (.int .i64 nb) ∧ x7.heap.size ≤ g ∧ g < w'.heap.size]
     (by
      intro f hf u w' w'' h hr
      simp only [List.mem_cons, List.not_mem_nil, or_false] at hf
      rcases hf with rfl | rfl | rfl | rfl | rfl | rfl | rfl
      ·exact h
      ·exact h
      ·exact h
      ·exact h
      ·exact h
      ·exact h
      ·obtain ⟨g, h1, h2, h3, h4, h5⟩ := h
       have hne : g ≠ pb := by have := HPB.out; have := H7.out.1.but.size; omega
       exact ⟨g, h1, (hr.1.cell (p := ⟨g, 0, none⟩) h5 hne).trans h2, (hr.1.cell (p := ⟨g, 1, none⟩) h5 hne).trans h3, h4, Nat.lt_of_lt_of_le h5 hr.2⟩)
     (fun _ => ⟨(But.refl pb x7).drewn, H7.out.1.pa.drew⟩) (by kernel_rfl) (by kernel_rfl) ?_ ?_
    ·intro y hy d vals b w' hJ hu hd hall hx o ho
     match y, hy with
     | 0, _ =>
      obtain rfl := Option.some.inj ho
      have e : b.tmps.getD 3 undef = .pointer (some ⟨fb, 0, none⟩) := hx 3 rfl
      have hr := run_field_life w' fb 2 (by decide)
      rw [← e] at hr
      exact runs_value rfl hr ⟨rfl, ⟨But.refl _ _, Nat.le_refl _⟩, hJ⟩
     | 1, _ =>
      obtain rfl := Option.some.inj ho
      have e : b.tmps.getD 40 undef = .pointer (some ⟨fb, 2, none⟩) := (hd 0 (by kernel_rfl) (by decide)).2
      have hr := run_load_mvs w' ⟨fb, 2, none⟩ vm ((H7.out.1.fld.but hJ.1 (by have := H7.out.1.news; omega)).cell 2 _ rfl)
      rw [← e] at hr
      exact runs_value rfl hr ⟨rfl, ⟨But.refl _ _, Nat.le_refl _⟩, hJ⟩
     | 2, _ =>
      obtain rfl := Option.some.inj ho
      exact ⟨hx 6 rfl, ⟨But.refl _ _, Nat.le_refl _⟩, hJ⟩
     | 3, _ =>
      obtain rfl := Option.some.inj ho
      exact ⟨hx 0 rfl, ⟨But.refl _ _, Nat.le_refl _⟩, hJ⟩
     | 4, _ =>
      obtain rfl := Option.some.inj ho
      have hu : d 4 = false := hu
      have e : b.tmps.getD 43 undef = .pointer (some ⟨pb, 0, none⟩) := (hd 3 (by kernel_rfl) (by decide)).2
      have hpa := hJ.2
      rw [hu] at hpa
      refine runs_call rfl (fun _ _ => rfl) ?_
      show Calls _ _ #[b.tmps.getD 43 undef] w' _
      rw [e]
      exact (CB.out w' hpa).mono fun e w'' h => ⟨_, h.1, rfl, ⟨h.2.2, h.2.2.size⟩, hJ.1.trans h.2.2, h.2.1⟩
     | 5, _ =>
      obtain rfl := Option.some.inj ho
      have e0 : b.tmps.getD 42 undef = .int .i64 na := (hd 2 (by kernel_rfl) (by decide)).2
      have e1 : b.tmps.getD 44 undef = .int .i64 nb := (hd 4 (by kernel_rfl) (by decide)).2
      have hr := run_mv w' na nb
      refine runs_value (X := Instr.build 68 #[(0, b.tmps.getD 42 undef), (1, b.tmps.getD 44 undef)]) (by unfold execOp; simp [Act.eval]) (by rw [e0, e1]; exact hr) ⟨rfl, ⟨But.refl _ _, Nat.le_refl _⟩, hJ⟩
     | 6, _ =>
      obtain rfl := Option.some.inj ho
      have e : b.tmps.getD 45 undef = .agg #[.int .i64 na, .int .i64 nb] := (hd 5 (by kernel_rfl) (by decide)).2
      have hbs := run_build_mv w' na nb
      have hbel : Below w'.heap.size w' (w'.alloc (.cells #[.int .i64 na, .int .i64 nb] 68)) := (Below.refl _ _).alloc (Nat.le_refl _) _
      have hnew := Blk.new w' [.int .i64 na, .int .i64 nb] 68
      refine runs_value (X := Instr.buildSlice 65 1 #[(0, b.tmps.getD 45 undef)]) (by unfold execOp; simp [Act.eval]) (by rw [e]; exact hbs) ⟨⟨w'.heap.size, rfl, hnew.cell 0 _ rfl, hnew.cell 1 _ rfl, hJ.1.size, by rw [World.size_alloc]; omega⟩, ⟨But.of hbel, hbel.size⟩, hJ.1.trans (But.of hbel), hJ.2.below hbel⟩
    ·intro d vals w' hJ hall hf
     have v1 : vals 1 = vm := hf 1 (by decide)
     obtain ⟨g, v6, hcg, hcg1, hg1, hg2⟩ := hf 6 (by decide)
     have hpa := hJ.2
     rw [hall 4 (by decide)] at hpa
     have hpa : PaAt pb s A cap ts qc w' := hpa
     simp only [puts, List.length_cons, List.length_nil, Nat.zero_add, Nat.reduceAdd, List.drop_succ_cons, List.drop_zero, v1, v6]
     have hst := H7.out.1.call hpa hJ.1
     have hrd := H7.out.2.1.keep (w' := w') fun a ha => hJ.1.cell (Nat.lt_of_lt_of_le ha.2 H7.out.2.2.2) (by have := HK.out.1.news; have := ha.1; omega)
     have hrow := own_but H7.out.2.2.1 hJ.1 (by have := HK.out.1.news; have := HN.out.2.2.2; omega)
     have hg3 : B ≤ w'.heap.size := Nat.le_trans H7.out.2.2.2 hJ.1.size
     have H8 := Lib.hid (And.intro hst (And.intro hrd (And.intro hrow (And.intro hg3 (And.intro hcg (And.intro hcg1 (And.intro hg1 hg2)))))))
     clear v1 v6 hst hrd hrow hcg hcg1 hpa hJ hall hf hg1 hg2 hg3
     try go_frame
     refine wpList_append_own_at _ rfl (.tmp 41) (.tmp 46) 65 rfl B 68 i0 mvZ 2 16 Tryz.underlying65 HI.out.1 HI.out.2.1 HI.out.2.2.1 HI.out.2.2.2 rfl (by decide) vm M.length (Sm.moveC M) rfl H8.out.2.2.1 ⟨g, 0, none⟩ 1 1 [.int .i64 na, .int .i64 nb] rfl rfl (by
      intro j u hj
      match j, hj with
      | 0, hj => obtain rfl := Option.some.inj hj; exact H8.out.2.2.2.2.1
      | 1, hj => obtain rfl := Option.some.inj hj; exact H8.out.2.2.2.2.2.1
      | j + 2, hj => simp at hj) (by intro u hu; simp at hu; rcases hu with rfl | rfl <;> rfl) (by have := HX.out.2.2.2; unfold maxLen; omega) (by have := HX.out.2.2.2; omega) H8.out.2.2.2.1 ?_
     intro v' w4 hown' hgrow _ hat
     have hva := H8.out.1.grown hgrow (fun k hk => by have := (H8.out.2.2.1.lt k hk).1; have := HN.out.2.2.2; omega)
     have hrd := H8.out.2.1.keep (w' := w4) fun a ha => by
      unfold World.cell?
      rw [hgrow.block a.block (Nat.lt_of_lt_of_le ha.2 H8.out.2.2.2.1) (fun x => by have := (H8.out.2.2.1.lt _ x.symm).1; have := ha.2; omega)]
     obtain ⟨nl, hnl⟩ : ∃ n, n = M.length + 1 := ⟨_, rfl⟩
     have hown := hown'
     rw [← hnl] at hown
     obtain ⟨Av, cv, rfl, -, -, -⟩ := own_rdB hown
     have d2 := hva.fld.cell 2 _ rfl
     have e2 := hva.fld.frozen 2
     have HV := Lib.hid (And.intro hva (And.intro hrd (And.intro hown' (Nat.le_trans H8.out.2.2.2.1 hgrow.size))))
     clear hown hown' hgrow hat hva hrd hnl
     go_wp2_with fail
     go_roundg (T.length + 1 - qc.i)
     case measure => have := HX.out.2.1; have := HK.out.2.2.2.2.2.2.1; omega
     case rel =>
      refine ⟨qc, _, M ++ [(na, nb)], F', HV.out.1.set 2 _, HV.out.2.1.keep fun a ha => World.cell?_setCell_other _ _ _ _ (fun x => by rw [← x] at ha; have := ha.1; exact absurd this (Nat.not_succ_le_self fb)), own_setCell ?_ _ _ (by show fb < B; have := HN.out.2.2.2; omega), by rw [size_setCell]; exact HV.out.2.2.2, HX.out.1, HX.out.2.1.2, by have := HX.out.2.1; have := HK.out.2.2.2.2.2.2.2; omega, by rw [List.length_append]; exact HX.out.2.2.1, Nat.le_refl _⟩
      rw [List.length_append, Sm.moveC_append]; exact HV.out.2.2.1
   ·have hRR : R = (M, q) := by rw [HRq.out, HMe.out (by rw [HWd.out]; exact hmm)]
    subst hRR
    obtain ⟨nm, hnm⟩ : ∃ n, n = M.length := ⟨_, rfl⟩
    have hown := H5.out.2.2.1
    rw [← hnm] at hown
    obtain ⟨Am, cm, rfl, hm1, hm2, hm3⟩ := own_rdB hown
    have HF := Lib.hid (And.intro hm1 (And.intro hm2 (And.intro hm3 hnm)))
    have d0 := H5.out.1.fld.cell 0 _ rfl
    have d1 := H5.out.1.fld.cell 1 _ rfl
    have d2 := H5.out.1.fld.cell 2 _ rfl
    have r0 := H5.out.1.res.cell 0 _ rfl
    have r1 := H5.out.1.res.cell 1 _ rfl
    have r2 := H5.out.1.res.cell 2 _ rfl
    have g0 := H5.out.1.res.frozen 0
    have g1 := H5.out.1.res.frozen 1
    have g2 := H5.out.1.res.frozen 2
    have hnr : rb ≠ fb := by have := H5.out.1.news; omega
    have hd2 : (lw.toList == [109, 111, 118, 101]) = false := by simpa using hmm
    clear hown hm1 hm2 hm3 hnm CL CMM CTT CNN HRq HMv HMo HMe HMn HWd
    go_wp2_with fail
    have hE := ((H5.out.1.put 0 (.string n1)).put 1 (.slice As ns cs)).put 2 (.slice Am nm cm)
    obtain ⟨wE, hwE⟩ : ∃ w, w = ((x5.setCell ⟨rb, 0, none⟩ (.string n1)).setCell ⟨rb, 1, none⟩ (.slice As ns cs)).setCell ⟨rb, 2, none⟩ (.slice Am nm cm) := ⟨_, rfl⟩
    have hsz : wE.heap.size = x5.heap.size := by rw [hwE]; simp only [size_setCell]
    have hbe : But rb x5 wE := by rw [hwE]; exact ((((But.refl rb x5).setCell ⟨rb, 0, none⟩ _ rfl).setCell ⟨rb, 1, none⟩ _ rfl).setCell ⟨rb, 2, none⟩ _ rfl)
    rw [← hwE] at hE ⊢
    have hks : ∀ S : Nat → Prop, (∀ k, S k → fb < k ∧ k < x5.heap.size) → KeepS S x5 wE := fun S hS a ha => hbe.cell (hS _ ha).2 (by have := (hS _ ha).1; have := H5.out.1.news; omega)
    have hmo : ∀ k, (fb < k ∧ k < x5.heap.size) → Fresh W wE k := fun k hk => ⟨by have := H5.out.1.news; omega, by rw [hsz]; exact hk.2⟩
    have hk1 : ∀ k, (fb + 1 ≤ k ∧ k < B) → fb < k ∧ k < x5.heap.size := fun k hk => ⟨hk.1, Nat.lt_of_lt_of_le hk.2 H5.out.2.2.2⟩
    have hk2 : ∀ k, (B ≤ k ∧ k < x5.heap.size) → fb < k ∧ k < x5.heap.size := fun k hk => ⟨Nat.lt_of_lt_of_le HN.out.2.2.2 hk.1, hk.2⟩
    exact bodyPost_ret (results_cell_row rfl _ _ rb 67 #[.string n1, .slice As ns cs, .slice Am nm cm] (0, 0) _ rfl hE.res Tryz.underlying67 rfl (by kernel_rfl)) rfl
     ⟨_, rfl, ⟨As, cs, Am, cm, by rw [HN.out.1, HF.out.2.2.2], (H5.out.2.1.keep (hks _ hk1)).mono fun k hk => hmo k (hk1 k hk), (HF.out.1.keep (hks _ hk2)).mono fun k hk => hmo k (hk2 k hk), by show R1.1.length ≤ cs; rw [← HN.out.1]; exact HN.out.2.1, HN.out.2.2.1, by show M.length ≤ cm; rw [← HF.out.2.2.2]; exact HF.out.2.1, HF.out.2.2.1⟩, hE.pa, hE.but⟩
end Go.Proofs.YtkgddcemocfgfaaGreatDoor
end

