import Derived.Test.YtkgddcemocfgfaaGreatDoorJZSmPh

section
/- The reference's parser: field, a Pick. (gen_papick.py writes this text.) -/

namespace Go.Proofs.YtkgddcemocfgfaaGreatDoor
open Go.RowKit
set_option linter.unusedVariables false
set_option linter.unusedSimpArgs false
set_option maxRecDepth 100000

theorem pa_info_str : (Tryz.prog.info? 9).map (fun i => (i.zero, i.size, i.bytes)) = some (some (.string ByteArray.empty), 1, 16) := by kernel_rfl
theorem picks_end (T : List ByteArray) (n : Nat) (a : List (ByteArray × Int)) (p : Sm.PS) (h : p.f = true) : Sm.picks T n a p = (a, p) := by
 cases n with
 | zero => rfl
 | succ n => unfold Sm.picks; rw [if_pos h]
theorem picks_next (T : List ByteArray) (n : Nat) (a : List (ByteArray × Int)) (p : Sm.PS) (h : p.f = false) : Sm.picks T (n + 1) a p = Sm.picks T n (a ++ [(Sm.nameW T p, Sm.numV T (Sm.nameP T p))]) (Sm.numP T (Sm.nameP T p)) := by
 conv => lhs; unfold Sm.picks
 rw [if_neg (by rw [h]; decide)]

set_option maxHeartbeats 8000000 in
theorem paField_3 (pb : Nat) (s : ByteArray) (A : Option Addr) (cap : Nat) (ts : List (Nat × Nat)) (p : Sm.PS) (W : World) (h : PaAt pb s A cap ts p W) (hi : p.i ≤ 100000) (hk : Sm.wordV (tokT s ts) p = 3) :
  Calls Tryz.prog 123 #[.pointer (some ⟨pb, 0, none⟩)] W (FdA pb s A cap ts (Sm.fieldV (tokT s ts) p) (Sm.fieldP (tokT s ts) p) W) := by
 have cW := fun V (hV : PaAt pb s A cap ts p V) => paWord_any pb s A cap ts p V hV (by omega)
 simp only [hk] at cW
 obtain ⟨T, hT⟩ : ∃ T, T = tokT s ts := ⟨_, rfl⟩
 rw [← hT] at hk ⊢
 obtain ⟨q0, hq0⟩ : ∃ q, q = (⟨p.i + 1, p.f⟩ : Sm.PS) := ⟨_, rfl⟩
 have b0 : q0.i ≤ 100001 := by rw [hq0]; show p.i + 1 ≤ _; omega
 obtain ⟨q1, hq1⟩ : ∃ q, q = Sm.nameP T q0 := ⟨_, rfl⟩
 have b1 : q1.i ≤ 100002 := by rw [hq1]; have := Sm.nameP_i T q0; omega
 obtain ⟨q2, hq2⟩ : ∃ q, q = Sm.cntP T q1 := ⟨_, rfl⟩
 have b2 : q2.i ≤ 100003 := by rw [hq2]; have := Sm.cntP_i T q1; omega
 obtain ⟨cn, hcn⟩ : ∃ n, n = Sm.numV T q1 := ⟨_, rfl⟩
 obtain ⟨R, hR⟩ : ∃ R, R = Sm.picks T cn.toNat [] q2 := ⟨_, rfl⟩
 have h1 : Sm.f1 T p = q1 := by unfold Sm.f1; rw [hq1, hq0]
 have h2 : Sm.f2 T 3 q1 = q1 := rfl
 have h3 : Sm.f3 T 3 q1 = q1 := rfl
 have h4 : Sm.f4 T 3 q1 = q1 := rfl
 have h5 : Sm.f5 T 3 q1 = q1 := rfl
 have h6 : Sm.f6 T 3 q1 = R := by rw [hR, hcn, hq2]; rfl
 have uOf : Sm.usesOf 3 = false := rfl
 have uUp : Sm.usesUp 3 = false := rfl
 have uLo : Sm.usesLo 3 = false := rfl
 have uHi : Sm.usesHi 3 = false := rfl
 have u4 : ((3 : Int) = 4) = False := by simp
 obtain ⟨n0, hn0⟩ : ∃ n, n = Sm.nameW T q0 := ⟨_, rfl⟩
 have hP : Sm.fieldP T p = R.2 := by unfold Sm.fieldP; simp only [hk, h1, h2, h3, h4, h5, h6]
 have hV : Sm.fieldV T p = ⟨n0, ⟨#[]⟩, ⟨#[]⟩, 3, 0, 0, R.1.map (·.1), R.1.map (·.2)⟩ := by unfold Sm.fieldV; simp only [hk, h1, h2, h3, h4, h5, h6, uOf, uUp, uLo, uHi, u4, if_false, Bool.false_eq_true, ↓reduceIte, ← hq0, ← hn0, Sm.nil]
 rw [hP, hV]
 have c0 := fun V hV => paName_any pb s A cap ts q0 V hV (by omega)
 rw [← hT, ← hq1, ← hn0] at c0
 have c1 := fun V hV => paCount_any pb s A cap ts q1 V hV (by omega)
 rw [← hT, ← hq2, ← hcn] at c1
 have cN := fun q V (hV : PaAt pb s A cap ts q V) (hq : q.i ≤ 1000000) => paName_any pb s A cap ts q V hV hq
 have cM := fun q V (hV : PaAt pb s A cap ts q V) (hq : q.i ≤ 1000000) => paNumber_any pb s A cap ts q V hV hq
 simp only [← hT] at cN cM
 have hcnb : cn < 1000000000000 := by
  rw [hcn]
  have hv : ∀ l : List UInt8, (Sm.valW l).1 < 1000000000000 := by
   intro l
   have hd : ∀ m : List UInt8, m.all Sm.digit = true → m.length ≤ 10 → Sm.digitsV m < 1000000000000 := fun m hm hl => by
    unfold Sm.digitsV
    have a1 := Rt.val10_lt m (all_dig.1 hm)
    have a3 : 10 ^ m.length ≤ 10 ^ 10 := Nat.pow_le_pow_right (by decide) hl
    omega
   unfold Sm.valW
   split
   ·split
    ·decide
    ·split
     ·have : 0 ≤ Sm.digitsV (l.drop 1) := by unfold Sm.digitsV; omega
      show -Sm.digitsV (l.drop 1) < _
      omega
     ·decide
   ·split
    ·decide
    ·rename_i hx
     split
     ·rename_i hm; exact hd l hm (by omega)
     ·decide
  exact hv _
 have HCF := Lib.hid (show q2.f = false → cn ≤ 12 from fun x => by
  rw [hq2] at x
  have := (Sm.takeP_f T _ q1 x).2
  rw [Bool.and_eq_true] at this
  rw [hcn]
  exact (of_decide_eq_true this.2).2)
 have HQ0 := Lib.hid hq0
 have CW := Lib.hid cW
 have C0 := Lib.hid c0
 have C1 := Lib.hid c1
 have CNN := Lib.hid cN
 have CMM := Lib.hid cM
 have HR := Lib.hid hR
 have HB2 := Lib.hid b2
 have cU := fun V => smUses_any 3 V
 have hU : usesV 3 = .tuple #[.bool false, .bool false, .bool false, .bool false, .bool true] := rfl
 rw [hU] at cU
 unfold Ans at cU
 have CU := Lib.hid cU
 have HH := Lib.hid h
 have hi1 : (p.i : Int) ≤ 100000 := by omega
 clear cW cU hU hP hV h1 h2 h3 h4 h5 h6 uOf uUp uLo uHi u4 hk hT h hi hq0 b0 c0 hn0 hq1 b1 c1 hq2 b2 hR hcn cN cM
 go_enter Tryz.func123, Tryz.ntmps123
 go_wp2_with fail
 have hres : Blk (W.alloc (.cells fdZ.toArray 74)) W.heap.size fdZ 74 := Blk.new W fdZ _
 have HR := Lib.hid (And.intro hres (show Below W.heap.size W (W.alloc (.cells fdZ.toArray 74)) from (Below.refl _ _).alloc (Nat.le_refl _) _))
 clear hres
 refine (CW.out _ (HH.out.alloc _)).mono ?_
 rintro e w1 ⟨rfl, hb⟩
 have hpa := (HH.out.alloc (.cells fdZ.toArray 74)).below hb
 have c2 := hpa.blk.cell 2 _ rfl
 have f2 := hpa.blk.frozen 2
 have hlt := hpa.blk.lt
 have H1 := Lib.hid (And.intro hpa (And.intro (HR.out.1.below hb HR.out.1.lt) (And.intro (HR.out.2.trans (hb.mono HR.out.2.size)) (show W.heap.size < w1.heap.size from Nat.lt_of_lt_of_le HR.out.1.lt hb.size))))
 clear hpa hb HR CW
 go_wp2_with fail
 have hz : FdSt pb s A cap ts W W.heap.size w1.heap.size q0 (fdCs ⟨#[]⟩ ⟨#[]⟩ ⟨#[]⟩ 3 0 0 (.slice none 0 0) (.slice none 0 0)) ((w1.setCell ⟨pb, 2, none⟩ (.int .i64 ((p.i : Int) + 1))).alloc (.cells #[.string ⟨#[]⟩, .string ⟨#[]⟩, .string ⟨#[]⟩, .int .i64 3, .int .i64 0, .int .i64 0, .slice none 0 0, .slice none 0 0] 74)) := by
  rw [HQ0.out]
  refine ⟨(H1.out.1.step).alloc _, ((But.of (b := pb) H1.out.2.2.1).setCell ⟨pb, 2, none⟩ _ rfl).trans (But.of ((Below.refl _ _).alloc (Nat.le_refl _) _)), ?_, (H1.out.2.1.other _ _ (by have := HH.out.blk.lt; show W.heap.size ≠ pb; omega)).alloc _, HH.out.blk.lt, Nat.le_refl _, H1.out.2.2.2⟩
  have hnew := Blk.new (w1.setCell ⟨pb, 2, none⟩ (.int .i64 ((p.i : Int) + 1))) (fdCs ⟨#[]⟩ ⟨#[]⟩ ⟨#[]⟩ 3 0 0 (.slice none 0 0) (.slice none 0 0)) 74
  rw [size_setCell] at hnew
  exact hnew
 obtain ⟨v0, hv0⟩ : ∃ v, v = (w1.setCell ⟨pb, 2, none⟩ (.int .i64 ((p.i : Int) + 1))).alloc (.cells #[.string ⟨#[]⟩, .string ⟨#[]⟩, .string ⟨#[]⟩, .int .i64 3, .int .i64 0, .int .i64 0, .slice none 0 0, .slice none 0 0] 74) := ⟨_, rfl⟩
 rw [← hv0] at hz
 rw [← hv0]
 clear hv0 c2 f2 hlt H1
 generalize w1.heap.size = fb at *
 obtain ⟨rb, hrb⟩ : ∃ rb, rb = W.heap.size := ⟨_, rfl⟩
 rw [← hrb]
 rw [← hrb] at hz
 clear hrb
 have HS := Lib.hid hz
 clear hz
 refine (CU.out _).mono ?_
 rintro e w' ⟨rfl, hw'⟩
 obtain rfl := hw'.symm
 clear hw' CU
 have c3 := HS.out.fld.cell 3 _ rfl
 go_wp2_with fail
 clear c3
 refine (C0.out _ HS.out.pa).mono ?_
 rintro e x0 ⟨rfl, ha, hb⟩
 have hst : FdSt pb s A cap ts W rb fb q1 (fdCs ⟨#[]⟩ ⟨#[]⟩ ⟨#[]⟩ 3 0 0 (.slice none 0 0) (.slice none 0 0)) x0 := HS.out.call ha hb
 clear HS
 have HS := Lib.hid hst
 clear ha hb hst C0
 have d0 := HS.out.fld.cell 0 _ rfl
 have e0 := HS.out.fld.frozen 0
 have c3 := HS.out.fld.cell 3 _ rfl
 go_wp2_with fail
 clear c3 d0 e0
 refine (C1.out _ (HS.out.set 0 (.string n0)).pa).mono ?_
 rintro e x1 ⟨rfl, ha, hb⟩
 have hst : FdSt pb s A cap ts W rb fb q2 (fdCs n0 ⟨#[]⟩ ⟨#[]⟩ 3 0 0 (.slice none 0 0) (.slice none 0 0)) x1 := (HS.out.set 0 (.string n0)).call ha hb
 clear HS
 have HPB := Lib.hid (show pb < W.heap.size from HH.out.blk.lt)
 have HS := Lib.hid (show PkSt pb s A cap ts W rb fb n0 q2 (.slice none 0 0) (.slice none 0 0) [] [] x1 from ⟨hst, World.ownsRow_nil _ _ _ _, World.ownsRow_nil _ _ _ _, fun k hk => by cases hk⟩)
 clear ha hb hst C1
 obtain ⟨i0, hi0, hz0, hz1, hz2⟩ := info_parts info_i64
 have HI := Lib.hid (And.intro hi0 (And.intro hz0 (And.intro hz1 hz2)))
 obtain ⟨j0, hj0, hy0, hy1, hy2⟩ := info_parts pa_info_str
 have HJ := Lib.hid (And.intro hj0 (And.intro hy0 (And.intro hy1 hy2)))
 clear hi0 hz0 hz1 hz2 hj0 hy0 hy1 hy2
 go_wp2_with fail
 have hf2 : q2.f = false → cn ≤ 12 := HCF.out
 have HF2 := Lib.hid hf2
 clear hf2
 go_loopw [10] (fun i wr => ∃ (k : Nat) (q : Sm.PS) (vw vg : Value) (L : List (ByteArray × Int)), i = .int .i64 k ∧ PkSt pb s A cap ts W rb fb n0 q vw vg (L.map (·.1)) (L.map (·.2)) wr ∧ R = Sm.picks T (cn.toNat - k) L q ∧ L.length = k ∧ q.i ≤ 100003 + 2 * k ∧ k ≤ 12 ∧ (q.f = false → cn ≤ 12)) (fun i _ => 13 - (intOf i).toNat)
 case atStart => exact ⟨0, q2, _, _, [], rfl, HS.out, HR.out, rfl, by have := HB2.out; omega, by omega, HF2.out⟩
 case round =>
  clear HS
  obtain ⟨k, q, vw, vg, L, rfl, hst, hR, hL, hqi, hk12, hqf⟩ := hrel
  obtain ⟨x5, rfl⟩ : ∃ x5 : World, x5 = wr := ⟨_, rfl⟩
  have HK := Lib.hid hst
  have c3 := hst.fd.pa.blk.cell 3 _ rfl
  clear hst
  obtain ⟨qf, hqff⟩ : ∃ z, z = q.f := ⟨_, rfl⟩
  rw [← hqff] at c3 hqf
  by_cases hlt : (k : Int) < cn
  ·cases qf with
   | true =>
    have hRR : R = (L, q) := by rw [hR, picks_end _ _ _ _ hqff.symm]
    subst hRR
    obtain ⟨nw, hnw⟩ : ∃ n, n = (L.map (·.1)).length := ⟨_, rfl⟩
    obtain ⟨ng, hng⟩ : ∃ n, n = (L.map (·.2)).length := ⟨_, rfl⟩
    have how := HK.out.ow
    have hog := HK.out.og
    rw [← hnw] at how
    rw [← hng] at hog
    obtain ⟨Aw, cw, rfl, hw1, hw2, hw3⟩ := own_rdS how
    obtain ⟨Ag, cg, rfl, hg1, hg2, hg3⟩ := own_rdS hog
    obtain ⟨d0, d1, d2, d3, d4, d5, d6, d7⟩ := cells8 HK.out.fd.fld
    obtain ⟨r0, r1, r2, r3, r4, r5, r6, r7⟩ := cells8z HK.out.fd.res
    obtain ⟨g0, g1, g2, g3, g4, g5, g6, g7⟩ := frozen8 HK.out.fd.res
    have hnr : rb ≠ fb := by have := HK.out.fd.news; omega
    have HF := Lib.hid (And.intro hw1 (And.intro hw2 (And.intro hw3 (And.intro hg1 (And.intro hg2 (And.intro hg3 (And.intro hnw hng)))))))
    clear how hog hw1 hw2 hw3 hg1 hg2 hg3 hnw hng hR hL hqi hqf hqff CNN CMM HR
    go_wp2_with fail
    obtain ⟨e1, e2, e3, e4, e5⟩ := put8_end HK.out.fd (.string n0) (.string ⟨#[]⟩) (.string ⟨#[]⟩) (.int .i64 3) (.int .i64 0) (.int .i64 0) (.slice Aw nw cw) (.slice Ag ng cg)
    have hks : KeepS (fun k => fb < k ∧ k < x5.heap.size) x5 (put8 x5 rb (.string n0) (.string ⟨#[]⟩) (.string ⟨#[]⟩) (.int .i64 3) (.int .i64 0) (.int .i64 0) (.slice Aw nw cw) (.slice Ag ng cg)) := fun a ha => by
     unfold World.cell?
     rw [e4 a.block (by have := HK.out.fd.news; omega) ha.2]
    have hmo : ∀ k, (fb < k ∧ k < x5.heap.size) → Fresh W (put8 x5 rb (.string n0) (.string ⟨#[]⟩) (.string ⟨#[]⟩) (.int .i64 3) (.int .i64 0) (.int .i64 0) (.slice Aw nw cw) (.slice Ag ng cg)) k := fun k hk => ⟨by have := HK.out.fd.news; omega, by rw [e5]; exact hk.2⟩
    exact bodyPost_ret (results_cell_row rfl _ _ rb 74 #[.string n0, .string ⟨#[]⟩, .string ⟨#[]⟩, .int .i64 3, .int .i64 0, .int .i64 0, .slice Aw nw cw, .slice Ag ng cg] (0, 0) _ rfl e1 Tryz.underlying74 rfl (by kernel_rfl)) rfl
     ⟨_, rfl, ⟨Aw, cw, Ag, cg, by rw [HF.out.2.2.2.2.2.2.1, HF.out.2.2.2.2.2.2.2], (HF.out.1.keep hks).mono hmo, (HF.out.2.2.2.1.keep hks).mono hmo, by show (L.map (·.1)).length ≤ cw; rw [← HF.out.2.2.2.2.2.2.1]; exact HF.out.2.1, HF.out.2.2.1, by show (L.map (·.2)).length ≤ cg; rw [← HF.out.2.2.2.2.2.2.2]; exact HF.out.2.2.2.2.1, HF.out.2.2.2.2.2.1⟩, e2, e3⟩
   | false =>
    have hcn := hqf rfl
    have hpn := picks_next T (cn.toNat - (k + 1)) L q hqff.symm
    rw [show cn.toNat - (k + 1) + 1 = cn.toNat - k by omega] at hpn
    rw [hpn] at hR
    have cN := fun V hV => CNN.out q V hV (by omega)
    obtain ⟨nn, hnn⟩ : ∃ n, n = Sm.nameW T q := ⟨_, rfl⟩
    obtain ⟨qb, hqb⟩ : ∃ z, z = Sm.nameP T q := ⟨_, rfl⟩
    have bqb : qb.i ≤ q.i + 1 := by rw [hqb]; exact Sm.nameP_i T q
    have cM := fun V hV => CMM.out qb V hV (by omega)
    obtain ⟨nm, hnm⟩ : ∃ n, n = Sm.numV T qb := ⟨_, rfl⟩
    obtain ⟨qc, hqc⟩ : ∃ z, z = Sm.numP T qb := ⟨_, rfl⟩
    have bqc : qc.i ≤ qb.i + 1 := by rw [hqc]; exact Sm.numP_i T qb
    simp only [← hnn, ← hqb] at cN
    simp only [← hnm, ← hqc] at cM
    rw [← hnn, ← hqb, ← hnm, ← hqc] at hR
    have CN := Lib.hid cN
    have CM := Lib.hid cM
    have HX := Lib.hid (And.intro hR (And.intro hL (And.intro (show qc.i ≤ 100003 + 2 * (k + 1) by omega) hcn)))
    clear cN cM hR hL hnn hqb hnm hqc hqi bqb bqc hqf hpn hqff
    go_wp2_with fail
    clear c3
    try go_frame
    refine wp_region_statelist [70, 71, 72, 73, 74] (fun d _ w' => But pb x5 w' ∧ PaAt pb s A cap ts (if d 3 = true then qb else q) w') (fun w' w'' => But pb w' w'' ∧ w'.heap.size ≤ w''.heap.size) [fun u _ => u = .pointer (some ⟨fb, 6, none⟩), fun u _ => u = vw, fun u _ => u = .pointer (some ⟨pb, 0, none⟩), fun u _ => u = .string nn, fun u w' => ∃ g, u = .slice (some ⟨g, 0, none⟩) 1 1 ∧ w'.cell? ⟨g, 0, none⟩ = some (.string nn) ∧ x5.heap.size ≤ g ∧ g < w'.heap.size]
     (by
      intro f hf u w' w'' h hr
      simp only [List.mem_cons, List.not_mem_nil, or_false] at hf
      rcases hf with rfl | rfl | rfl | rfl | rfl
      ·exact h
      ·exact h
      ·exact h
      ·exact h
      ·obtain ⟨g, h1, h2, h3, h4⟩ := h
       exact ⟨g, h1, (hr.1.cell (p := ⟨g, 0, none⟩) h4 (by show g ≠ pb; have := HPB.out; have := HK.out.fd.but.size; omega)).trans h2, h3, Nat.lt_of_lt_of_le h4 hr.2⟩)
     (fun _ => ⟨(But.refl pb x5).drewn, HK.out.fd.pa.drew⟩) (by kernel_rfl) (by kernel_rfl) ?_ ?_
    ·intro y hy d vals b w' hJ hu hd hall hx o ho
     match y, hy with
     | 0, _ =>
      obtain rfl := Option.some.inj ho
      have e : b.tmps.getD 3 undef = .pointer (some ⟨fb, 0, none⟩) := hx 3 rfl
      have hr := run_field_row w' fb 6 (by decide)
      rw [← e] at hr
      exact runs_value rfl hr ⟨rfl, ⟨But.refl _ _, Nat.le_refl _⟩, hJ⟩
     | 1, _ =>
      obtain rfl := Option.some.inj ho
      have e : b.tmps.getD 70 undef = .pointer (some ⟨fb, 6, none⟩) := (hd 0 (by kernel_rfl) (by decide)).2
      have hr := run_load_strs w' ⟨fb, 6, none⟩ vw ((HK.out.fd.fld.but hJ.1 (by have := HK.out.fd.news; omega)).cell 6 _ rfl)
      rw [← e] at hr
      exact runs_value rfl hr ⟨rfl, ⟨But.refl _ _, Nat.le_refl _⟩, hJ⟩
     | 2, _ =>
      obtain rfl := Option.some.inj ho
      exact ⟨hx 0 rfl, ⟨But.refl _ _, Nat.le_refl _⟩, hJ⟩
     | 3, _ =>
      obtain rfl := Option.some.inj ho
      have hu : d 3 = false := hu
      have e : b.tmps.getD 72 undef = .pointer (some ⟨pb, 0, none⟩) := (hd 2 (by kernel_rfl) (by decide)).2
      have hpa := hJ.2
      rw [hu] at hpa
      refine runs_call rfl (fun _ _ => rfl) ?_
      show Calls _ _ #[b.tmps.getD 72 undef] w' _
      rw [e]
      exact (CN.out w' hpa).mono fun e w'' h => ⟨_, h.1, rfl, ⟨h.2.2, h.2.2.size⟩, hJ.1.trans h.2.2, h.2.1⟩
     | 4, _ =>
      obtain rfl := Option.some.inj ho
      have e : b.tmps.getD 73 undef = .string nn := (hd 3 (by kernel_rfl) (by decide)).2
      have hbs := run_build_str w' nn
      have hbel : Below w'.heap.size w' (w'.alloc (.cells #[.string nn] 9)) := (Below.refl _ _).alloc (Nat.le_refl _) _
      refine runs_value (X := Instr.buildSlice 45 1 #[(0, b.tmps.getD 73 undef)]) (by unfold execOp; simp [Act.eval]) (by rw [e]; exact hbs) ⟨⟨w'.heap.size, rfl, (Blk.new w' [.string nn] 9).cell 0 _ rfl, hJ.1.size, by rw [World.size_alloc]; omega⟩, ⟨But.of hbel, hbel.size⟩, hJ.1.trans (But.of hbel), hJ.2.below hbel⟩
    ·intro d vals w' hJ hall hf
     have v1 : vals 1 = vw := hf 1 (by decide)
     obtain ⟨g, v4, hcg, hg1, hg2⟩ := hf 4 (by decide)
     have hpa := hJ.2
     rw [hall 3 (by decide)] at hpa
     have hpa : PaAt pb s A cap ts qb w' := hpa
     simp only [puts, List.length_cons, List.length_nil, Nat.zero_add, Nat.reduceAdd, List.drop_succ_cons, List.drop_zero, v1, v4]
     have hst := HK.out.fd.call hpa hJ.1
     have how := own_but HK.out.ow hJ.1 (by have := HK.out.fd.news; omega)
     have hog := own_but HK.out.og hJ.1 (by have := HK.out.fd.news; omega)
     have hg3 : fb + 1 ≤ w'.heap.size := hst.fld.lt
     have H8 := Lib.hid (And.intro hst (And.intro how (And.intro hog (And.intro hg3 (And.intro hcg (And.intro hg1 hg2))))))
     clear v1 v4 hst how hog hcg hpa hJ hall hf
     try go_frame

     refine wpList_append_own_at _ rfl (.tmp 71) (.tmp 74) 45 rfl (fb + 1) 9 j0 (.string ByteArray.empty) 1 16 Tryz.underlying45 HJ.out.1 HJ.out.2.1 HJ.out.2.2.1 HJ.out.2.2.2 rfl (by decide) vw (L.map (·.1)).length ((L.map (·.1)).map sv) rfl H8.out.2.1 ⟨g, 0, none⟩ 1 1 [.string nn] rfl rfl (by
      intro j u hj
      match j, hj with
      | 0, hj => obtain rfl := Option.some.inj hj; exact H8.out.2.2.2.2.1
      | j + 1, hj => simp at hj) (by intro u hu; simp at hu; subst hu; rfl) (by rw [List.length_map, HX.out.2.1]; unfold maxLen; omega) (by rw [List.length_map, HX.out.2.1]; omega) H8.out.2.2.2.1 ?_
     intro v' w4 hown' hgrow _ hat
     have HA := Lib.hid (And.intro hown' (And.intro hgrow hat))
     clear hown' hgrow hat

     have hfd4 := H8.out.1.grown HA.out.2.1 (fun j hj => by have := (H8.out.2.1.lt j hj).1; omega)
     obtain ⟨nl, hnl⟩ : ∃ n, n = (L.map (·.1)).length + 1 := ⟨_, rfl⟩
     have hown := HA.out.1
     rw [← hnl] at hown
     obtain ⟨Av, cv, rfl, -, -, -⟩ := own_rdS hown
     have HNL := Lib.hid hnl
     clear hown hnl
     have c6 := hfd4.fld.cell 6 _ rfl
     have f6 := hfd4.fld.frozen 6
     have HD4 := Lib.hid hfd4
     clear hfd4
     go_wp2_with fail
     clear c6 f6
     obtain ⟨v', hv'⟩ : ∃ v, v = Value.slice Av nl cv := ⟨_, rfl⟩
     try rw [← hv']
     obtain ⟨x6, hx6⟩ : ∃ x, x = w4.setCell ⟨fb, 6, none⟩ v' := ⟨_, rfl⟩
     have how : w4.ownsRow (fb + 1) 9 1 v' (L.map (·.1) ++ [nn]).length ((L.map (·.1) ++ [nn]).map sv) := by
      rw [hv', List.map_append, List.length_append]; exact HA.out.1
     have hog : w4.ownsRow (fb + 1) 3 1 vg (L.map (·.2)).length ((L.map (·.2)).map iv) := own_grown H8.out.2.2.1 HA.out.2.1 (fun j hj hn => HK.out.ap j hn hj)
     have hap : ∀ j, v'.ownBlock = some j → vg.ownBlock ≠ some j := fun j hj hn => by
      rw [hv'] at hj
      rcases HA.out.2.2 with hh | hh
      ·rw [hh] at hj; exact HK.out.ap j hj hn
      ·rw [hh] at hj
       have := (H8.out.2.2.1.lt j hn).2
       injection hj with hj
       omega
     have hst6 : PkSt pb s A cap ts W rb fb n0 qb v' vg (L.map (·.1) ++ [nn]) (L.map (·.2)) x6 := by
      rw [hx6]
      exact ⟨HD4.out.set 6 v', own_setCell how _ _ (Nat.lt_succ_self fb), own_setCell hog _ _ (Nat.lt_succ_self fb), hap⟩
     try rw [← hx6]
     have HL := Lib.hid hst6
     clear hst6 how hog hap hx6 HD4 HA H8 hv' hg1 hg2 hg3 HK CN
     try go_frame
     refine wp_region_statelist [77, 78, 79, 80, 81] (fun d _ w' => But pb x6 w' ∧ PaAt pb s A cap ts (if d 3 = true then qc else qb) w') (fun w' w'' => But pb w' w'' ∧ w'.heap.size ≤ w''.heap.size) [fun u _ => u = .pointer (some ⟨fb, 7, none⟩), fun u _ => u = vg, fun u _ => u = .pointer (some ⟨pb, 0, none⟩), fun u _ => u = .int .i64 nm, fun u w' => ∃ g, u = .slice (some ⟨g, 0, none⟩) 1 1 ∧ w'.cell? ⟨g, 0, none⟩ = some (.int .i64 nm) ∧ x6.heap.size ≤ g ∧ g < w'.heap.size]
      (by
       intro f hf u w' w'' h hr
       simp only [List.mem_cons, List.not_mem_nil, or_false] at hf
       rcases hf with rfl | rfl | rfl | rfl | rfl
       ·exact h
       ·exact h
       ·exact h
       ·exact h
       ·obtain ⟨g, h1, h2, h3, h4⟩ := h
        exact ⟨g, h1, (hr.1.cell (p := ⟨g, 0, none⟩) h4 (by show g ≠ pb; have := HPB.out; have := HL.out.fd.but.size; omega)).trans h2, h3, Nat.lt_of_lt_of_le h4 hr.2⟩)
      (fun _ => ⟨(But.refl pb x6).drewn, HL.out.fd.pa.drew⟩) (by kernel_rfl) (by kernel_rfl) ?_ ?_
     ·intro y hy d vals b w' hJ hu hd hall hx o ho
      match y, hy with
      | 0, _ =>
       obtain rfl := Option.some.inj ho
       have e : b.tmps.getD 3 undef = .pointer (some ⟨fb, 0, none⟩) := hx 3 rfl
       have hr := run_field_row w' fb 7 (by decide)
       rw [← e] at hr
       exact runs_value rfl hr ⟨rfl, ⟨But.refl _ _, Nat.le_refl _⟩, hJ⟩
      | 1, _ =>
       obtain rfl := Option.some.inj ho
       have e : b.tmps.getD 77 undef = .pointer (some ⟨fb, 7, none⟩) := (hd 0 (by kernel_rfl) (by decide)).2
       have hr := run_load_ints w' ⟨fb, 7, none⟩ vg ((HL.out.fd.fld.but hJ.1 (by have := HL.out.fd.news; omega)).cell 7 _ rfl)
       rw [← e] at hr
       exact runs_value rfl hr ⟨rfl, ⟨But.refl _ _, Nat.le_refl _⟩, hJ⟩
      | 2, _ =>
       obtain rfl := Option.some.inj ho
       exact ⟨hx 0 rfl, ⟨But.refl _ _, Nat.le_refl _⟩, hJ⟩
      | 3, _ =>
       obtain rfl := Option.some.inj ho
       have hu : d 3 = false := hu
       have e : b.tmps.getD 79 undef = .pointer (some ⟨pb, 0, none⟩) := (hd 2 (by kernel_rfl) (by decide)).2
       have hpa := hJ.2
       rw [hu] at hpa
       refine runs_call rfl (fun _ _ => rfl) ?_
       show Calls _ _ #[b.tmps.getD 79 undef] w' _
       rw [e]
       exact (CM.out w' hpa).mono fun e w'' h => ⟨_, h.1, rfl, ⟨h.2.2, h.2.2.size⟩, hJ.1.trans h.2.2, h.2.1⟩
      | 4, _ =>
       obtain rfl := Option.some.inj ho
       have e : b.tmps.getD 80 undef = .int .i64 nm := (hd 3 (by kernel_rfl) (by decide)).2
       have hbs := run_build_int w' nm
       have hbel : Below w'.heap.size w' (w'.alloc (.cells #[.int .i64 nm] 3)) := (Below.refl _ _).alloc (Nat.le_refl _) _
       refine runs_value (X := Instr.buildSlice 22 1 #[(0, b.tmps.getD 80 undef)]) (by unfold execOp; simp [Act.eval]) (by rw [e]; exact hbs) ⟨⟨w'.heap.size, rfl, (Blk.new w' [.int .i64 nm] 3).cell 0 _ rfl, hJ.1.size, by rw [World.size_alloc]; omega⟩, ⟨But.of hbel, hbel.size⟩, hJ.1.trans (But.of hbel), hJ.2.below hbel⟩
     ·intro d vals w' hJ hall hf
      have v1 : vals 1 = vg := hf 1 (by decide)
      obtain ⟨g, v4, hcg, hg1, hg2⟩ := hf 4 (by decide)
      have hpa := hJ.2
      rw [hall 3 (by decide)] at hpa
      have hpa : PaAt pb s A cap ts qc w' := hpa
      simp only [puts, List.length_cons, List.length_nil, Nat.zero_add, Nat.reduceAdd, List.drop_succ_cons, List.drop_zero, v1, v4]
      have hst := HL.out.fd.call hpa hJ.1
      have how := own_but HL.out.ow hJ.1 (by have := HL.out.fd.news; omega)
      have hog := own_but HL.out.og hJ.1 (by have := HL.out.fd.news; omega)
      have hg3 : fb + 1 ≤ w'.heap.size := hst.fld.lt
      have H8 := Lib.hid (And.intro hst (And.intro how (And.intro hog (And.intro hg3 (And.intro hcg (And.intro hg1 hg2))))))
      clear v1 v4 hst how hog hcg hpa hJ hall hf
      try go_frame
      refine wpList_append_own_at _ rfl (.tmp 78) (.tmp 81) 22 rfl (fb + 1) 3 i0 (.int .i64 0) 1 8 Tryz.underlying22 HI.out.1 HI.out.2.1 HI.out.2.2.1 HI.out.2.2.2 rfl (by decide) vg (L.map (·.2)).length ((L.map (·.2)).map iv) rfl H8.out.2.2.1 ⟨g, 0, none⟩ 1 1 [.int .i64 nm] rfl rfl (by
       intro j u hj
       match j, hj with
       | 0, hj => obtain rfl := Option.some.inj hj; exact H8.out.2.2.2.2.1
       | j + 1, hj => simp at hj) (by intro u hu; simp at hu; subst hu; rfl) (by rw [List.length_map, HX.out.2.1]; unfold maxLen; omega) (by rw [List.length_map, HX.out.2.1]; omega) H8.out.2.2.2.1 ?_
      intro v2 w4 hown' hgrow _ hat
      have HA := Lib.hid (And.intro hown' (And.intro hgrow hat))
      clear hown' hgrow hat
      have hfd4 := H8.out.1.grown HA.out.2.1 (fun j hj => by have := (H8.out.2.2.1.lt j hj).1; omega)
      obtain ⟨nl2, hnl2⟩ : ∃ n, n = (L.map (·.2)).length + 1 := ⟨_, rfl⟩
      have hown := HA.out.1
      rw [← hnl2] at hown
      obtain ⟨Av, cv, rfl, -, -, -⟩ := own_rdS hown
      have HNL2 := Lib.hid hnl2
      clear hown hnl2
      have c7 := hfd4.fld.cell 7 _ rfl
      have f7 := hfd4.fld.frozen 7
      have HD4 := Lib.hid hfd4
      clear hfd4
      go_wp2_with fail
      refine ⟨⟨k + 1, qc, v', .slice Av nl2 cv, L ++ [(nn, nm)], by go_num, ?_, HX.out.1, by rw [List.length_append, HX.out.2.1]; rfl, HX.out.2.2.1, by omega, fun _ => HX.out.2.2.2⟩, by simp [intOf]; omega⟩
      rw [List.map_append, List.map_append]
      refine ⟨HD4.out.set 7 _, own_setCell (own_grown H8.out.2.1 HA.out.2.1 (fun j hj hn => HL.out.ap j hj hn)) _ _ (Nat.lt_succ_self fb), own_setCell ?_ _ _ (Nat.lt_succ_self fb), ?_⟩
      ·rw [List.map_append, List.length_append]; exact HA.out.1
      ·intro j hj hn
       rcases HA.out.2.2 with hh | hh
       ·rw [hh] at hn; exact HL.out.ap j hj hn
       ·rw [hh] at hn
        have := (H8.out.2.1.lt j hj).2
        injection hn with hn
        omega
  ·have hRR : R = (L, q) := by rw [hR, show cn.toNat - k = 0 by omega]; rfl
   subst hRR
   obtain ⟨nw, hnw⟩ : ∃ n, n = (L.map (·.1)).length := ⟨_, rfl⟩
   obtain ⟨ng, hng⟩ : ∃ n, n = (L.map (·.2)).length := ⟨_, rfl⟩
   have how := HK.out.ow
   have hog := HK.out.og
   rw [← hnw] at how
   rw [← hng] at hog
   obtain ⟨Aw, cw, rfl, hw1, hw2, hw3⟩ := own_rdS how
   obtain ⟨Ag, cg, rfl, hg1, hg2, hg3⟩ := own_rdS hog
   obtain ⟨d0, d1, d2, d3, d4, d5, d6, d7⟩ := cells8 HK.out.fd.fld
   obtain ⟨r0, r1, r2, r3, r4, r5, r6, r7⟩ := cells8z HK.out.fd.res
   obtain ⟨g0, g1, g2, g3, g4, g5, g6, g7⟩ := frozen8 HK.out.fd.res
   have hnr : rb ≠ fb := by have := HK.out.fd.news; omega
   have HF := Lib.hid (And.intro hw1 (And.intro hw2 (And.intro hw3 (And.intro hg1 (And.intro hg2 (And.intro hg3 (And.intro hnw hng)))))))
   clear how hog hw1 hw2 hw3 hg1 hg2 hg3 hnw hng hR hL hqi hqf hqff CNN CMM HR
   go_wp2_with fail
   obtain ⟨e1, e2, e3, e4, e5⟩ := put8_end HK.out.fd (.string n0) (.string ⟨#[]⟩) (.string ⟨#[]⟩) (.int .i64 3) (.int .i64 0) (.int .i64 0) (.slice Aw nw cw) (.slice Ag ng cg)
   have hks : KeepS (fun k => fb < k ∧ k < x5.heap.size) x5 (put8 x5 rb (.string n0) (.string ⟨#[]⟩) (.string ⟨#[]⟩) (.int .i64 3) (.int .i64 0) (.int .i64 0) (.slice Aw nw cw) (.slice Ag ng cg)) := fun a ha => by
    unfold World.cell?
    rw [e4 a.block (by have := HK.out.fd.news; omega) ha.2]
   have hmo : ∀ k, (fb < k ∧ k < x5.heap.size) → Fresh W (put8 x5 rb (.string n0) (.string ⟨#[]⟩) (.string ⟨#[]⟩) (.int .i64 3) (.int .i64 0) (.int .i64 0) (.slice Aw nw cw) (.slice Ag ng cg)) k := fun k hk => ⟨by have := HK.out.fd.news; omega, by rw [e5]; exact hk.2⟩
   exact bodyPost_ret (results_cell_row rfl _ _ rb 74 #[.string n0, .string ⟨#[]⟩, .string ⟨#[]⟩, .int .i64 3, .int .i64 0, .int .i64 0, .slice Aw nw cw, .slice Ag ng cg] (0, 0) _ rfl e1 Tryz.underlying74 rfl (by kernel_rfl)) rfl
    ⟨_, rfl, ⟨Aw, cw, Ag, cg, by rw [HF.out.2.2.2.2.2.2.1, HF.out.2.2.2.2.2.2.2], (HF.out.1.keep hks).mono hmo, (HF.out.2.2.2.1.keep hks).mono hmo, by show (L.map (·.1)).length ≤ cw; rw [← HF.out.2.2.2.2.2.2.1]; exact HF.out.2.1, HF.out.2.2.1, by show (L.map (·.2)).length ≤ cg; rw [← HF.out.2.2.2.2.2.2.2]; exact HF.out.2.2.2.2.1, HF.out.2.2.2.2.2.1⟩, e2, e3⟩
end Go.Proofs.YtkgddcemocfgfaaGreatDoor
end

