import Derived.Test.YtkgddcemocfgfaaGreatDoorJZSmPf

section
/- The reference's parser: field, of every kind but a Pick. (gen_pafield.py writes this text.) -/

namespace Go.Proofs.YtkgddcemocfgfaaGreatDoor
open Go.RowKit
set_option linter.unusedVariables false
set_option linter.unusedSimpArgs false
set_option maxRecDepth 100000

set_option maxHeartbeats 4000000 in
theorem paField_0 (pb : Nat) (s : ByteArray) (A : Option Addr) (cap : Nat) (ts : List (Nat × Nat)) (p : Sm.PS) (W : World) (h : PaAt pb s A cap ts p W) (hi : p.i ≤ 100000) (hk : Sm.wordV (tokT s ts) p = 0) :
  Calls Tryz.prog 123 #[.pointer (some ⟨pb, 0, none⟩)] W (FdA pb s A cap ts (Sm.fieldV (tokT s ts) p) (Sm.fieldP (tokT s ts) p) W) := by
 have cW := fun V (hV : PaAt pb s A cap ts p V) => paWord_any pb s A cap ts p V hV (by omega)
 simp only [hk] at cW
 obtain ⟨T, hT⟩ : ∃ T, T = tokT s ts := ⟨_, rfl⟩
 rw [← hT] at hk ⊢
 obtain ⟨q0, hq0⟩ : ∃ q, q = (⟨p.i + 1, p.f⟩ : Sm.PS) := ⟨_, rfl⟩
 have b0 : q0.i ≤ 100001 := by rw [hq0]; show p.i + 1 ≤ _; omega
 obtain ⟨q1, hq1⟩ : ∃ q, q = Sm.nameP T q0 := ⟨_, rfl⟩
 have b1 : q1.i ≤ 100002 := by rw [hq1]; have := Sm.nameP_i T q0; omega
 obtain ⟨q2, hq2⟩ : ∃ q, q = Sm.numP T q1 := ⟨_, rfl⟩
 have b2 : q2.i ≤ 100003 := by rw [hq2]; have := Sm.numP_i T q1; omega
 have uOf : Sm.usesOf 0 = false := rfl
 have uUp : Sm.usesUp 0 = false := rfl
 have uLo : Sm.usesLo 0 = true := rfl
 have uHi : Sm.usesHi 0 = false := rfl
 have uWords : Sm.usesWords 0 = false := rfl
 have u4 : (((0) : Int) = 4) = False := by simp
 have h1 : Sm.f1 T p = q1 := by unfold Sm.f1; rw [hq1, hq0]
 have h2 : Sm.f2 T 0 q1 = q1 := by unfold Sm.f2; simp only [uOf, uUp, uLo, uHi, uWords, u4, if_true, if_false, Bool.false_eq_true, ↓reduceIte]
 have h3 : Sm.f3 T 0 q1 = q1 := by unfold Sm.f3; simp only [uOf, uUp, uLo, uHi, uWords, u4, if_true, if_false, Bool.false_eq_true, ↓reduceIte]
 have h4 : Sm.f4 T 0 q1 = q2 := by unfold Sm.f4; simp only [uOf, uUp, uLo, uHi, uWords, u4, if_true, if_false, Bool.false_eq_true, ↓reduceIte]; exact hq2.symm
 have h5 : Sm.f5 T 0 q2 = q2 := by unfold Sm.f5; simp only [uOf, uUp, uLo, uHi, uWords, u4, if_true, if_false, Bool.false_eq_true, ↓reduceIte]
 have h6 : Sm.f6 T 0 q2 = ([], q2) := by unfold Sm.f6; simp only [uWords, Bool.false_eq_true, ↓reduceIte]
 have hP : Sm.fieldP T p = q2 := by unfold Sm.fieldP; simp only [hk, h1, h2, h3, h4, h5, h6]
 have hV : Sm.fieldV T p = ⟨(Sm.nameW T q0), ⟨#[]⟩, ⟨#[]⟩, 0, (Sm.numV T q1), 0, [], []⟩ := by unfold Sm.fieldV; simp only [hk, h1, h2, h3, h4, h5, h6, uOf, uUp, uLo, uHi, uWords, u4, if_true, if_false, Bool.false_eq_true, ↓reduceIte, List.map_nil, ← hq0, Sm.nil]
 rw [hP, hV]
 have c0 := fun V hV => paName_any pb s A cap ts q0 V hV (by omega)
 rw [← hT, ← hq1] at c0
 obtain ⟨n0, hn0⟩ : ∃ n, n = Sm.nameW T q0 := ⟨_, rfl⟩
 rw [← hn0] at c0 ⊢
 have c1 := fun V hV => paNumber_any pb s A cap ts q1 V hV (by omega)
 rw [← hT, ← hq2] at c1
 obtain ⟨n1, hn1⟩ : ∃ n, n = Sm.numV T q1 := ⟨_, rfl⟩
 rw [← hn1] at c1 ⊢
 have HQ0 := Lib.hid hq0
 have CW := Lib.hid cW
 have C0 := Lib.hid c0
 have C1 := Lib.hid c1
 have cU := fun V => smUses_any 0 V
 have hU : usesV 0 = .tuple #[.bool false, .bool false, .bool true, .bool false, .bool false] := rfl
 rw [hU] at cU
 unfold Ans at cU
 have CU := Lib.hid cU
 have HH := Lib.hid h
 have hi1 : (p.i : Int) ≤ 100000 := by omega
 clear cW cU hU hP hV uOf uUp uLo uHi uWords u4 h1 h2 h3 h4 h5 h6 hk hT h hi hq0 b0 c0 hn0 hq1 b1 c1 hn1 hq2 b2
 go_enter Tryz.func123, Tryz.ntmps123
 go_wp2_with fail
 have hres : Blk (W.alloc (.cells fdZ.toArray 74)) W.heap.size fdZ 74 := Blk.new W fdZ _
 have HR := Lib.hid (And.intro hres (show Below W.heap.size W (W.alloc (.cells fdZ.toArray 74)) from (Below.refl _ _).alloc (Nat.le_refl _) _))
 clear hres
 refine (CW.out _ (HH.out.alloc _)).mono ?_
 rintro e w1 ⟨rfl, hb⟩
 have hpa := (HH.out.alloc (.cells fdZ.toArray 74)).below hb
 have c2 := hpa.blk.cell 2 _ rfl
 have f2 := hpa.blk.frozen 2
 have hlt := hpa.blk.lt
 have H1 := Lib.hid (And.intro hpa (And.intro (HR.out.1.below hb HR.out.1.lt) (And.intro (HR.out.2.trans (hb.mono HR.out.2.size)) (show W.heap.size < w1.heap.size from Nat.lt_of_lt_of_le HR.out.1.lt hb.size))))
 clear hpa hb HR CW
 go_wp2_with fail
 have hz : FdSt pb s A cap ts W W.heap.size w1.heap.size q0 (fdCs ⟨#[]⟩ ⟨#[]⟩ ⟨#[]⟩ 0 0 0 (.slice none 0 0) (.slice none 0 0)) ((w1.setCell ⟨pb, 2, none⟩ (.int .i64 ((p.i : Int) + 1))).alloc (.cells #[.string ⟨#[]⟩, .string ⟨#[]⟩, .string ⟨#[]⟩, .int .i64 0, .int .i64 0, .int .i64 0, .slice none 0 0, .slice none 0 0] 74)) := by
  rw [HQ0.out]
  refine ⟨(H1.out.1.step).alloc _, ((But.of (b := pb) H1.out.2.2.1).setCell ⟨pb, 2, none⟩ _ rfl).trans (But.of ((Below.refl _ _).alloc (Nat.le_refl _) _)), ?_, (H1.out.2.1.other _ _ (by have := HH.out.blk.lt; show W.heap.size ≠ pb; omega)).alloc _, HH.out.blk.lt, Nat.le_refl _, H1.out.2.2.2⟩
  have hnew := Blk.new (w1.setCell ⟨pb, 2, none⟩ (.int .i64 ((p.i : Int) + 1))) (fdCs ⟨#[]⟩ ⟨#[]⟩ ⟨#[]⟩ 0 0 0 (.slice none 0 0) (.slice none 0 0)) 74
  rw [size_setCell] at hnew
  exact hnew
 obtain ⟨v0, hv0⟩ : ∃ v, v = (w1.setCell ⟨pb, 2, none⟩ (.int .i64 ((p.i : Int) + 1))).alloc (.cells #[.string ⟨#[]⟩, .string ⟨#[]⟩, .string ⟨#[]⟩, .int .i64 0, .int .i64 0, .int .i64 0, .slice none 0 0, .slice none 0 0] 74) := ⟨_, rfl⟩
 rw [← hv0] at hz
 rw [← hv0]
 clear hv0 c2 f2 hlt H1
 generalize w1.heap.size = fb at *
 obtain ⟨rb, hrb⟩ : ∃ rb, rb = W.heap.size := ⟨_, rfl⟩
 rw [← hrb]
 rw [← hrb] at hz
 clear hrb
 have HS := Lib.hid hz
 clear hz
 refine (CU.out _).mono ?_
 rintro e w' ⟨rfl, hw'⟩
 obtain rfl := hw'.symm
 clear hw' CU
 have c3 := HS.out.fld.cell 3 _ rfl
 go_wp2_with fail
 clear c3
 refine (C0.out _ HS.out.pa).mono ?_
 rintro e x0 ⟨rfl, ha, hb⟩
 have hst : FdSt pb s A cap ts W rb fb q1 (fdCs ⟨#[]⟩ ⟨#[]⟩ ⟨#[]⟩ 0 0 0 (.slice none 0 0) (.slice none 0 0)) x0 := HS.out.call ha hb
 clear HS
 have HS := Lib.hid hst
 clear ha hb hst C0
 have d0 := HS.out.fld.cell 0 _ rfl
 have e0 := HS.out.fld.frozen 0
 have c3 := HS.out.fld.cell 3 _ rfl
 go_wp2_with fail
 clear c3 d0 e0
 refine (C1.out _ (HS.out.set 0 (.string n0)).pa).mono ?_
 rintro e x1 ⟨rfl, ha, hb⟩
 have hst : FdSt pb s A cap ts W rb fb q2 (fdCs n0 ⟨#[]⟩ ⟨#[]⟩ 0 0 0 (.slice none 0 0) (.slice none 0 0)) x1 := (HS.out.set 0 (.string n0)).call ha hb
 clear HS
 have HS := Lib.hid hst
 clear ha hb hst C1
 have d4 := HS.out.fld.cell 4 _ rfl
 have e4 := HS.out.fld.frozen 4
 have hfin : FdSt pb s A cap ts W rb fb q2 (fdCs n0 ⟨#[]⟩ ⟨#[]⟩ 0 n1 0 (.slice none 0 0) (.slice none 0 0)) (x1.setCell ⟨fb, 4, none⟩ (.int .i64 n1)) := HS.out.set 4 (.int .i64 n1)
 obtain ⟨d0, d1, d2, d3, d4, d5, d6, d7⟩ := cells8 HS.out.fld
 obtain ⟨r0, r1, r2, r3, r4, r5, r6, r7⟩ := cells8z HS.out.res
 obtain ⟨g0, g1, g2, g3, g4, g5, g6, g7⟩ := frozen8 HS.out.res
 have hnr : rb ≠ fb := by have := HS.out.news; omega
 have HF := Lib.hid hfin
 clear hfin
 go_wp2_with fail
 obtain ⟨e1, e2, e3, -, -⟩ := put8_end HF.out (.string n0) (.string ⟨#[]⟩) (.string ⟨#[]⟩) (.int .i64 0) (.int .i64 n1) (.int .i64 0) (.slice none 0 0) (.slice none 0 0)
 exact bodyPost_ret (results_cell_row rfl _ _ rb 74 #[.string n0, .string ⟨#[]⟩, .string ⟨#[]⟩, .int .i64 0, .int .i64 n1, .int .i64 0, .slice none 0 0, .slice none 0 0] (0, 0) _ rfl e1 Tryz.underlying74 rfl (by kernel_rfl)) rfl
  ⟨_, rfl, ⟨none, 0, none, 0, rfl, RdS.nil, RdS.nil, Nat.le_refl _, by decide, Nat.le_refl _, by decide⟩, e2, e3⟩


set_option maxHeartbeats 4000000 in
theorem paField_1 (pb : Nat) (s : ByteArray) (A : Option Addr) (cap : Nat) (ts : List (Nat × Nat)) (p : Sm.PS) (W : World) (h : PaAt pb s A cap ts p W) (hi : p.i ≤ 100000) (hk : Sm.wordV (tokT s ts) p = 1) :
  Calls Tryz.prog 123 #[.pointer (some ⟨pb, 0, none⟩)] W (FdA pb s A cap ts (Sm.fieldV (tokT s ts) p) (Sm.fieldP (tokT s ts) p) W) := by
 have cW := fun V (hV : PaAt pb s A cap ts p V) => paWord_any pb s A cap ts p V hV (by omega)
 simp only [hk] at cW
 obtain ⟨T, hT⟩ : ∃ T, T = tokT s ts := ⟨_, rfl⟩
 rw [← hT] at hk ⊢
 obtain ⟨q0, hq0⟩ : ∃ q, q = (⟨p.i + 1, p.f⟩ : Sm.PS) := ⟨_, rfl⟩
 have b0 : q0.i ≤ 100001 := by rw [hq0]; show p.i + 1 ≤ _; omega
 obtain ⟨q1, hq1⟩ : ∃ q, q = Sm.nameP T q0 := ⟨_, rfl⟩
 have b1 : q1.i ≤ 100002 := by rw [hq1]; have := Sm.nameP_i T q0; omega
 obtain ⟨q2, hq2⟩ : ∃ q, q = Sm.nameP T q1 := ⟨_, rfl⟩
 have b2 : q2.i ≤ 100003 := by rw [hq2]; have := Sm.nameP_i T q1; omega
 obtain ⟨q3, hq3⟩ : ∃ q, q = Sm.numP T q2 := ⟨_, rfl⟩
 have b3 : q3.i ≤ 100004 := by rw [hq3]; have := Sm.numP_i T q2; omega
 obtain ⟨q4, hq4⟩ : ∃ q, q = Sm.numP T q3 := ⟨_, rfl⟩
 have b4 : q4.i ≤ 100005 := by rw [hq4]; have := Sm.numP_i T q3; omega
 have uOf : Sm.usesOf 1 = true := rfl
 have uUp : Sm.usesUp 1 = false := rfl
 have uLo : Sm.usesLo 1 = true := rfl
 have uHi : Sm.usesHi 1 = true := rfl
 have uWords : Sm.usesWords 1 = false := rfl
 have u4 : (((1) : Int) = 4) = False := by simp
 have h1 : Sm.f1 T p = q1 := by unfold Sm.f1; rw [hq1, hq0]
 have h2 : Sm.f2 T 1 q1 = q1 := by unfold Sm.f2; simp only [uOf, uUp, uLo, uHi, uWords, u4, if_true, if_false, Bool.false_eq_true, ↓reduceIte]
 have h3 : Sm.f3 T 1 q1 = q2 := by unfold Sm.f3; simp only [uOf, uUp, uLo, uHi, uWords, u4, if_true, if_false, Bool.false_eq_true, ↓reduceIte]; exact hq2.symm
 have h4 : Sm.f4 T 1 q2 = q3 := by unfold Sm.f4; simp only [uOf, uUp, uLo, uHi, uWords, u4, if_true, if_false, Bool.false_eq_true, ↓reduceIte]; exact hq3.symm
 have h5 : Sm.f5 T 1 q3 = q4 := by unfold Sm.f5; simp only [uOf, uUp, uLo, uHi, uWords, u4, if_true, if_false, Bool.false_eq_true, ↓reduceIte]; exact hq4.symm
 have h6 : Sm.f6 T 1 q4 = ([], q4) := by unfold Sm.f6; simp only [uWords, Bool.false_eq_true, ↓reduceIte]
 have hP : Sm.fieldP T p = q4 := by unfold Sm.fieldP; simp only [hk, h1, h2, h3, h4, h5, h6]
 have hV : Sm.fieldV T p = ⟨(Sm.nameW T q0), (Sm.nameW T q1), ⟨#[]⟩, 1, (Sm.numV T q2), (Sm.numV T q3), [], []⟩ := by unfold Sm.fieldV; simp only [hk, h1, h2, h3, h4, h5, h6, uOf, uUp, uLo, uHi, uWords, u4, if_true, if_false, Bool.false_eq_true, ↓reduceIte, List.map_nil, ← hq0, Sm.nil]
 rw [hP, hV]
 have c0 := fun V hV => paName_any pb s A cap ts q0 V hV (by omega)
 rw [← hT, ← hq1] at c0
 obtain ⟨n0, hn0⟩ : ∃ n, n = Sm.nameW T q0 := ⟨_, rfl⟩
 rw [← hn0] at c0 ⊢
 have c1 := fun V hV => paName_any pb s A cap ts q1 V hV (by omega)
 rw [← hT, ← hq2] at c1
 obtain ⟨n1, hn1⟩ : ∃ n, n = Sm.nameW T q1 := ⟨_, rfl⟩
 rw [← hn1] at c1 ⊢
 have c2 := fun V hV => paNumber_any pb s A cap ts q2 V hV (by omega)
 rw [← hT, ← hq3] at c2
 obtain ⟨n2, hn2⟩ : ∃ n, n = Sm.numV T q2 := ⟨_, rfl⟩
 rw [← hn2] at c2 ⊢
 have c3 := fun V hV => paNumber_any pb s A cap ts q3 V hV (by omega)
 rw [← hT, ← hq4] at c3
 obtain ⟨n3, hn3⟩ : ∃ n, n = Sm.numV T q3 := ⟨_, rfl⟩
 rw [← hn3] at c3 ⊢
 have HQ0 := Lib.hid hq0
 have CW := Lib.hid cW
 have C0 := Lib.hid c0
 have C1 := Lib.hid c1
 have C2 := Lib.hid c2
 have C3 := Lib.hid c3
 have cU := fun V => smUses_any 1 V
 have hU : usesV 1 = .tuple #[.bool true, .bool false, .bool true, .bool true, .bool false] := rfl
 rw [hU] at cU
 unfold Ans at cU
 have CU := Lib.hid cU
 have HH := Lib.hid h
 have hi1 : (p.i : Int) ≤ 100000 := by omega
 clear cW cU hU hP hV uOf uUp uLo uHi uWords u4 h1 h2 h3 h4 h5 h6 hk hT h hi hq0 b0 c0 hn0 hq1 b1 c1 hn1 hq2 b2 c2 hn2 hq3 b3 c3 hn3 hq4 b4
 go_enter Tryz.func123, Tryz.ntmps123
 go_wp2_with fail
 have hres : Blk (W.alloc (.cells fdZ.toArray 74)) W.heap.size fdZ 74 := Blk.new W fdZ _
 have HR := Lib.hid (And.intro hres (show Below W.heap.size W (W.alloc (.cells fdZ.toArray 74)) from (Below.refl _ _).alloc (Nat.le_refl _) _))
 clear hres
 refine (CW.out _ (HH.out.alloc _)).mono ?_
 rintro e w1 ⟨rfl, hb⟩
 have hpa := (HH.out.alloc (.cells fdZ.toArray 74)).below hb
 have c2 := hpa.blk.cell 2 _ rfl
 have f2 := hpa.blk.frozen 2
 have hlt := hpa.blk.lt
 have H1 := Lib.hid (And.intro hpa (And.intro (HR.out.1.below hb HR.out.1.lt) (And.intro (HR.out.2.trans (hb.mono HR.out.2.size)) (show W.heap.size < w1.heap.size from Nat.lt_of_lt_of_le HR.out.1.lt hb.size))))
 clear hpa hb HR CW
 go_wp2_with fail
 have hz : FdSt pb s A cap ts W W.heap.size w1.heap.size q0 (fdCs ⟨#[]⟩ ⟨#[]⟩ ⟨#[]⟩ 1 0 0 (.slice none 0 0) (.slice none 0 0)) ((w1.setCell ⟨pb, 2, none⟩ (.int .i64 ((p.i : Int) + 1))).alloc (.cells #[.string ⟨#[]⟩, .string ⟨#[]⟩, .string ⟨#[]⟩, .int .i64 1, .int .i64 0, .int .i64 0, .slice none 0 0, .slice none 0 0] 74)) := by
  rw [HQ0.out]
  refine ⟨(H1.out.1.step).alloc _, ((But.of (b := pb) H1.out.2.2.1).setCell ⟨pb, 2, none⟩ _ rfl).trans (But.of ((Below.refl _ _).alloc (Nat.le_refl _) _)), ?_, (H1.out.2.1.other _ _ (by have := HH.out.blk.lt; show W.heap.size ≠ pb; omega)).alloc _, HH.out.blk.lt, Nat.le_refl _, H1.out.2.2.2⟩
  have hnew := Blk.new (w1.setCell ⟨pb, 2, none⟩ (.int .i64 ((p.i : Int) + 1))) (fdCs ⟨#[]⟩ ⟨#[]⟩ ⟨#[]⟩ 1 0 0 (.slice none 0 0) (.slice none 0 0)) 74
  rw [size_setCell] at hnew
  exact hnew
 obtain ⟨v0, hv0⟩ : ∃ v, v = (w1.setCell ⟨pb, 2, none⟩ (.int .i64 ((p.i : Int) + 1))).alloc (.cells #[.string ⟨#[]⟩, .string ⟨#[]⟩, .string ⟨#[]⟩, .int .i64 1, .int .i64 0, .int .i64 0, .slice none 0 0, .slice none 0 0] 74) := ⟨_, rfl⟩
 rw [← hv0] at hz
 rw [← hv0]
 clear hv0 c2 f2 hlt H1
 generalize w1.heap.size = fb at *
 obtain ⟨rb, hrb⟩ : ∃ rb, rb = W.heap.size := ⟨_, rfl⟩
 rw [← hrb]
 rw [← hrb] at hz
 clear hrb
 have HS := Lib.hid hz
 clear hz
 refine (CU.out _).mono ?_
 rintro e w' ⟨rfl, hw'⟩
 obtain rfl := hw'.symm
 clear hw' CU
 have c3 := HS.out.fld.cell 3 _ rfl
 go_wp2_with fail
 clear c3
 refine (C0.out _ HS.out.pa).mono ?_
 rintro e x0 ⟨rfl, ha, hb⟩
 have hst : FdSt pb s A cap ts W rb fb q1 (fdCs ⟨#[]⟩ ⟨#[]⟩ ⟨#[]⟩ 1 0 0 (.slice none 0 0) (.slice none 0 0)) x0 := HS.out.call ha hb
 clear HS
 have HS := Lib.hid hst
 clear ha hb hst C0
 have d0 := HS.out.fld.cell 0 _ rfl
 have e0 := HS.out.fld.frozen 0
 have c3 := HS.out.fld.cell 3 _ rfl
 go_wp2_with fail
 clear c3 d0 e0
 refine (C1.out _ (HS.out.set 0 (.string n0)).pa).mono ?_
 rintro e x1 ⟨rfl, ha, hb⟩
 have hst : FdSt pb s A cap ts W rb fb q2 (fdCs n0 ⟨#[]⟩ ⟨#[]⟩ 1 0 0 (.slice none 0 0) (.slice none 0 0)) x1 := (HS.out.set 0 (.string n0)).call ha hb
 clear HS
 have HS := Lib.hid hst
 clear ha hb hst C1
 have d1 := HS.out.fld.cell 1 _ rfl
 have e1 := HS.out.fld.frozen 1
 have c3 := HS.out.fld.cell 3 _ rfl
 go_wp2_with fail
 clear c3 d1 e1
 refine (C2.out _ (HS.out.set 1 (.string n1)).pa).mono ?_
 rintro e x2 ⟨rfl, ha, hb⟩
 have hst : FdSt pb s A cap ts W rb fb q3 (fdCs n0 n1 ⟨#[]⟩ 1 0 0 (.slice none 0 0) (.slice none 0 0)) x2 := (HS.out.set 1 (.string n1)).call ha hb
 clear HS
 have HS := Lib.hid hst
 clear ha hb hst C2
 have d4 := HS.out.fld.cell 4 _ rfl
 have e4 := HS.out.fld.frozen 4
 have c3 := HS.out.fld.cell 3 _ rfl
 go_wp2_with fail
 clear c3 d4 e4
 refine (C3.out _ (HS.out.set 4 (.int .i64 n2)).pa).mono ?_
 rintro e x3 ⟨rfl, ha, hb⟩
 have hst : FdSt pb s A cap ts W rb fb q4 (fdCs n0 n1 ⟨#[]⟩ 1 n2 0 (.slice none 0 0) (.slice none 0 0)) x3 := (HS.out.set 4 (.int .i64 n2)).call ha hb
 clear HS
 have HS := Lib.hid hst
 clear ha hb hst C3
 have d5 := HS.out.fld.cell 5 _ rfl
 have e5 := HS.out.fld.frozen 5
 have hfin : FdSt pb s A cap ts W rb fb q4 (fdCs n0 n1 ⟨#[]⟩ 1 n2 n3 (.slice none 0 0) (.slice none 0 0)) (x3.setCell ⟨fb, 5, none⟩ (.int .i64 n3)) := HS.out.set 5 (.int .i64 n3)
 obtain ⟨d0, d1, d2, d3, d4, d5, d6, d7⟩ := cells8 HS.out.fld
 obtain ⟨r0, r1, r2, r3, r4, r5, r6, r7⟩ := cells8z HS.out.res
 obtain ⟨g0, g1, g2, g3, g4, g5, g6, g7⟩ := frozen8 HS.out.res
 have hnr : rb ≠ fb := by have := HS.out.news; omega
 have HF := Lib.hid hfin
 clear hfin
 go_wp2_with fail
 obtain ⟨e1, e2, e3, -, -⟩ := put8_end HF.out (.string n0) (.string n1) (.string ⟨#[]⟩) (.int .i64 1) (.int .i64 n2) (.int .i64 n3) (.slice none 0 0) (.slice none 0 0)
 exact bodyPost_ret (results_cell_row rfl _ _ rb 74 #[.string n0, .string n1, .string ⟨#[]⟩, .int .i64 1, .int .i64 n2, .int .i64 n3, .slice none 0 0, .slice none 0 0] (0, 0) _ rfl e1 Tryz.underlying74 rfl (by kernel_rfl)) rfl
  ⟨_, rfl, ⟨none, 0, none, 0, rfl, RdS.nil, RdS.nil, Nat.le_refl _, by decide, Nat.le_refl _, by decide⟩, e2, e3⟩


set_option maxHeartbeats 4000000 in
theorem paField_2 (pb : Nat) (s : ByteArray) (A : Option Addr) (cap : Nat) (ts : List (Nat × Nat)) (p : Sm.PS) (W : World) (h : PaAt pb s A cap ts p W) (hi : p.i ≤ 100000) (hk : Sm.wordV (tokT s ts) p = 2) :
  Calls Tryz.prog 123 #[.pointer (some ⟨pb, 0, none⟩)] W (FdA pb s A cap ts (Sm.fieldV (tokT s ts) p) (Sm.fieldP (tokT s ts) p) W) := by
 have cW := fun V (hV : PaAt pb s A cap ts p V) => paWord_any pb s A cap ts p V hV (by omega)
 simp only [hk] at cW
 obtain ⟨T, hT⟩ : ∃ T, T = tokT s ts := ⟨_, rfl⟩
 rw [← hT] at hk ⊢
 obtain ⟨q0, hq0⟩ : ∃ q, q = (⟨p.i + 1, p.f⟩ : Sm.PS) := ⟨_, rfl⟩
 have b0 : q0.i ≤ 100001 := by rw [hq0]; show p.i + 1 ≤ _; omega
 obtain ⟨q1, hq1⟩ : ∃ q, q = Sm.nameP T q0 := ⟨_, rfl⟩
 have b1 : q1.i ≤ 100002 := by rw [hq1]; have := Sm.nameP_i T q0; omega
 obtain ⟨q2, hq2⟩ : ∃ q, q = Sm.numP T q1 := ⟨_, rfl⟩
 have b2 : q2.i ≤ 100003 := by rw [hq2]; have := Sm.numP_i T q1; omega
 obtain ⟨q3, hq3⟩ : ∃ q, q = Sm.numP T q2 := ⟨_, rfl⟩
 have b3 : q3.i ≤ 100004 := by rw [hq3]; have := Sm.numP_i T q2; omega
 have uOf : Sm.usesOf 2 = false := rfl
 have uUp : Sm.usesUp 2 = false := rfl
 have uLo : Sm.usesLo 2 = true := rfl
 have uHi : Sm.usesHi 2 = true := rfl
 have uWords : Sm.usesWords 2 = false := rfl
 have u4 : (((2) : Int) = 4) = False := by simp
 have h1 : Sm.f1 T p = q1 := by unfold Sm.f1; rw [hq1, hq0]
 have h2 : Sm.f2 T 2 q1 = q1 := by unfold Sm.f2; simp only [uOf, uUp, uLo, uHi, uWords, u4, if_true, if_false, Bool.false_eq_true, ↓reduceIte]
 have h3 : Sm.f3 T 2 q1 = q1 := by unfold Sm.f3; simp only [uOf, uUp, uLo, uHi, uWords, u4, if_true, if_false, Bool.false_eq_true, ↓reduceIte]
 have h4 : Sm.f4 T 2 q1 = q2 := by unfold Sm.f4; simp only [uOf, uUp, uLo, uHi, uWords, u4, if_true, if_false, Bool.false_eq_true, ↓reduceIte]; exact hq2.symm
 have h5 : Sm.f5 T 2 q2 = q3 := by unfold Sm.f5; simp only [uOf, uUp, uLo, uHi, uWords, u4, if_true, if_false, Bool.false_eq_true, ↓reduceIte]; exact hq3.symm
 have h6 : Sm.f6 T 2 q3 = ([], q3) := by unfold Sm.f6; simp only [uWords, Bool.false_eq_true, ↓reduceIte]
 have hP : Sm.fieldP T p = q3 := by unfold Sm.fieldP; simp only [hk, h1, h2, h3, h4, h5, h6]
 have hV : Sm.fieldV T p = ⟨(Sm.nameW T q0), ⟨#[]⟩, ⟨#[]⟩, 2, (Sm.numV T q1), (Sm.numV T q2), [], []⟩ := by unfold Sm.fieldV; simp only [hk, h1, h2, h3, h4, h5, h6, uOf, uUp, uLo, uHi, uWords, u4, if_true, if_false, Bool.false_eq_true, ↓reduceIte, List.map_nil, ← hq0, Sm.nil]
 rw [hP, hV]
 have c0 := fun V hV => paName_any pb s A cap ts q0 V hV (by omega)
 rw [← hT, ← hq1] at c0
 obtain ⟨n0, hn0⟩ : ∃ n, n = Sm.nameW T q0 := ⟨_, rfl⟩
 rw [← hn0] at c0 ⊢
 have c1 := fun V hV => paNumber_any pb s A cap ts q1 V hV (by omega)
 rw [← hT, ← hq2] at c1
 obtain ⟨n1, hn1⟩ : ∃ n, n = Sm.numV T q1 := ⟨_, rfl⟩
 rw [← hn1] at c1 ⊢
 have c2 := fun V hV => paNumber_any pb s A cap ts q2 V hV (by omega)
 rw [← hT, ← hq3] at c2
 obtain ⟨n2, hn2⟩ : ∃ n, n = Sm.numV T q2 := ⟨_, rfl⟩
 rw [← hn2] at c2 ⊢
 have HQ0 := Lib.hid hq0
 have CW := Lib.hid cW
 have C0 := Lib.hid c0
 have C1 := Lib.hid c1
 have C2 := Lib.hid c2
 have cU := fun V => smUses_any 2 V
 have hU : usesV 2 = .tuple #[.bool false, .bool false, .bool true, .bool true, .bool false] := rfl
 rw [hU] at cU
 unfold Ans at cU
 have CU := Lib.hid cU
 have HH := Lib.hid h
 have hi1 : (p.i : Int) ≤ 100000 := by omega
 clear cW cU hU hP hV uOf uUp uLo uHi uWords u4 h1 h2 h3 h4 h5 h6 hk hT h hi hq0 b0 c0 hn0 hq1 b1 c1 hn1 hq2 b2 c2 hn2 hq3 b3
 go_enter Tryz.func123, Tryz.ntmps123
 go_wp2_with fail
 have hres : Blk (W.alloc (.cells fdZ.toArray 74)) W.heap.size fdZ 74 := Blk.new W fdZ _
 have HR := Lib.hid (And.intro hres (show Below W.heap.size W (W.alloc (.cells fdZ.toArray 74)) from (Below.refl _ _).alloc (Nat.le_refl _) _))
 clear hres
 refine (CW.out _ (HH.out.alloc _)).mono ?_
 rintro e w1 ⟨rfl, hb⟩
 have hpa := (HH.out.alloc (.cells fdZ.toArray 74)).below hb
 have c2 := hpa.blk.cell 2 _ rfl
 have f2 := hpa.blk.frozen 2
 have hlt := hpa.blk.lt
 have H1 := Lib.hid (And.intro hpa (And.intro (HR.out.1.below hb HR.out.1.lt) (And.intro (HR.out.2.trans (hb.mono HR.out.2.size)) (show W.heap.size < w1.heap.size from Nat.lt_of_lt_of_le HR.out.1.lt hb.size))))
 clear hpa hb HR CW
 go_wp2_with fail
 have hz : FdSt pb s A cap ts W W.heap.size w1.heap.size q0 (fdCs ⟨#[]⟩ ⟨#[]⟩ ⟨#[]⟩ 2 0 0 (.slice none 0 0) (.slice none 0 0)) ((w1.setCell ⟨pb, 2, none⟩ (.int .i64 ((p.i : Int) + 1))).alloc (.cells #[.string ⟨#[]⟩, .string ⟨#[]⟩, .string ⟨#[]⟩, .int .i64 2, .int .i64 0, .int .i64 0, .slice none 0 0, .slice none 0 0] 74)) := by
  rw [HQ0.out]
  refine ⟨(H1.out.1.step).alloc _, ((But.of (b := pb) H1.out.2.2.1).setCell ⟨pb, 2, none⟩ _ rfl).trans (But.of ((Below.refl _ _).alloc (Nat.le_refl _) _)), ?_, (H1.out.2.1.other _ _ (by have := HH.out.blk.lt; show W.heap.size ≠ pb; omega)).alloc _, HH.out.blk.lt, Nat.le_refl _, H1.out.2.2.2⟩
  have hnew := Blk.new (w1.setCell ⟨pb, 2, none⟩ (.int .i64 ((p.i : Int) + 1))) (fdCs ⟨#[]⟩ ⟨#[]⟩ ⟨#[]⟩ 2 0 0 (.slice none 0 0) (.slice none 0 0)) 74
  rw [size_setCell] at hnew
  exact hnew
 obtain ⟨v0, hv0⟩ : ∃ v, v = (w1.setCell ⟨pb, 2, none⟩ (.int .i64 ((p.i : Int) + 1))).alloc (.cells #[.string ⟨#[]⟩, .string ⟨#[]⟩, .string ⟨#[]⟩, .int .i64 2, .int .i64 0, .int .i64 0, .slice none 0 0, .slice none 0 0] 74) := ⟨_, rfl⟩
 rw [← hv0] at hz
 rw [← hv0]
 clear hv0 c2 f2 hlt H1
 generalize w1.heap.size = fb at *
 obtain ⟨rb, hrb⟩ : ∃ rb, rb = W.heap.size := ⟨_, rfl⟩
 rw [← hrb]
 rw [← hrb] at hz
 clear hrb
 have HS := Lib.hid hz
 clear hz
 refine (CU.out _).mono ?_
 rintro e w' ⟨rfl, hw'⟩
 obtain rfl := hw'.symm
 clear hw' CU
 have c3 := HS.out.fld.cell 3 _ rfl
 go_wp2_with fail
 clear c3
 refine (C0.out _ HS.out.pa).mono ?_
 rintro e x0 ⟨rfl, ha, hb⟩
 have hst : FdSt pb s A cap ts W rb fb q1 (fdCs ⟨#[]⟩ ⟨#[]⟩ ⟨#[]⟩ 2 0 0 (.slice none 0 0) (.slice none 0 0)) x0 := HS.out.call ha hb
 clear HS
 have HS := Lib.hid hst
 clear ha hb hst C0
 have d0 := HS.out.fld.cell 0 _ rfl
 have e0 := HS.out.fld.frozen 0
 have c3 := HS.out.fld.cell 3 _ rfl
 go_wp2_with fail
 clear c3 d0 e0
 refine (C1.out _ (HS.out.set 0 (.string n0)).pa).mono ?_
 rintro e x1 ⟨rfl, ha, hb⟩
 have hst : FdSt pb s A cap ts W rb fb q2 (fdCs n0 ⟨#[]⟩ ⟨#[]⟩ 2 0 0 (.slice none 0 0) (.slice none 0 0)) x1 := (HS.out.set 0 (.string n0)).call ha hb
 clear HS
 have HS := Lib.hid hst
 clear ha hb hst C1
 have d4 := HS.out.fld.cell 4 _ rfl
 have e4 := HS.out.fld.frozen 4
 have c3 := HS.out.fld.cell 3 _ rfl
 go_wp2_with fail
 clear c3 d4 e4
 refine (C2.out _ (HS.out.set 4 (.int .i64 n1)).pa).mono ?_
 rintro e x2 ⟨rfl, ha, hb⟩
 have hst : FdSt pb s A cap ts W rb fb q3 (fdCs n0 ⟨#[]⟩ ⟨#[]⟩ 2 n1 0 (.slice none 0 0) (.slice none 0 0)) x2 := (HS.out.set 4 (.int .i64 n1)).call ha hb
 clear HS
 have HS := Lib.hid hst
 clear ha hb hst C2
 have d5 := HS.out.fld.cell 5 _ rfl
 have e5 := HS.out.fld.frozen 5
 have hfin : FdSt pb s A cap ts W rb fb q3 (fdCs n0 ⟨#[]⟩ ⟨#[]⟩ 2 n1 n2 (.slice none 0 0) (.slice none 0 0)) (x2.setCell ⟨fb, 5, none⟩ (.int .i64 n2)) := HS.out.set 5 (.int .i64 n2)
 obtain ⟨d0, d1, d2, d3, d4, d5, d6, d7⟩ := cells8 HS.out.fld
 obtain ⟨r0, r1, r2, r3, r4, r5, r6, r7⟩ := cells8z HS.out.res
 obtain ⟨g0, g1, g2, g3, g4, g5, g6, g7⟩ := frozen8 HS.out.res
 have hnr : rb ≠ fb := by have := HS.out.news; omega
 have HF := Lib.hid hfin
 clear hfin
 go_wp2_with fail
 obtain ⟨e1, e2, e3, -, -⟩ := put8_end HF.out (.string n0) (.string ⟨#[]⟩) (.string ⟨#[]⟩) (.int .i64 2) (.int .i64 n1) (.int .i64 n2) (.slice none 0 0) (.slice none 0 0)
 exact bodyPost_ret (results_cell_row rfl _ _ rb 74 #[.string n0, .string ⟨#[]⟩, .string ⟨#[]⟩, .int .i64 2, .int .i64 n1, .int .i64 n2, .slice none 0 0, .slice none 0 0] (0, 0) _ rfl e1 Tryz.underlying74 rfl (by kernel_rfl)) rfl
  ⟨_, rfl, ⟨none, 0, none, 0, rfl, RdS.nil, RdS.nil, Nat.le_refl _, by decide, Nat.le_refl _, by decide⟩, e2, e3⟩


set_option maxHeartbeats 4000000 in
theorem paField_4 (pb : Nat) (s : ByteArray) (A : Option Addr) (cap : Nat) (ts : List (Nat × Nat)) (p : Sm.PS) (W : World) (h : PaAt pb s A cap ts p W) (hi : p.i ≤ 100000) (hk : Sm.wordV (tokT s ts) p = 4) :
  Calls Tryz.prog 123 #[.pointer (some ⟨pb, 0, none⟩)] W (FdA pb s A cap ts (Sm.fieldV (tokT s ts) p) (Sm.fieldP (tokT s ts) p) W) := by
 have cW := fun V (hV : PaAt pb s A cap ts p V) => paWord_any pb s A cap ts p V hV (by omega)
 simp only [hk] at cW
 obtain ⟨T, hT⟩ : ∃ T, T = tokT s ts := ⟨_, rfl⟩
 rw [← hT] at hk ⊢
 obtain ⟨q0, hq0⟩ : ∃ q, q = (⟨p.i + 1, p.f⟩ : Sm.PS) := ⟨_, rfl⟩
 have b0 : q0.i ≤ 100001 := by rw [hq0]; show p.i + 1 ≤ _; omega
 obtain ⟨q1, hq1⟩ : ∃ q, q = Sm.nameP T q0 := ⟨_, rfl⟩
 have b1 : q1.i ≤ 100002 := by rw [hq1]; have := Sm.nameP_i T q0; omega
 obtain ⟨q2, hq2⟩ : ∃ q, q = Sm.namesP T q1 := ⟨_, rfl⟩
 have b2 : q2.i ≤ 100003 := by rw [hq2]; have := Sm.namesP_i T q1; omega
 obtain ⟨q3, hq3⟩ : ∃ q, q = Sm.numP T q2 := ⟨_, rfl⟩
 have b3 : q3.i ≤ 100004 := by rw [hq3]; have := Sm.numP_i T q2; omega
 obtain ⟨q4, hq4⟩ : ∃ q, q = Sm.numP T q3 := ⟨_, rfl⟩
 have b4 : q4.i ≤ 100005 := by rw [hq4]; have := Sm.numP_i T q3; omega
 have uOf : Sm.usesOf 4 = true := rfl
 have uUp : Sm.usesUp 4 = false := rfl
 have uLo : Sm.usesLo 4 = true := rfl
 have uHi : Sm.usesHi 4 = true := rfl
 have uWords : Sm.usesWords 4 = false := rfl
 have u4 : (((4) : Int) = 4) = True := by simp
 have h1 : Sm.f1 T p = q1 := by unfold Sm.f1; rw [hq1, hq0]
 have h2 : Sm.f2 T 4 q1 = q1 := by unfold Sm.f2; simp only [uOf, uUp, uLo, uHi, uWords, u4, if_true, if_false, Bool.false_eq_true, ↓reduceIte]
 have h3 : Sm.f3 T 4 q1 = q2 := by unfold Sm.f3; simp only [uOf, uUp, uLo, uHi, uWords, u4, if_true, if_false, Bool.false_eq_true, ↓reduceIte]; exact hq2.symm
 have h4 : Sm.f4 T 4 q2 = q3 := by unfold Sm.f4; simp only [uOf, uUp, uLo, uHi, uWords, u4, if_true, if_false, Bool.false_eq_true, ↓reduceIte]; exact hq3.symm
 have h5 : Sm.f5 T 4 q3 = q4 := by unfold Sm.f5; simp only [uOf, uUp, uLo, uHi, uWords, u4, if_true, if_false, Bool.false_eq_true, ↓reduceIte]; exact hq4.symm
 have h6 : Sm.f6 T 4 q4 = ([], q4) := by unfold Sm.f6; simp only [uWords, Bool.false_eq_true, ↓reduceIte]
 have hP : Sm.fieldP T p = q4 := by unfold Sm.fieldP; simp only [hk, h1, h2, h3, h4, h5, h6]
 have hV : Sm.fieldV T p = ⟨(Sm.nameW T q0), (Sm.namesW T q1), ⟨#[]⟩, 4, (Sm.numV T q2), (Sm.numV T q3), [], []⟩ := by unfold Sm.fieldV; simp only [hk, h1, h2, h3, h4, h5, h6, uOf, uUp, uLo, uHi, uWords, u4, if_true, if_false, Bool.false_eq_true, ↓reduceIte, List.map_nil, ← hq0, Sm.nil]
 rw [hP, hV]
 have c0 := fun V hV => paName_any pb s A cap ts q0 V hV (by omega)
 rw [← hT, ← hq1] at c0
 obtain ⟨n0, hn0⟩ : ∃ n, n = Sm.nameW T q0 := ⟨_, rfl⟩
 rw [← hn0] at c0 ⊢
 have c1 := fun V hV => paNames_any pb s A cap ts q1 V hV (by omega)
 rw [← hT, ← hq2] at c1
 obtain ⟨n1, hn1⟩ : ∃ n, n = Sm.namesW T q1 := ⟨_, rfl⟩
 rw [← hn1] at c1 ⊢
 have c2 := fun V hV => paNumber_any pb s A cap ts q2 V hV (by omega)
 rw [← hT, ← hq3] at c2
 obtain ⟨n2, hn2⟩ : ∃ n, n = Sm.numV T q2 := ⟨_, rfl⟩
 rw [← hn2] at c2 ⊢
 have c3 := fun V hV => paNumber_any pb s A cap ts q3 V hV (by omega)
 rw [← hT, ← hq4] at c3
 obtain ⟨n3, hn3⟩ : ∃ n, n = Sm.numV T q3 := ⟨_, rfl⟩
 rw [← hn3] at c3 ⊢
 have HQ0 := Lib.hid hq0
 have CW := Lib.hid cW
 have C0 := Lib.hid c0
 have C1 := Lib.hid c1
 have C2 := Lib.hid c2
 have C3 := Lib.hid c3
 have cU := fun V => smUses_any 4 V
 have hU : usesV 4 = .tuple #[.bool true, .bool false, .bool true, .bool true, .bool false] := rfl
 rw [hU] at cU
 unfold Ans at cU
 have CU := Lib.hid cU
 have HH := Lib.hid h
 have hi1 : (p.i : Int) ≤ 100000 := by omega
 clear cW cU hU hP hV uOf uUp uLo uHi uWords u4 h1 h2 h3 h4 h5 h6 hk hT h hi hq0 b0 c0 hn0 hq1 b1 c1 hn1 hq2 b2 c2 hn2 hq3 b3 c3 hn3 hq4 b4
 go_enter Tryz.func123, Tryz.ntmps123
 go_wp2_with fail
 have hres : Blk (W.alloc (.cells fdZ.toArray 74)) W.heap.size fdZ 74 := Blk.new W fdZ _
 have HR := Lib.hid (And.intro hres (show Below W.heap.size W (W.alloc (.cells fdZ.toArray 74)) from (Below.refl _ _).alloc (Nat.le_refl _) _))
 clear hres
 refine (CW.out _ (HH.out.alloc _)).mono ?_
 rintro e w1 ⟨rfl, hb⟩
 have hpa := (HH.out.alloc (.cells fdZ.toArray 74)).below hb
 have c2 := hpa.blk.cell 2 _ rfl
 have f2 := hpa.blk.frozen 2
 have hlt := hpa.blk.lt
 have H1 := Lib.hid (And.intro hpa (And.intro (HR.out.1.below hb HR.out.1.lt) (And.intro (HR.out.2.trans (hb.mono HR.out.2.size)) (show W.heap.size < w1.heap.size from Nat.lt_of_lt_of_le HR.out.1.lt hb.size))))
 clear hpa hb HR CW
 go_wp2_with fail
 have hz : FdSt pb s A cap ts W W.heap.size w1.heap.size q0 (fdCs ⟨#[]⟩ ⟨#[]⟩ ⟨#[]⟩ 4 0 0 (.slice none 0 0) (.slice none 0 0)) ((w1.setCell ⟨pb, 2, none⟩ (.int .i64 ((p.i : Int) + 1))).alloc (.cells #[.string ⟨#[]⟩, .string ⟨#[]⟩, .string ⟨#[]⟩, .int .i64 4, .int .i64 0, .int .i64 0, .slice none 0 0, .slice none 0 0] 74)) := by
  rw [HQ0.out]
  refine ⟨(H1.out.1.step).alloc _, ((But.of (b := pb) H1.out.2.2.1).setCell ⟨pb, 2, none⟩ _ rfl).trans (But.of ((Below.refl _ _).alloc (Nat.le_refl _) _)), ?_, (H1.out.2.1.other _ _ (by have := HH.out.blk.lt; show W.heap.size ≠ pb; omega)).alloc _, HH.out.blk.lt, Nat.le_refl _, H1.out.2.2.2⟩
  have hnew := Blk.new (w1.setCell ⟨pb, 2, none⟩ (.int .i64 ((p.i : Int) + 1))) (fdCs ⟨#[]⟩ ⟨#[]⟩ ⟨#[]⟩ 4 0 0 (.slice none 0 0) (.slice none 0 0)) 74
  rw [size_setCell] at hnew
  exact hnew
 obtain ⟨v0, hv0⟩ : ∃ v, v = (w1.setCell ⟨pb, 2, none⟩ (.int .i64 ((p.i : Int) + 1))).alloc (.cells #[.string ⟨#[]⟩, .string ⟨#[]⟩, .string ⟨#[]⟩, .int .i64 4, .int .i64 0, .int .i64 0, .slice none 0 0, .slice none 0 0] 74) := ⟨_, rfl⟩
 rw [← hv0] at hz
 rw [← hv0]
 clear hv0 c2 f2 hlt H1
 generalize w1.heap.size = fb at *
 obtain ⟨rb, hrb⟩ : ∃ rb, rb = W.heap.size := ⟨_, rfl⟩
 rw [← hrb]
 rw [← hrb] at hz
 clear hrb
 have HS := Lib.hid hz
 clear hz
 refine (CU.out _).mono ?_
 rintro e w' ⟨rfl, hw'⟩
 obtain rfl := hw'.symm
 clear hw' CU
 have c3 := HS.out.fld.cell 3 _ rfl
 go_wp2_with fail
 clear c3
 refine (C0.out _ HS.out.pa).mono ?_
 rintro e x0 ⟨rfl, ha, hb⟩
 have hst : FdSt pb s A cap ts W rb fb q1 (fdCs ⟨#[]⟩ ⟨#[]⟩ ⟨#[]⟩ 4 0 0 (.slice none 0 0) (.slice none 0 0)) x0 := HS.out.call ha hb
 clear HS
 have HS := Lib.hid hst
 clear ha hb hst C0
 have d0 := HS.out.fld.cell 0 _ rfl
 have e0 := HS.out.fld.frozen 0
 have c3 := HS.out.fld.cell 3 _ rfl
 go_wp2_with fail
 clear c3 d0 e0
 refine (C1.out _ (HS.out.set 0 (.string n0)).pa).mono ?_
 rintro e x1 ⟨rfl, ha, hb⟩
 have hst : FdSt pb s A cap ts W rb fb q2 (fdCs n0 ⟨#[]⟩ ⟨#[]⟩ 4 0 0 (.slice none 0 0) (.slice none 0 0)) x1 := (HS.out.set 0 (.string n0)).call ha hb
 clear HS
 have HS := Lib.hid hst
 clear ha hb hst C1
 have d1 := HS.out.fld.cell 1 _ rfl
 have e1 := HS.out.fld.frozen 1
 have c3 := HS.out.fld.cell 3 _ rfl
 go_wp2_with fail
 clear c3 d1 e1
 refine (C2.out _ (HS.out.set 1 (.string n1)).pa).mono ?_
 rintro e x2 ⟨rfl, ha, hb⟩
 have hst : FdSt pb s A cap ts W rb fb q3 (fdCs n0 n1 ⟨#[]⟩ 4 0 0 (.slice none 0 0) (.slice none 0 0)) x2 := (HS.out.set 1 (.string n1)).call ha hb
 clear HS
 have HS := Lib.hid hst
 clear ha hb hst C2
 have d4 := HS.out.fld.cell 4 _ rfl
 have e4 := HS.out.fld.frozen 4
 have c3 := HS.out.fld.cell 3 _ rfl
 go_wp2_with fail
 clear c3 d4 e4
 refine (C3.out _ (HS.out.set 4 (.int .i64 n2)).pa).mono ?_
 rintro e x3 ⟨rfl, ha, hb⟩
 have hst : FdSt pb s A cap ts W rb fb q4 (fdCs n0 n1 ⟨#[]⟩ 4 n2 0 (.slice none 0 0) (.slice none 0 0)) x3 := (HS.out.set 4 (.int .i64 n2)).call ha hb
 clear HS
 have HS := Lib.hid hst
 clear ha hb hst C3
 have d5 := HS.out.fld.cell 5 _ rfl
 have e5 := HS.out.fld.frozen 5
 have hfin : FdSt pb s A cap ts W rb fb q4 (fdCs n0 n1 ⟨#[]⟩ 4 n2 n3 (.slice none 0 0) (.slice none 0 0)) (x3.setCell ⟨fb, 5, none⟩ (.int .i64 n3)) := HS.out.set 5 (.int .i64 n3)
 obtain ⟨d0, d1, d2, d3, d4, d5, d6, d7⟩ := cells8 HS.out.fld
 obtain ⟨r0, r1, r2, r3, r4, r5, r6, r7⟩ := cells8z HS.out.res
 obtain ⟨g0, g1, g2, g3, g4, g5, g6, g7⟩ := frozen8 HS.out.res
 have hnr : rb ≠ fb := by have := HS.out.news; omega
 have HF := Lib.hid hfin
 clear hfin
 go_wp2_with fail
 obtain ⟨e1, e2, e3, -, -⟩ := put8_end HF.out (.string n0) (.string n1) (.string ⟨#[]⟩) (.int .i64 4) (.int .i64 n2) (.int .i64 n3) (.slice none 0 0) (.slice none 0 0)
 exact bodyPost_ret (results_cell_row rfl _ _ rb 74 #[.string n0, .string n1, .string ⟨#[]⟩, .int .i64 4, .int .i64 n2, .int .i64 n3, .slice none 0 0, .slice none 0 0] (0, 0) _ rfl e1 Tryz.underlying74 rfl (by kernel_rfl)) rfl
  ⟨_, rfl, ⟨none, 0, none, 0, rfl, RdS.nil, RdS.nil, Nat.le_refl _, by decide, Nat.le_refl _, by decide⟩, e2, e3⟩


set_option maxHeartbeats 4000000 in
theorem paField_5 (pb : Nat) (s : ByteArray) (A : Option Addr) (cap : Nat) (ts : List (Nat × Nat)) (p : Sm.PS) (W : World) (h : PaAt pb s A cap ts p W) (hi : p.i ≤ 100000) (hk : Sm.wordV (tokT s ts) p = 5) :
  Calls Tryz.prog 123 #[.pointer (some ⟨pb, 0, none⟩)] W (FdA pb s A cap ts (Sm.fieldV (tokT s ts) p) (Sm.fieldP (tokT s ts) p) W) := by
 have cW := fun V (hV : PaAt pb s A cap ts p V) => paWord_any pb s A cap ts p V hV (by omega)
 simp only [hk] at cW
 obtain ⟨T, hT⟩ : ∃ T, T = tokT s ts := ⟨_, rfl⟩
 rw [← hT] at hk ⊢
 obtain ⟨q0, hq0⟩ : ∃ q, q = (⟨p.i + 1, p.f⟩ : Sm.PS) := ⟨_, rfl⟩
 have b0 : q0.i ≤ 100001 := by rw [hq0]; show p.i + 1 ≤ _; omega
 obtain ⟨q1, hq1⟩ : ∃ q, q = Sm.nameP T q0 := ⟨_, rfl⟩
 have b1 : q1.i ≤ 100002 := by rw [hq1]; have := Sm.nameP_i T q0; omega
 obtain ⟨q2, hq2⟩ : ∃ q, q = Sm.nameP T q1 := ⟨_, rfl⟩
 have b2 : q2.i ≤ 100003 := by rw [hq2]; have := Sm.nameP_i T q1; omega
 obtain ⟨q3, hq3⟩ : ∃ q, q = Sm.numP T q2 := ⟨_, rfl⟩
 have b3 : q3.i ≤ 100004 := by rw [hq3]; have := Sm.numP_i T q2; omega
 obtain ⟨q4, hq4⟩ : ∃ q, q = Sm.numP T q3 := ⟨_, rfl⟩
 have b4 : q4.i ≤ 100005 := by rw [hq4]; have := Sm.numP_i T q3; omega
 have uOf : Sm.usesOf 5 = true := rfl
 have uUp : Sm.usesUp 5 = false := rfl
 have uLo : Sm.usesLo 5 = true := rfl
 have uHi : Sm.usesHi 5 = true := rfl
 have uWords : Sm.usesWords 5 = false := rfl
 have u4 : (((5) : Int) = 4) = False := by simp
 have h1 : Sm.f1 T p = q1 := by unfold Sm.f1; rw [hq1, hq0]
 have h2 : Sm.f2 T 5 q1 = q1 := by unfold Sm.f2; simp only [uOf, uUp, uLo, uHi, uWords, u4, if_true, if_false, Bool.false_eq_true, ↓reduceIte]
 have h3 : Sm.f3 T 5 q1 = q2 := by unfold Sm.f3; simp only [uOf, uUp, uLo, uHi, uWords, u4, if_true, if_false, Bool.false_eq_true, ↓reduceIte]; exact hq2.symm
 have h4 : Sm.f4 T 5 q2 = q3 := by unfold Sm.f4; simp only [uOf, uUp, uLo, uHi, uWords, u4, if_true, if_false, Bool.false_eq_true, ↓reduceIte]; exact hq3.symm
 have h5 : Sm.f5 T 5 q3 = q4 := by unfold Sm.f5; simp only [uOf, uUp, uLo, uHi, uWords, u4, if_true, if_false, Bool.false_eq_true, ↓reduceIte]; exact hq4.symm
 have h6 : Sm.f6 T 5 q4 = ([], q4) := by unfold Sm.f6; simp only [uWords, Bool.false_eq_true, ↓reduceIte]
 have hP : Sm.fieldP T p = q4 := by unfold Sm.fieldP; simp only [hk, h1, h2, h3, h4, h5, h6]
 have hV : Sm.fieldV T p = ⟨(Sm.nameW T q0), (Sm.nameW T q1), ⟨#[]⟩, 5, (Sm.numV T q2), (Sm.numV T q3), [], []⟩ := by unfold Sm.fieldV; simp only [hk, h1, h2, h3, h4, h5, h6, uOf, uUp, uLo, uHi, uWords, u4, if_true, if_false, Bool.false_eq_true, ↓reduceIte, List.map_nil, ← hq0, Sm.nil]
 rw [hP, hV]
 have c0 := fun V hV => paName_any pb s A cap ts q0 V hV (by omega)
 rw [← hT, ← hq1] at c0
 obtain ⟨n0, hn0⟩ : ∃ n, n = Sm.nameW T q0 := ⟨_, rfl⟩
 rw [← hn0] at c0 ⊢
 have c1 := fun V hV => paName_any pb s A cap ts q1 V hV (by omega)
 rw [← hT, ← hq2] at c1
 obtain ⟨n1, hn1⟩ : ∃ n, n = Sm.nameW T q1 := ⟨_, rfl⟩
 rw [← hn1] at c1 ⊢
 have c2 := fun V hV => paNumber_any pb s A cap ts q2 V hV (by omega)
 rw [← hT, ← hq3] at c2
 obtain ⟨n2, hn2⟩ : ∃ n, n = Sm.numV T q2 := ⟨_, rfl⟩
 rw [← hn2] at c2 ⊢
 have c3 := fun V hV => paNumber_any pb s A cap ts q3 V hV (by omega)
 rw [← hT, ← hq4] at c3
 obtain ⟨n3, hn3⟩ : ∃ n, n = Sm.numV T q3 := ⟨_, rfl⟩
 rw [← hn3] at c3 ⊢
 have HQ0 := Lib.hid hq0
 have CW := Lib.hid cW
 have C0 := Lib.hid c0
 have C1 := Lib.hid c1
 have C2 := Lib.hid c2
 have C3 := Lib.hid c3
 have cU := fun V => smUses_any 5 V
 have hU : usesV 5 = .tuple #[.bool true, .bool false, .bool true, .bool true, .bool false] := rfl
 rw [hU] at cU
 unfold Ans at cU
 have CU := Lib.hid cU
 have HH := Lib.hid h
 have hi1 : (p.i : Int) ≤ 100000 := by omega
 clear cW cU hU hP hV uOf uUp uLo uHi uWords u4 h1 h2 h3 h4 h5 h6 hk hT h hi hq0 b0 c0 hn0 hq1 b1 c1 hn1 hq2 b2 c2 hn2 hq3 b3 c3 hn3 hq4 b4
 go_enter Tryz.func123, Tryz.ntmps123
 go_wp2_with fail
 have hres : Blk (W.alloc (.cells fdZ.toArray 74)) W.heap.size fdZ 74 := Blk.new W fdZ _
 have HR := Lib.hid (And.intro hres (show Below W.heap.size W (W.alloc (.cells fdZ.toArray 74)) from (Below.refl _ _).alloc (Nat.le_refl _) _))
 clear hres
 refine (CW.out _ (HH.out.alloc _)).mono ?_
 rintro e w1 ⟨rfl, hb⟩
 have hpa := (HH.out.alloc (.cells fdZ.toArray 74)).below hb
 have c2 := hpa.blk.cell 2 _ rfl
 have f2 := hpa.blk.frozen 2
 have hlt := hpa.blk.lt
 have H1 := Lib.hid (And.intro hpa (And.intro (HR.out.1.below hb HR.out.1.lt) (And.intro (HR.out.2.trans (hb.mono HR.out.2.size)) (show W.heap.size < w1.heap.size from Nat.lt_of_lt_of_le HR.out.1.lt hb.size))))
 clear hpa hb HR CW
 go_wp2_with fail
 have hz : FdSt pb s A cap ts W W.heap.size w1.heap.size q0 (fdCs ⟨#[]⟩ ⟨#[]⟩ ⟨#[]⟩ 5 0 0 (.slice none 0 0) (.slice none 0 0)) ((w1.setCell ⟨pb, 2, none⟩ (.int .i64 ((p.i : Int) + 1))).alloc (.cells #[.string ⟨#[]⟩, .string ⟨#[]⟩, .string ⟨#[]⟩, .int .i64 5, .int .i64 0, .int .i64 0, .slice none 0 0, .slice none 0 0] 74)) := by
  rw [HQ0.out]
  refine ⟨(H1.out.1.step).alloc _, ((But.of (b := pb) H1.out.2.2.1).setCell ⟨pb, 2, none⟩ _ rfl).trans (But.of ((Below.refl _ _).alloc (Nat.le_refl _) _)), ?_, (H1.out.2.1.other _ _ (by have := HH.out.blk.lt; show W.heap.size ≠ pb; omega)).alloc _, HH.out.blk.lt, Nat.le_refl _, H1.out.2.2.2⟩
  have hnew := Blk.new (w1.setCell ⟨pb, 2, none⟩ (.int .i64 ((p.i : Int) + 1))) (fdCs ⟨#[]⟩ ⟨#[]⟩ ⟨#[]⟩ 5 0 0 (.slice none 0 0) (.slice none 0 0)) 74
  rw [size_setCell] at hnew
  exact hnew
 obtain ⟨v0, hv0⟩ : ∃ v, v = (w1.setCell ⟨pb, 2, none⟩ (.int .i64 ((p.i : Int) + 1))).alloc (.cells #[.string ⟨#[]⟩, .string ⟨#[]⟩, .string ⟨#[]⟩, .int .i64 5, .int .i64 0, .int .i64 0, .slice none 0 0, .slice none 0 0] 74) := ⟨_, rfl⟩
 rw [← hv0] at hz
 rw [← hv0]
 clear hv0 c2 f2 hlt H1
 generalize w1.heap.size = fb at *
 obtain ⟨rb, hrb⟩ : ∃ rb, rb = W.heap.size := ⟨_, rfl⟩
 rw [← hrb]
 rw [← hrb] at hz
 clear hrb
 have HS := Lib.hid hz
 clear hz
 refine (CU.out _).mono ?_
 rintro e w' ⟨rfl, hw'⟩
 obtain rfl := hw'.symm
 clear hw' CU
 have c3 := HS.out.fld.cell 3 _ rfl
 go_wp2_with fail
 clear c3
 refine (C0.out _ HS.out.pa).mono ?_
 rintro e x0 ⟨rfl, ha, hb⟩
 have hst : FdSt pb s A cap ts W rb fb q1 (fdCs ⟨#[]⟩ ⟨#[]⟩ ⟨#[]⟩ 5 0 0 (.slice none 0 0) (.slice none 0 0)) x0 := HS.out.call ha hb
 clear HS
 have HS := Lib.hid hst
 clear ha hb hst C0
 have d0 := HS.out.fld.cell 0 _ rfl
 have e0 := HS.out.fld.frozen 0
 have c3 := HS.out.fld.cell 3 _ rfl
 go_wp2_with fail
 clear c3 d0 e0
 refine (C1.out _ (HS.out.set 0 (.string n0)).pa).mono ?_
 rintro e x1 ⟨rfl, ha, hb⟩
 have hst : FdSt pb s A cap ts W rb fb q2 (fdCs n0 ⟨#[]⟩ ⟨#[]⟩ 5 0 0 (.slice none 0 0) (.slice none 0 0)) x1 := (HS.out.set 0 (.string n0)).call ha hb
 clear HS
 have HS := Lib.hid hst
 clear ha hb hst C1
 have d1 := HS.out.fld.cell 1 _ rfl
 have e1 := HS.out.fld.frozen 1
 have c3 := HS.out.fld.cell 3 _ rfl
 go_wp2_with fail
 clear c3 d1 e1
 refine (C2.out _ (HS.out.set 1 (.string n1)).pa).mono ?_
 rintro e x2 ⟨rfl, ha, hb⟩
 have hst : FdSt pb s A cap ts W rb fb q3 (fdCs n0 n1 ⟨#[]⟩ 5 0 0 (.slice none 0 0) (.slice none 0 0)) x2 := (HS.out.set 1 (.string n1)).call ha hb
 clear HS
 have HS := Lib.hid hst
 clear ha hb hst C2
 have d4 := HS.out.fld.cell 4 _ rfl
 have e4 := HS.out.fld.frozen 4
 have c3 := HS.out.fld.cell 3 _ rfl
 go_wp2_with fail
 clear c3 d4 e4
 refine (C3.out _ (HS.out.set 4 (.int .i64 n2)).pa).mono ?_
 rintro e x3 ⟨rfl, ha, hb⟩
 have hst : FdSt pb s A cap ts W rb fb q4 (fdCs n0 n1 ⟨#[]⟩ 5 n2 0 (.slice none 0 0) (.slice none 0 0)) x3 := (HS.out.set 4 (.int .i64 n2)).call ha hb
 clear HS
 have HS := Lib.hid hst
 clear ha hb hst C3
 have d5 := HS.out.fld.cell 5 _ rfl
 have e5 := HS.out.fld.frozen 5
 have hfin : FdSt pb s A cap ts W rb fb q4 (fdCs n0 n1 ⟨#[]⟩ 5 n2 n3 (.slice none 0 0) (.slice none 0 0)) (x3.setCell ⟨fb, 5, none⟩ (.int .i64 n3)) := HS.out.set 5 (.int .i64 n3)
 obtain ⟨d0, d1, d2, d3, d4, d5, d6, d7⟩ := cells8 HS.out.fld
 obtain ⟨r0, r1, r2, r3, r4, r5, r6, r7⟩ := cells8z HS.out.res
 obtain ⟨g0, g1, g2, g3, g4, g5, g6, g7⟩ := frozen8 HS.out.res
 have hnr : rb ≠ fb := by have := HS.out.news; omega
 have HF := Lib.hid hfin
 clear hfin
 go_wp2_with fail
 obtain ⟨e1, e2, e3, -, -⟩ := put8_end HF.out (.string n0) (.string n1) (.string ⟨#[]⟩) (.int .i64 5) (.int .i64 n2) (.int .i64 n3) (.slice none 0 0) (.slice none 0 0)
 exact bodyPost_ret (results_cell_row rfl _ _ rb 74 #[.string n0, .string n1, .string ⟨#[]⟩, .int .i64 5, .int .i64 n2, .int .i64 n3, .slice none 0 0, .slice none 0 0] (0, 0) _ rfl e1 Tryz.underlying74 rfl (by kernel_rfl)) rfl
  ⟨_, rfl, ⟨none, 0, none, 0, rfl, RdS.nil, RdS.nil, Nat.le_refl _, by decide, Nat.le_refl _, by decide⟩, e2, e3⟩


set_option maxHeartbeats 4000000 in
theorem paField_6 (pb : Nat) (s : ByteArray) (A : Option Addr) (cap : Nat) (ts : List (Nat × Nat)) (p : Sm.PS) (W : World) (h : PaAt pb s A cap ts p W) (hi : p.i ≤ 100000) (hk : Sm.wordV (tokT s ts) p = 6) :
  Calls Tryz.prog 123 #[.pointer (some ⟨pb, 0, none⟩)] W (FdA pb s A cap ts (Sm.fieldV (tokT s ts) p) (Sm.fieldP (tokT s ts) p) W) := by
 have cW := fun V (hV : PaAt pb s A cap ts p V) => paWord_any pb s A cap ts p V hV (by omega)
 simp only [hk] at cW
 obtain ⟨T, hT⟩ : ∃ T, T = tokT s ts := ⟨_, rfl⟩
 rw [← hT] at hk ⊢
 obtain ⟨q0, hq0⟩ : ∃ q, q = (⟨p.i + 1, p.f⟩ : Sm.PS) := ⟨_, rfl⟩
 have b0 : q0.i ≤ 100001 := by rw [hq0]; show p.i + 1 ≤ _; omega
 obtain ⟨q1, hq1⟩ : ∃ q, q = Sm.nameP T q0 := ⟨_, rfl⟩
 have b1 : q1.i ≤ 100002 := by rw [hq1]; have := Sm.nameP_i T q0; omega
 obtain ⟨q2, hq2⟩ : ∃ q, q = Sm.nameP T q1 := ⟨_, rfl⟩
 have b2 : q2.i ≤ 100003 := by rw [hq2]; have := Sm.nameP_i T q1; omega
 have uOf : Sm.usesOf 6 = true := rfl
 have uUp : Sm.usesUp 6 = false := rfl
 have uLo : Sm.usesLo 6 = false := rfl
 have uHi : Sm.usesHi 6 = false := rfl
 have uWords : Sm.usesWords 6 = false := rfl
 have u4 : (((6) : Int) = 4) = False := by simp
 have h1 : Sm.f1 T p = q1 := by unfold Sm.f1; rw [hq1, hq0]
 have h2 : Sm.f2 T 6 q1 = q1 := by unfold Sm.f2; simp only [uOf, uUp, uLo, uHi, uWords, u4, if_true, if_false, Bool.false_eq_true, ↓reduceIte]
 have h3 : Sm.f3 T 6 q1 = q2 := by unfold Sm.f3; simp only [uOf, uUp, uLo, uHi, uWords, u4, if_true, if_false, Bool.false_eq_true, ↓reduceIte]; exact hq2.symm
 have h4 : Sm.f4 T 6 q2 = q2 := by unfold Sm.f4; simp only [uOf, uUp, uLo, uHi, uWords, u4, if_true, if_false, Bool.false_eq_true, ↓reduceIte]
 have h5 : Sm.f5 T 6 q2 = q2 := by unfold Sm.f5; simp only [uOf, uUp, uLo, uHi, uWords, u4, if_true, if_false, Bool.false_eq_true, ↓reduceIte]
 have h6 : Sm.f6 T 6 q2 = ([], q2) := by unfold Sm.f6; simp only [uWords, Bool.false_eq_true, ↓reduceIte]
 have hP : Sm.fieldP T p = q2 := by unfold Sm.fieldP; simp only [hk, h1, h2, h3, h4, h5, h6]
 have hV : Sm.fieldV T p = ⟨(Sm.nameW T q0), (Sm.nameW T q1), ⟨#[]⟩, 6, 0, 0, [], []⟩ := by unfold Sm.fieldV; simp only [hk, h1, h2, h3, h4, h5, h6, uOf, uUp, uLo, uHi, uWords, u4, if_true, if_false, Bool.false_eq_true, ↓reduceIte, List.map_nil, ← hq0, Sm.nil]
 rw [hP, hV]
 have c0 := fun V hV => paName_any pb s A cap ts q0 V hV (by omega)
 rw [← hT, ← hq1] at c0
 obtain ⟨n0, hn0⟩ : ∃ n, n = Sm.nameW T q0 := ⟨_, rfl⟩
 rw [← hn0] at c0 ⊢
 have c1 := fun V hV => paName_any pb s A cap ts q1 V hV (by omega)
 rw [← hT, ← hq2] at c1
 obtain ⟨n1, hn1⟩ : ∃ n, n = Sm.nameW T q1 := ⟨_, rfl⟩
 rw [← hn1] at c1 ⊢
 have HQ0 := Lib.hid hq0
 have CW := Lib.hid cW
 have C0 := Lib.hid c0
 have C1 := Lib.hid c1
 have cU := fun V => smUses_any 6 V
 have hU : usesV 6 = .tuple #[.bool true, .bool false, .bool false, .bool false, .bool false] := rfl
 rw [hU] at cU
 unfold Ans at cU
 have CU := Lib.hid cU
 have HH := Lib.hid h
 have hi1 : (p.i : Int) ≤ 100000 := by omega
 clear cW cU hU hP hV uOf uUp uLo uHi uWords u4 h1 h2 h3 h4 h5 h6 hk hT h hi hq0 b0 c0 hn0 hq1 b1 c1 hn1 hq2 b2
 go_enter Tryz.func123, Tryz.ntmps123
 go_wp2_with fail
 have hres : Blk (W.alloc (.cells fdZ.toArray 74)) W.heap.size fdZ 74 := Blk.new W fdZ _
 have HR := Lib.hid (And.intro hres (show Below W.heap.size W (W.alloc (.cells fdZ.toArray 74)) from (Below.refl _ _).alloc (Nat.le_refl _) _))
 clear hres
 refine (CW.out _ (HH.out.alloc _)).mono ?_
 rintro e w1 ⟨rfl, hb⟩
 have hpa := (HH.out.alloc (.cells fdZ.toArray 74)).below hb
 have c2 := hpa.blk.cell 2 _ rfl
 have f2 := hpa.blk.frozen 2
 have hlt := hpa.blk.lt
 have H1 := Lib.hid (And.intro hpa (And.intro (HR.out.1.below hb HR.out.1.lt) (And.intro (HR.out.2.trans (hb.mono HR.out.2.size)) (show W.heap.size < w1.heap.size from Nat.lt_of_lt_of_le HR.out.1.lt hb.size))))
 clear hpa hb HR CW
 go_wp2_with fail
 have hz : FdSt pb s A cap ts W W.heap.size w1.heap.size q0 (fdCs ⟨#[]⟩ ⟨#[]⟩ ⟨#[]⟩ 6 0 0 (.slice none 0 0) (.slice none 0 0)) ((w1.setCell ⟨pb, 2, none⟩ (.int .i64 ((p.i : Int) + 1))).alloc (.cells #[.string ⟨#[]⟩, .string ⟨#[]⟩, .string ⟨#[]⟩, .int .i64 6, .int .i64 0, .int .i64 0, .slice none 0 0, .slice none 0 0] 74)) := by
  rw [HQ0.out]
  refine ⟨(H1.out.1.step).alloc _, ((But.of (b := pb) H1.out.2.2.1).setCell ⟨pb, 2, none⟩ _ rfl).trans (But.of ((Below.refl _ _).alloc (Nat.le_refl _) _)), ?_, (H1.out.2.1.other _ _ (by have := HH.out.blk.lt; show W.heap.size ≠ pb; omega)).alloc _, HH.out.blk.lt, Nat.le_refl _, H1.out.2.2.2⟩
  have hnew := Blk.new (w1.setCell ⟨pb, 2, none⟩ (.int .i64 ((p.i : Int) + 1))) (fdCs ⟨#[]⟩ ⟨#[]⟩ ⟨#[]⟩ 6 0 0 (.slice none 0 0) (.slice none 0 0)) 74
  rw [size_setCell] at hnew
  exact hnew
 obtain ⟨v0, hv0⟩ : ∃ v, v = (w1.setCell ⟨pb, 2, none⟩ (.int .i64 ((p.i : Int) + 1))).alloc (.cells #[.string ⟨#[]⟩, .string ⟨#[]⟩, .string ⟨#[]⟩, .int .i64 6, .int .i64 0, .int .i64 0, .slice none 0 0, .slice none 0 0] 74) := ⟨_, rfl⟩
 rw [← hv0] at hz
 rw [← hv0]
 clear hv0 c2 f2 hlt H1
 generalize w1.heap.size = fb at *
 obtain ⟨rb, hrb⟩ : ∃ rb, rb = W.heap.size := ⟨_, rfl⟩
 rw [← hrb]
 rw [← hrb] at hz
 clear hrb
 have HS := Lib.hid hz
 clear hz
 refine (CU.out _).mono ?_
 rintro e w' ⟨rfl, hw'⟩
 obtain rfl := hw'.symm
 clear hw' CU
 have c3 := HS.out.fld.cell 3 _ rfl
 go_wp2_with fail
 clear c3
 refine (C0.out _ HS.out.pa).mono ?_
 rintro e x0 ⟨rfl, ha, hb⟩
 have hst : FdSt pb s A cap ts W rb fb q1 (fdCs ⟨#[]⟩ ⟨#[]⟩ ⟨#[]⟩ 6 0 0 (.slice none 0 0) (.slice none 0 0)) x0 := HS.out.call ha hb
 clear HS
 have HS := Lib.hid hst
 clear ha hb hst C0
 have d0 := HS.out.fld.cell 0 _ rfl
 have e0 := HS.out.fld.frozen 0
 have c3 := HS.out.fld.cell 3 _ rfl
 go_wp2_with fail
 clear c3 d0 e0
 refine (C1.out _ (HS.out.set 0 (.string n0)).pa).mono ?_
 rintro e x1 ⟨rfl, ha, hb⟩
 have hst : FdSt pb s A cap ts W rb fb q2 (fdCs n0 ⟨#[]⟩ ⟨#[]⟩ 6 0 0 (.slice none 0 0) (.slice none 0 0)) x1 := (HS.out.set 0 (.string n0)).call ha hb
 clear HS
 have HS := Lib.hid hst
 clear ha hb hst C1
 have d1 := HS.out.fld.cell 1 _ rfl
 have e1 := HS.out.fld.frozen 1
 have hfin : FdSt pb s A cap ts W rb fb q2 (fdCs n0 n1 ⟨#[]⟩ 6 0 0 (.slice none 0 0) (.slice none 0 0)) (x1.setCell ⟨fb, 1, none⟩ (.string n1)) := HS.out.set 1 (.string n1)
 obtain ⟨d0, d1, d2, d3, d4, d5, d6, d7⟩ := cells8 HS.out.fld
 obtain ⟨r0, r1, r2, r3, r4, r5, r6, r7⟩ := cells8z HS.out.res
 obtain ⟨g0, g1, g2, g3, g4, g5, g6, g7⟩ := frozen8 HS.out.res
 have hnr : rb ≠ fb := by have := HS.out.news; omega
 have HF := Lib.hid hfin
 clear hfin
 go_wp2_with fail
 obtain ⟨e1, e2, e3, -, -⟩ := put8_end HF.out (.string n0) (.string n1) (.string ⟨#[]⟩) (.int .i64 6) (.int .i64 0) (.int .i64 0) (.slice none 0 0) (.slice none 0 0)
 exact bodyPost_ret (results_cell_row rfl _ _ rb 74 #[.string n0, .string n1, .string ⟨#[]⟩, .int .i64 6, .int .i64 0, .int .i64 0, .slice none 0 0, .slice none 0 0] (0, 0) _ rfl e1 Tryz.underlying74 rfl (by kernel_rfl)) rfl
  ⟨_, rfl, ⟨none, 0, none, 0, rfl, RdS.nil, RdS.nil, Nat.le_refl _, by decide, Nat.le_refl _, by decide⟩, e2, e3⟩


set_option maxHeartbeats 4000000 in
theorem paField_7 (pb : Nat) (s : ByteArray) (A : Option Addr) (cap : Nat) (ts : List (Nat × Nat)) (p : Sm.PS) (W : World) (h : PaAt pb s A cap ts p W) (hi : p.i ≤ 100000) (hk : Sm.wordV (tokT s ts) p = 7) :
  Calls Tryz.prog 123 #[.pointer (some ⟨pb, 0, none⟩)] W (FdA pb s A cap ts (Sm.fieldV (tokT s ts) p) (Sm.fieldP (tokT s ts) p) W) := by
 have cW := fun V (hV : PaAt pb s A cap ts p V) => paWord_any pb s A cap ts p V hV (by omega)
 simp only [hk] at cW
 obtain ⟨T, hT⟩ : ∃ T, T = tokT s ts := ⟨_, rfl⟩
 rw [← hT] at hk ⊢
 obtain ⟨q0, hq0⟩ : ∃ q, q = (⟨p.i + 1, p.f⟩ : Sm.PS) := ⟨_, rfl⟩
 have b0 : q0.i ≤ 100001 := by rw [hq0]; show p.i + 1 ≤ _; omega
 obtain ⟨q1, hq1⟩ : ∃ q, q = Sm.nameP T q0 := ⟨_, rfl⟩
 have b1 : q1.i ≤ 100002 := by rw [hq1]; have := Sm.nameP_i T q0; omega
 obtain ⟨q2, hq2⟩ : ∃ q, q = Sm.nameP T q1 := ⟨_, rfl⟩
 have b2 : q2.i ≤ 100003 := by rw [hq2]; have := Sm.nameP_i T q1; omega
 obtain ⟨q3, hq3⟩ : ∃ q, q = Sm.nameP T q2 := ⟨_, rfl⟩
 have b3 : q3.i ≤ 100004 := by rw [hq3]; have := Sm.nameP_i T q2; omega
 obtain ⟨q4, hq4⟩ : ∃ q, q = Sm.numP T q3 := ⟨_, rfl⟩
 have b4 : q4.i ≤ 100005 := by rw [hq4]; have := Sm.numP_i T q3; omega
 obtain ⟨q5, hq5⟩ : ∃ q, q = Sm.numP T q4 := ⟨_, rfl⟩
 have b5 : q5.i ≤ 100006 := by rw [hq5]; have := Sm.numP_i T q4; omega
 have uOf : Sm.usesOf 7 = true := rfl
 have uUp : Sm.usesUp 7 = true := rfl
 have uLo : Sm.usesLo 7 = true := rfl
 have uHi : Sm.usesHi 7 = true := rfl
 have uWords : Sm.usesWords 7 = false := rfl
 have u4 : (((7) : Int) = 4) = False := by simp
 have h1 : Sm.f1 T p = q1 := by unfold Sm.f1; rw [hq1, hq0]
 have h2 : Sm.f2 T 7 q1 = q2 := by unfold Sm.f2; simp only [uOf, uUp, uLo, uHi, uWords, u4, if_true, if_false, Bool.false_eq_true, ↓reduceIte]; exact hq2.symm
 have h3 : Sm.f3 T 7 q2 = q3 := by unfold Sm.f3; simp only [uOf, uUp, uLo, uHi, uWords, u4, if_true, if_false, Bool.false_eq_true, ↓reduceIte]; exact hq3.symm
 have h4 : Sm.f4 T 7 q3 = q4 := by unfold Sm.f4; simp only [uOf, uUp, uLo, uHi, uWords, u4, if_true, if_false, Bool.false_eq_true, ↓reduceIte]; exact hq4.symm
 have h5 : Sm.f5 T 7 q4 = q5 := by unfold Sm.f5; simp only [uOf, uUp, uLo, uHi, uWords, u4, if_true, if_false, Bool.false_eq_true, ↓reduceIte]; exact hq5.symm
 have h6 : Sm.f6 T 7 q5 = ([], q5) := by unfold Sm.f6; simp only [uWords, Bool.false_eq_true, ↓reduceIte]
 have hP : Sm.fieldP T p = q5 := by unfold Sm.fieldP; simp only [hk, h1, h2, h3, h4, h5, h6]
 have hV : Sm.fieldV T p = ⟨(Sm.nameW T q0), (Sm.nameW T q2), (Sm.nameW T q1), 7, (Sm.numV T q3), (Sm.numV T q4), [], []⟩ := by unfold Sm.fieldV; simp only [hk, h1, h2, h3, h4, h5, h6, uOf, uUp, uLo, uHi, uWords, u4, if_true, if_false, Bool.false_eq_true, ↓reduceIte, List.map_nil, ← hq0, Sm.nil]
 rw [hP, hV]
 have c0 := fun V hV => paName_any pb s A cap ts q0 V hV (by omega)
 rw [← hT, ← hq1] at c0
 obtain ⟨n0, hn0⟩ : ∃ n, n = Sm.nameW T q0 := ⟨_, rfl⟩
 rw [← hn0] at c0 ⊢
 have c1 := fun V hV => paName_any pb s A cap ts q1 V hV (by omega)
 rw [← hT, ← hq2] at c1
 obtain ⟨n1, hn1⟩ : ∃ n, n = Sm.nameW T q1 := ⟨_, rfl⟩
 rw [← hn1] at c1 ⊢
 have c2 := fun V hV => paName_any pb s A cap ts q2 V hV (by omega)
 rw [← hT, ← hq3] at c2
 obtain ⟨n2, hn2⟩ : ∃ n, n = Sm.nameW T q2 := ⟨_, rfl⟩
 rw [← hn2] at c2 ⊢
 have c3 := fun V hV => paNumber_any pb s A cap ts q3 V hV (by omega)
 rw [← hT, ← hq4] at c3
 obtain ⟨n3, hn3⟩ : ∃ n, n = Sm.numV T q3 := ⟨_, rfl⟩
 rw [← hn3] at c3 ⊢
 have c4 := fun V hV => paNumber_any pb s A cap ts q4 V hV (by omega)
 rw [← hT, ← hq5] at c4
 obtain ⟨n4, hn4⟩ : ∃ n, n = Sm.numV T q4 := ⟨_, rfl⟩
 rw [← hn4] at c4 ⊢
 have HQ0 := Lib.hid hq0
 have CW := Lib.hid cW
 have C0 := Lib.hid c0
 have C1 := Lib.hid c1
 have C2 := Lib.hid c2
 have C3 := Lib.hid c3
 have C4 := Lib.hid c4
 have cU := fun V => smUses_any 7 V
 have hU : usesV 7 = .tuple #[.bool true, .bool true, .bool true, .bool true, .bool false] := rfl
 rw [hU] at cU
 unfold Ans at cU
 have CU := Lib.hid cU
 have HH := Lib.hid h
 have hi1 : (p.i : Int) ≤ 100000 := by omega
 clear cW cU hU hP hV uOf uUp uLo uHi uWords u4 h1 h2 h3 h4 h5 h6 hk hT h hi hq0 b0 c0 hn0 hq1 b1 c1 hn1 hq2 b2 c2 hn2 hq3 b3 c3 hn3 hq4 b4 c4 hn4 hq5 b5
 go_enter Tryz.func123, Tryz.ntmps123
 go_wp2_with fail
 have hres : Blk (W.alloc (.cells fdZ.toArray 74)) W.heap.size fdZ 74 := Blk.new W fdZ _
 have HR := Lib.hid (And.intro hres (show Below W.heap.size W (W.alloc (.cells fdZ.toArray 74)) from (Below.refl _ _).alloc (Nat.le_refl _) _))
 clear hres
 refine (CW.out _ (HH.out.alloc _)).mono ?_
 rintro e w1 ⟨rfl, hb⟩
 have hpa := (HH.out.alloc (.cells fdZ.toArray 74)).below hb
 have c2 := hpa.blk.cell 2 _ rfl
 have f2 := hpa.blk.frozen 2
 have hlt := hpa.blk.lt
 have H1 := Lib.hid (And.intro hpa (And.intro (HR.out.1.below hb HR.out.1.lt) (And.intro (HR.out.2.trans (hb.mono HR.out.2.size)) (show W.heap.size < w1.heap.size from Nat.lt_of_lt_of_le HR.out.1.lt hb.size))))
 clear hpa hb HR CW
 go_wp2_with fail
 have hz : FdSt pb s A cap ts W W.heap.size w1.heap.size q0 (fdCs ⟨#[]⟩ ⟨#[]⟩ ⟨#[]⟩ 7 0 0 (.slice none 0 0) (.slice none 0 0)) ((w1.setCell ⟨pb, 2, none⟩ (.int .i64 ((p.i : Int) + 1))).alloc (.cells #[.string ⟨#[]⟩, .string ⟨#[]⟩, .string ⟨#[]⟩, .int .i64 7, .int .i64 0, .int .i64 0, .slice none 0 0, .slice none 0 0] 74)) := by
  rw [HQ0.out]
  refine ⟨(H1.out.1.step).alloc _, ((But.of (b := pb) H1.out.2.2.1).setCell ⟨pb, 2, none⟩ _ rfl).trans (But.of ((Below.refl _ _).alloc (Nat.le_refl _) _)), ?_, (H1.out.2.1.other _ _ (by have := HH.out.blk.lt; show W.heap.size ≠ pb; omega)).alloc _, HH.out.blk.lt, Nat.le_refl _, H1.out.2.2.2⟩
  have hnew := Blk.new (w1.setCell ⟨pb, 2, none⟩ (.int .i64 ((p.i : Int) + 1))) (fdCs ⟨#[]⟩ ⟨#[]⟩ ⟨#[]⟩ 7 0 0 (.slice none 0 0) (.slice none 0 0)) 74
  rw [size_setCell] at hnew
  exact hnew
 obtain ⟨v0, hv0⟩ : ∃ v, v = (w1.setCell ⟨pb, 2, none⟩ (.int .i64 ((p.i : Int) + 1))).alloc (.cells #[.string ⟨#[]⟩, .string ⟨#[]⟩, .string ⟨#[]⟩, .int .i64 7, .int .i64 0, .int .i64 0, .slice none 0 0, .slice none 0 0] 74) := ⟨_, rfl⟩
 rw [← hv0] at hz
 rw [← hv0]
 clear hv0 c2 f2 hlt H1
 generalize w1.heap.size = fb at *
 obtain ⟨rb, hrb⟩ : ∃ rb, rb = W.heap.size := ⟨_, rfl⟩
 rw [← hrb]
 rw [← hrb] at hz
 clear hrb
 have HS := Lib.hid hz
 clear hz
 refine (CU.out _).mono ?_
 rintro e w' ⟨rfl, hw'⟩
 obtain rfl := hw'.symm
 clear hw' CU
 have c3 := HS.out.fld.cell 3 _ rfl
 go_wp2_with fail
 clear c3
 refine (C0.out _ HS.out.pa).mono ?_
 rintro e x0 ⟨rfl, ha, hb⟩
 have hst : FdSt pb s A cap ts W rb fb q1 (fdCs ⟨#[]⟩ ⟨#[]⟩ ⟨#[]⟩ 7 0 0 (.slice none 0 0) (.slice none 0 0)) x0 := HS.out.call ha hb
 clear HS
 have HS := Lib.hid hst
 clear ha hb hst C0
 have d0 := HS.out.fld.cell 0 _ rfl
 have e0 := HS.out.fld.frozen 0
 have c3 := HS.out.fld.cell 3 _ rfl
 go_wp2_with fail
 clear c3 d0 e0
 refine (C1.out _ (HS.out.set 0 (.string n0)).pa).mono ?_
 rintro e x1 ⟨rfl, ha, hb⟩
 have hst : FdSt pb s A cap ts W rb fb q2 (fdCs n0 ⟨#[]⟩ ⟨#[]⟩ 7 0 0 (.slice none 0 0) (.slice none 0 0)) x1 := (HS.out.set 0 (.string n0)).call ha hb
 clear HS
 have HS := Lib.hid hst
 clear ha hb hst C1
 have d2 := HS.out.fld.cell 2 _ rfl
 have e2 := HS.out.fld.frozen 2
 have c3 := HS.out.fld.cell 3 _ rfl
 go_wp2_with fail
 clear c3 d2 e2
 refine (C2.out _ (HS.out.set 2 (.string n1)).pa).mono ?_
 rintro e x2 ⟨rfl, ha, hb⟩
 have hst : FdSt pb s A cap ts W rb fb q3 (fdCs n0 ⟨#[]⟩ n1 7 0 0 (.slice none 0 0) (.slice none 0 0)) x2 := (HS.out.set 2 (.string n1)).call ha hb
 clear HS
 have HS := Lib.hid hst
 clear ha hb hst C2
 have d1 := HS.out.fld.cell 1 _ rfl
 have e1 := HS.out.fld.frozen 1
 have c3 := HS.out.fld.cell 3 _ rfl
 go_wp2_with fail
 clear c3 d1 e1
 refine (C3.out _ (HS.out.set 1 (.string n2)).pa).mono ?_
 rintro e x3 ⟨rfl, ha, hb⟩
 have hst : FdSt pb s A cap ts W rb fb q4 (fdCs n0 n2 n1 7 0 0 (.slice none 0 0) (.slice none 0 0)) x3 := (HS.out.set 1 (.string n2)).call ha hb
 clear HS
 have HS := Lib.hid hst
 clear ha hb hst C3
 have d4 := HS.out.fld.cell 4 _ rfl
 have e4 := HS.out.fld.frozen 4
 have c3 := HS.out.fld.cell 3 _ rfl
 go_wp2_with fail
 clear c3 d4 e4
 refine (C4.out _ (HS.out.set 4 (.int .i64 n3)).pa).mono ?_
 rintro e x4 ⟨rfl, ha, hb⟩
 have hst : FdSt pb s A cap ts W rb fb q5 (fdCs n0 n2 n1 7 n3 0 (.slice none 0 0) (.slice none 0 0)) x4 := (HS.out.set 4 (.int .i64 n3)).call ha hb
 clear HS
 have HS := Lib.hid hst
 clear ha hb hst C4
 have d5 := HS.out.fld.cell 5 _ rfl
 have e5 := HS.out.fld.frozen 5
 have hfin : FdSt pb s A cap ts W rb fb q5 (fdCs n0 n2 n1 7 n3 n4 (.slice none 0 0) (.slice none 0 0)) (x4.setCell ⟨fb, 5, none⟩ (.int .i64 n4)) := HS.out.set 5 (.int .i64 n4)
 obtain ⟨d0, d1, d2, d3, d4, d5, d6, d7⟩ := cells8 HS.out.fld
 obtain ⟨r0, r1, r2, r3, r4, r5, r6, r7⟩ := cells8z HS.out.res
 obtain ⟨g0, g1, g2, g3, g4, g5, g6, g7⟩ := frozen8 HS.out.res
 have hnr : rb ≠ fb := by have := HS.out.news; omega
 have HF := Lib.hid hfin
 clear hfin
 go_wp2_with fail
 obtain ⟨e1, e2, e3, -, -⟩ := put8_end HF.out (.string n0) (.string n2) (.string n1) (.int .i64 7) (.int .i64 n3) (.int .i64 n4) (.slice none 0 0) (.slice none 0 0)
 exact bodyPost_ret (results_cell_row rfl _ _ rb 74 #[.string n0, .string n2, .string n1, .int .i64 7, .int .i64 n3, .int .i64 n4, .slice none 0 0, .slice none 0 0] (0, 0) _ rfl e1 Tryz.underlying74 rfl (by kernel_rfl)) rfl
  ⟨_, rfl, ⟨none, 0, none, 0, rfl, RdS.nil, RdS.nil, Nat.le_refl _, by decide, Nat.le_refl _, by decide⟩, e2, e3⟩


set_option maxHeartbeats 4000000 in
theorem paField_8 (pb : Nat) (s : ByteArray) (A : Option Addr) (cap : Nat) (ts : List (Nat × Nat)) (p : Sm.PS) (W : World) (h : PaAt pb s A cap ts p W) (hi : p.i ≤ 100000) (hk : Sm.wordV (tokT s ts) p = 8) :
  Calls Tryz.prog 123 #[.pointer (some ⟨pb, 0, none⟩)] W (FdA pb s A cap ts (Sm.fieldV (tokT s ts) p) (Sm.fieldP (tokT s ts) p) W) := by
 have cW := fun V (hV : PaAt pb s A cap ts p V) => paWord_any pb s A cap ts p V hV (by omega)
 simp only [hk] at cW
 obtain ⟨T, hT⟩ : ∃ T, T = tokT s ts := ⟨_, rfl⟩
 rw [← hT] at hk ⊢
 obtain ⟨q0, hq0⟩ : ∃ q, q = (⟨p.i + 1, p.f⟩ : Sm.PS) := ⟨_, rfl⟩
 have b0 : q0.i ≤ 100001 := by rw [hq0]; show p.i + 1 ≤ _; omega
 obtain ⟨q1, hq1⟩ : ∃ q, q = Sm.nameP T q0 := ⟨_, rfl⟩
 have b1 : q1.i ≤ 100002 := by rw [hq1]; have := Sm.nameP_i T q0; omega
 obtain ⟨q2, hq2⟩ : ∃ q, q = Sm.nameP T q1 := ⟨_, rfl⟩
 have b2 : q2.i ≤ 100003 := by rw [hq2]; have := Sm.nameP_i T q1; omega
 obtain ⟨q3, hq3⟩ : ∃ q, q = Sm.nameP T q2 := ⟨_, rfl⟩
 have b3 : q3.i ≤ 100004 := by rw [hq3]; have := Sm.nameP_i T q2; omega
 have uOf : Sm.usesOf 8 = true := rfl
 have uUp : Sm.usesUp 8 = true := rfl
 have uLo : Sm.usesLo 8 = false := rfl
 have uHi : Sm.usesHi 8 = false := rfl
 have uWords : Sm.usesWords 8 = false := rfl
 have u4 : (((8) : Int) = 4) = False := by simp
 have h1 : Sm.f1 T p = q1 := by unfold Sm.f1; rw [hq1, hq0]
 have h2 : Sm.f2 T 8 q1 = q2 := by unfold Sm.f2; simp only [uOf, uUp, uLo, uHi, uWords, u4, if_true, if_false, Bool.false_eq_true, ↓reduceIte]; exact hq2.symm
 have h3 : Sm.f3 T 8 q2 = q3 := by unfold Sm.f3; simp only [uOf, uUp, uLo, uHi, uWords, u4, if_true, if_false, Bool.false_eq_true, ↓reduceIte]; exact hq3.symm
 have h4 : Sm.f4 T 8 q3 = q3 := by unfold Sm.f4; simp only [uOf, uUp, uLo, uHi, uWords, u4, if_true, if_false, Bool.false_eq_true, ↓reduceIte]
 have h5 : Sm.f5 T 8 q3 = q3 := by unfold Sm.f5; simp only [uOf, uUp, uLo, uHi, uWords, u4, if_true, if_false, Bool.false_eq_true, ↓reduceIte]
 have h6 : Sm.f6 T 8 q3 = ([], q3) := by unfold Sm.f6; simp only [uWords, Bool.false_eq_true, ↓reduceIte]
 have hP : Sm.fieldP T p = q3 := by unfold Sm.fieldP; simp only [hk, h1, h2, h3, h4, h5, h6]
 have hV : Sm.fieldV T p = ⟨(Sm.nameW T q0), (Sm.nameW T q2), (Sm.nameW T q1), 8, 0, 0, [], []⟩ := by unfold Sm.fieldV; simp only [hk, h1, h2, h3, h4, h5, h6, uOf, uUp, uLo, uHi, uWords, u4, if_true, if_false, Bool.false_eq_true, ↓reduceIte, List.map_nil, ← hq0, Sm.nil]
 rw [hP, hV]
 have c0 := fun V hV => paName_any pb s A cap ts q0 V hV (by omega)
 rw [← hT, ← hq1] at c0
 obtain ⟨n0, hn0⟩ : ∃ n, n = Sm.nameW T q0 := ⟨_, rfl⟩
 rw [← hn0] at c0 ⊢
 have c1 := fun V hV => paName_any pb s A cap ts q1 V hV (by omega)
 rw [← hT, ← hq2] at c1
 obtain ⟨n1, hn1⟩ : ∃ n, n = Sm.nameW T q1 := ⟨_, rfl⟩
 rw [← hn1] at c1 ⊢
 have c2 := fun V hV => paName_any pb s A cap ts q2 V hV (by omega)
 rw [← hT, ← hq3] at c2
 obtain ⟨n2, hn2⟩ : ∃ n, n = Sm.nameW T q2 := ⟨_, rfl⟩
 rw [← hn2] at c2 ⊢
 have HQ0 := Lib.hid hq0
 have CW := Lib.hid cW
 have C0 := Lib.hid c0
 have C1 := Lib.hid c1
 have C2 := Lib.hid c2
 have cU := fun V => smUses_any 8 V
 have hU : usesV 8 = .tuple #[.bool true, .bool true, .bool false, .bool false, .bool false] := rfl
 rw [hU] at cU
 unfold Ans at cU
 have CU := Lib.hid cU
 have HH := Lib.hid h
 have hi1 : (p.i : Int) ≤ 100000 := by omega
 clear cW cU hU hP hV uOf uUp uLo uHi uWords u4 h1 h2 h3 h4 h5 h6 hk hT h hi hq0 b0 c0 hn0 hq1 b1 c1 hn1 hq2 b2 c2 hn2 hq3 b3
 go_enter Tryz.func123, Tryz.ntmps123
 go_wp2_with fail
 have hres : Blk (W.alloc (.cells fdZ.toArray 74)) W.heap.size fdZ 74 := Blk.new W fdZ _
 have HR := Lib.hid (And.intro hres (show Below W.heap.size W (W.alloc (.cells fdZ.toArray 74)) from (Below.refl _ _).alloc (Nat.le_refl _) _))
 clear hres
 refine (CW.out _ (HH.out.alloc _)).mono ?_
 rintro e w1 ⟨rfl, hb⟩
 have hpa := (HH.out.alloc (.cells fdZ.toArray 74)).below hb
 have c2 := hpa.blk.cell 2 _ rfl
 have f2 := hpa.blk.frozen 2
 have hlt := hpa.blk.lt
 have H1 := Lib.hid (And.intro hpa (And.intro (HR.out.1.below hb HR.out.1.lt) (And.intro (HR.out.2.trans (hb.mono HR.out.2.size)) (show W.heap.size < w1.heap.size from Nat.lt_of_lt_of_le HR.out.1.lt hb.size))))
 clear hpa hb HR CW
 go_wp2_with fail
 have hz : FdSt pb s A cap ts W W.heap.size w1.heap.size q0 (fdCs ⟨#[]⟩ ⟨#[]⟩ ⟨#[]⟩ 8 0 0 (.slice none 0 0) (.slice none 0 0)) ((w1.setCell ⟨pb, 2, none⟩ (.int .i64 ((p.i : Int) + 1))).alloc (.cells #[.string ⟨#[]⟩, .string ⟨#[]⟩, .string ⟨#[]⟩, .int .i64 8, .int .i64 0, .int .i64 0, .slice none 0 0, .slice none 0 0] 74)) := by
  rw [HQ0.out]
  refine ⟨(H1.out.1.step).alloc _, ((But.of (b := pb) H1.out.2.2.1).setCell ⟨pb, 2, none⟩ _ rfl).trans (But.of ((Below.refl _ _).alloc (Nat.le_refl _) _)), ?_, (H1.out.2.1.other _ _ (by have := HH.out.blk.lt; show W.heap.size ≠ pb; omega)).alloc _, HH.out.blk.lt, Nat.le_refl _, H1.out.2.2.2⟩
  have hnew := Blk.new (w1.setCell ⟨pb, 2, none⟩ (.int .i64 ((p.i : Int) + 1))) (fdCs ⟨#[]⟩ ⟨#[]⟩ ⟨#[]⟩ 8 0 0 (.slice none 0 0) (.slice none 0 0)) 74
  rw [size_setCell] at hnew
  exact hnew
 obtain ⟨v0, hv0⟩ : ∃ v, v = (w1.setCell ⟨pb, 2, none⟩ (.int .i64 ((p.i : Int) + 1))).alloc (.cells #[.string ⟨#[]⟩, .string ⟨#[]⟩, .string ⟨#[]⟩, .int .i64 8, .int .i64 0, .int .i64 0, .slice none 0 0, .slice none 0 0] 74) := ⟨_, rfl⟩
 rw [← hv0] at hz
 rw [← hv0]
 clear hv0 c2 f2 hlt H1
 generalize w1.heap.size = fb at *
 obtain ⟨rb, hrb⟩ : ∃ rb, rb = W.heap.size := ⟨_, rfl⟩
 rw [← hrb]
 rw [← hrb] at hz
 clear hrb
 have HS := Lib.hid hz
 clear hz
 refine (CU.out _).mono ?_
 rintro e w' ⟨rfl, hw'⟩
 obtain rfl := hw'.symm
 clear hw' CU
 have c3 := HS.out.fld.cell 3 _ rfl
 go_wp2_with fail
 clear c3
 refine (C0.out _ HS.out.pa).mono ?_
 rintro e x0 ⟨rfl, ha, hb⟩
 have hst : FdSt pb s A cap ts W rb fb q1 (fdCs ⟨#[]⟩ ⟨#[]⟩ ⟨#[]⟩ 8 0 0 (.slice none 0 0) (.slice none 0 0)) x0 := HS.out.call ha hb
 clear HS
 have HS := Lib.hid hst
 clear ha hb hst C0
 have d0 := HS.out.fld.cell 0 _ rfl
 have e0 := HS.out.fld.frozen 0
 have c3 := HS.out.fld.cell 3 _ rfl
 go_wp2_with fail
 clear c3 d0 e0
 refine (C1.out _ (HS.out.set 0 (.string n0)).pa).mono ?_
 rintro e x1 ⟨rfl, ha, hb⟩
 have hst : FdSt pb s A cap ts W rb fb q2 (fdCs n0 ⟨#[]⟩ ⟨#[]⟩ 8 0 0 (.slice none 0 0) (.slice none 0 0)) x1 := (HS.out.set 0 (.string n0)).call ha hb
 clear HS
 have HS := Lib.hid hst
 clear ha hb hst C1
 have d2 := HS.out.fld.cell 2 _ rfl
 have e2 := HS.out.fld.frozen 2
 have c3 := HS.out.fld.cell 3 _ rfl
 go_wp2_with fail
 clear c3 d2 e2
 refine (C2.out _ (HS.out.set 2 (.string n1)).pa).mono ?_
 rintro e x2 ⟨rfl, ha, hb⟩
 have hst : FdSt pb s A cap ts W rb fb q3 (fdCs n0 ⟨#[]⟩ n1 8 0 0 (.slice none 0 0) (.slice none 0 0)) x2 := (HS.out.set 2 (.string n1)).call ha hb
 clear HS
 have HS := Lib.hid hst
 clear ha hb hst C2
 have d1 := HS.out.fld.cell 1 _ rfl
 have e1 := HS.out.fld.frozen 1
 have hfin : FdSt pb s A cap ts W rb fb q3 (fdCs n0 n2 n1 8 0 0 (.slice none 0 0) (.slice none 0 0)) (x2.setCell ⟨fb, 1, none⟩ (.string n2)) := HS.out.set 1 (.string n2)
 obtain ⟨d0, d1, d2, d3, d4, d5, d6, d7⟩ := cells8 HS.out.fld
 obtain ⟨r0, r1, r2, r3, r4, r5, r6, r7⟩ := cells8z HS.out.res
 obtain ⟨g0, g1, g2, g3, g4, g5, g6, g7⟩ := frozen8 HS.out.res
 have hnr : rb ≠ fb := by have := HS.out.news; omega
 have HF := Lib.hid hfin
 clear hfin
 go_wp2_with fail
 obtain ⟨e1, e2, e3, -, -⟩ := put8_end HF.out (.string n0) (.string n2) (.string n1) (.int .i64 8) (.int .i64 0) (.int .i64 0) (.slice none 0 0) (.slice none 0 0)
 exact bodyPost_ret (results_cell_row rfl _ _ rb 74 #[.string n0, .string n2, .string n1, .int .i64 8, .int .i64 0, .int .i64 0, .slice none 0 0, .slice none 0 0] (0, 0) _ rfl e1 Tryz.underlying74 rfl (by kernel_rfl)) rfl
  ⟨_, rfl, ⟨none, 0, none, 0, rfl, RdS.nil, RdS.nil, Nat.le_refl _, by decide, Nat.le_refl _, by decide⟩, e2, e3⟩

end Go.Proofs.YtkgddcemocfgfaaGreatDoor
end

