import Derived.Test.YtkgddcemocfgfaaGreatDoorJZSmGj

section
/- The program's reader: move, rule, kind. (gen_gelems.py writes this text.) -/

namespace Go.Proofs.YtkgddcemocfgfaaGreatDoor
open Go.RowKit
set_option linter.unusedVariables false
set_option linter.unusedSimpArgs false
set_option maxRecDepth 100000

namespace Sm
def moveGo (T : List ByteArray) (p : PS) : (Int × Int) × PS := ((numG T p, numG T (numP T p)), numP T (numP T p))
def ruleGo (T : List ByteArray) (p : PS) : Ru × PS :=
 (⟨nameW T p, nameW T (nameP T p), namesW T (nameP T (nameP T p)), namesW T (namesP T (nameP T (nameP T p))), numG T (namesP T (namesP T (nameP T (nameP T p))))⟩, numP T (namesP T (namesP T (nameP T (nameP T p)))))
def fieldsGo (T : List ByteArray) (p : PS) : List Fd × PS := whileB (fieldB T) (fieldGo T) (T.length + 1) [] p
def kindGo (T : List ByteArray) (p : PS) : Kd × PS :=
 (⟨nameW T p, numG T (nameP T p), numG T (numP T (nameP T p)), (fieldsGo T (numP T (numP T (nameP T p)))).1⟩, (fieldsGo T (numP T (numP T (nameP T p)))).2)
/-- What an element is, if its word stands there. -/
def elB (T : List ByteArray) (wd : ByteArray) (p : PS) : Bool := eqW (look T p) wd
def elV {α : Type} (V : PS → α × PS) (p : PS) : α × PS := V ⟨p.i + 1, p.f⟩
end Sm
theorem MvS.zero (S : Nat → Prop) (w : World) : MvS S w (0, 0) mvZL := rfl
theorem RuS.zero (S : Nat → Prop) (w : World) : RuS S w Sm.zeroRu ruZ := rfl
theorem KdS.zero (S : Nat → Prop) (w : World) : KdS S w Sm.zeroKd kdZ := ⟨none, 0, rfl, RowsS.nil, Nat.le_refl _, Nat.zero_le _⟩

set_option maxHeartbeats 8000000 in
theorem gMove_any (rb : Nat) (s : ByteArray) (ts : List (Nat × Nat)) (stop : Nat) (p : Sm.PS) (W : World) (h : RdAt rb s ts stop p W) (hD : SDoor W) (hg : doorB ≤ rb) :
  Calls Tryz.prog 161 #[.pointer (some ⟨rb, 0, none⟩)] W (ElA MvS rb s ts stop (Sm.elB (tokT s ts) Sm.moveWd p) (if Sm.elB (tokT s ts) Sm.moveWd p = true then (Sm.elV (Sm.moveGo (tokT s ts)) p).1 else (0, 0)) (if Sm.elB (tokT s ts) Sm.moveWd p = true then (Sm.elV (Sm.moveGo (tokT s ts)) p).2 else p) W) := by
 have hr0 := h.blk.lt
 have hgs : 5 < rb := by unfold doorB at hg; omega
 have cS := fun V (hV : RdAt rb s ts stop p V) => gStarts_any rb s ts stop p V hV Sm.moveWd (by decide)
 have cN := fun q V (hV : RdAt rb s ts stop q V) => gName_any rb s ts stop q V hV
 have cO := fun q V (hV : RdAt rb s ts stop q V) => gNames_any rb s ts stop q V hV
 have cM := fun q V (hV : RdAt rb s ts stop q V) (hb : But rb W V) => gNumber_any rb s ts stop q V hV (hD.syn.below (hb.below (Nat.le_refl _) (Nat.le_of_lt hr0)) hgs) hgs
 obtain ⟨T, hT⟩ : ∃ T, T = tokT s ts := ⟨_, rfl⟩
 have hTl : T.length = ts.length := by rw [hT]; unfold tokT; rw [List.length_map]
 rw [← hT]
 simp only [← hT] at cS cN cO cM
 obtain ⟨rB, hrB⟩ : ∃ b, b = Sm.elB T Sm.moveWd p := ⟨_, rfl⟩
 obtain ⟨rF, hrF⟩ : ∃ f, f = (if Sm.elB T Sm.moveWd p = true then (Sm.elV (Sm.moveGo T) p).1 else (0, 0)) := ⟨_, rfl⟩
 obtain ⟨rP, hrP⟩ : ∃ f, f = (if Sm.elB T Sm.moveWd p = true then (Sm.elV (Sm.moveGo T) p).2 else p) := ⟨_, rfl⟩
 rw [← hrF, ← hrP, ← hrB]
 have hrB2 : Sm.eqW (Sm.look T p) Sm.moveWd = rB := hrB.symm
 rw [← hrB] at hrF hrP
 simp only [hrB2] at cS
 unfold Sm.moveWd at cS
 obtain ⟨q0, hq0⟩ : ∃ q, q = (⟨p.i + 1, p.f⟩ : Sm.PS) := ⟨_, rfl⟩
 rw [← hq0] at cS
 obtain ⟨q1, hq1⟩ : ∃ q, q = Sm.numP T q0 := ⟨_, rfl⟩
 obtain ⟨v0, hv0⟩ : ∃ v, v = Sm.numG T q0 := ⟨_, rfl⟩
 have c0 := fun V hV hb => cM q0 V hV hb
 simp only [← hq1, ← hv0] at c0
 obtain ⟨q2, hq2⟩ : ∃ q, q = Sm.numP T q1 := ⟨_, rfl⟩
 obtain ⟨v1, hv1⟩ : ∃ v, v = Sm.numG T q1 := ⟨_, rfl⟩
 have c1 := fun V hV hb => cM q1 V hV hb
 simp only [← hq2, ← hv1] at c1
 have hGo : Sm.elV (Sm.moveGo T) p = ((v0, v1), q2) := by
  unfold Sm.elV Sm.moveGo
  rw [← hq0]
  try rw [← hv0]
  try rw [← hq1]
  try rw [← hv1]
  try rw [← hq2]
 rw [hGo] at hrF hrP
 have C0 := Lib.hid c0
 have C1 := Lib.hid c1
 have CS := Lib.hid cS
 have HH := Lib.hid h
 have HRR := Lib.hid (And.intro hrF hrP)
 clear cS cN cO cM c0 c1 hq0 hq1 hq2 hv0 hv1 hGo hrF hrP hrB hrB2 hT hTl hD hg hgs
 have H0 := Lib.hid (show RdAt rb s ts stop p (W.alloc (.cells mvZL.toArray 68)) ∧ But rb W (W.alloc (.cells mvZL.toArray 68)) ∧ Blk (W.alloc (.cells mvZL.toArray 68)) W.heap.size mvZL 68 ∧ rb < W.heap.size from ⟨h.alloc _, But.of ((Below.refl _ _).alloc (Nat.le_refl _) _), Blk.new W mvZL _, hr0⟩)
 clear h hr0
 go_enter Tryz.func161, Tryz.ntmps161
 go_wp2_with fail
 obtain ⟨ob, hob⟩ : ∃ n, n = W.heap.size := ⟨_, rfl⟩
 obtain ⟨W0, hW0⟩ : ∃ w, w = W.alloc (.cells mvZL.toArray 68) := ⟨_, rfl⟩
 rw [← hW0, ← hob] at H0
 have hW0' : W0 = W.alloc (.cells #[.int .i64 0, .int .i64 0] 68) := hW0
 rw [← hW0', ← hob]
 have HOB := Lib.hid hob
 clear hW0 hW0' hob
 refine (CS.out _ H0.out.1).mono ?_
 rintro e w1 ⟨rfl, ha, hb⟩
 have H1 := Lib.hid (And.intro ha (And.intro (H0.out.2.1.trans hb) (H0.out.2.2.1.but hb (by have := H0.out.2.2.2; omega))))
 clear ha hb CS
 cases rB with
 | false =>
  have r0 := H1.out.2.2.cell 0 _ rfl
  have g0 := H1.out.2.2.frozen 0
  have r1 := H1.out.2.2.cell 1 _ rfl
  have g1 := H1.out.2.2.frozen 1
  go_wp2_with fail
  obtain ⟨E, hE⟩ : ∃ w, w = ((w1.setCell ⟨ob, 0, none⟩ (.int .i64 0)).setCell ⟨ob, 1, none⟩ (.int .i64 0)) := ⟨_, rfl⟩
  have hblk : Blk E ob mvZL 68 := by rw [hE]; exact ((H1.out.2.2.set 0 _).set 1 _)
  have hob : But ob w1 E := by rw [hE]; exact (((But.refl ob w1).setCell ⟨ob, 0, none⟩ _ rfl).setCell ⟨ob, 1, none⟩ _ rfl)
  have hrd : RdAt rb s ts stop p E := RdAt.but (by simpa using H1.out.1) hob (by have := H0.out.2.2.2; have := HOB.out; omega)
  have hbE : But rb W E := H1.out.2.1.trans_other hob (by rw [HOB.out]; exact Nat.le_refl _)
  rw [hE] at hblk hrd hbE
  exact bodyPost_ret (results_cell_row_tmp1 rfl _ _ ob 68 mvZL.toArray (0, 0) _ rfl hblk Tryz.underlying68 rfl (by kernel_rfl)) rfl
   ⟨mvZL, rfl, by rw [HRR.out.1]; simp only [Bool.false_eq_true, if_false]; exact MvS.zero _ _, by rw [HRR.out.2]; simp only [Bool.false_eq_true, if_false]; exact hrd, hbE⟩
 | true =>
  have hp0 : RdAt rb s ts stop q0 w1 := by simpa using H1.out.1
  have K0 := Lib.hid (And.intro hp0 (And.intro H1.out.2.1 H1.out.2.2))
  clear hp0 H1
  go_wp2_with fail
  refine (C0.out _ K0.out.1 K0.out.2.1).mono ?_
  rintro e w2 ⟨rfl, ha, hb⟩
  have K1 := Lib.hid (And.intro ha (And.intro (K0.out.2.1.trans hb) (K0.out.2.2.but hb (by have := H0.out.2.2.2; have := HOB.out; omega))))
  clear ha hb C0 K0
  go_wp2_with fail
  refine (C1.out _ K1.out.1 K1.out.2.1).mono ?_
  rintro e w3 ⟨rfl, ha, hb⟩
  have K2 := Lib.hid (And.intro ha (And.intro (K1.out.2.1.trans hb) (K1.out.2.2.but hb (by have := H0.out.2.2.2; have := HOB.out; omega))))
  clear ha hb C1 K1
  have r0 := K2.out.2.2.cell 0 _ rfl
  have g0 := K2.out.2.2.frozen 0
  have r1 := K2.out.2.2.cell 1 _ rfl
  have g1 := K2.out.2.2.frozen 1
  go_wp2_with fail
  obtain ⟨E, hE⟩ : ∃ w, w = ((w3.setCell ⟨ob, 0, none⟩ (.int .i64 v0)).setCell ⟨ob, 1, none⟩ (.int .i64 v1)) := ⟨_, rfl⟩
  have hblk : Blk E ob [.int .i64 v0, .int .i64 v1] 68 := by rw [hE]; exact ((K2.out.2.2.set 0 _).set 1 _)
  have hob : But ob w3 E := by rw [hE]; exact (((But.refl ob w3).setCell ⟨ob, 0, none⟩ _ rfl).setCell ⟨ob, 1, none⟩ _ rfl)
  have hrd := K2.out.1.but hob (by have := H0.out.2.2.2; have := HOB.out; omega)
  have hbE : But rb W E := K2.out.2.1.trans_other hob (by rw [HOB.out]; exact Nat.le_refl _)
  rw [hE] at hblk hrd hbE
  exact bodyPost_ret (results_cell_row_tmp1 rfl _ _ ob 68 #[.int .i64 v0, .int .i64 v1] (0, 0) _ rfl hblk Tryz.underlying68 rfl (by kernel_rfl)) rfl
   ⟨_, rfl, by rw [HRR.out.1]; rfl, by rw [HRR.out.2]; exact hrd, hbE⟩

set_option maxHeartbeats 8000000 in
theorem gRule_any (rb : Nat) (s : ByteArray) (ts : List (Nat × Nat)) (stop : Nat) (p : Sm.PS) (W : World) (h : RdAt rb s ts stop p W) (hD : SDoor W) (hg : doorB ≤ rb) :
  Calls Tryz.prog 118 #[.pointer (some ⟨rb, 0, none⟩)] W (ElA RuS rb s ts stop (Sm.elB (tokT s ts) Sm.ruleWd p) (if Sm.elB (tokT s ts) Sm.ruleWd p = true then (Sm.elV (Sm.ruleGo (tokT s ts)) p).1 else Sm.zeroRu) (if Sm.elB (tokT s ts) Sm.ruleWd p = true then (Sm.elV (Sm.ruleGo (tokT s ts)) p).2 else p) W) := by
 have hr0 := h.blk.lt
 have hgs : 5 < rb := by unfold doorB at hg; omega
 have cS := fun V (hV : RdAt rb s ts stop p V) => gStarts_any rb s ts stop p V hV Sm.ruleWd (by decide)
 have cN := fun q V (hV : RdAt rb s ts stop q V) => gName_any rb s ts stop q V hV
 have cO := fun q V (hV : RdAt rb s ts stop q V) => gNames_any rb s ts stop q V hV
 have cM := fun q V (hV : RdAt rb s ts stop q V) (hb : But rb W V) => gNumber_any rb s ts stop q V hV (hD.syn.below (hb.below (Nat.le_refl _) (Nat.le_of_lt hr0)) hgs) hgs
 obtain ⟨T, hT⟩ : ∃ T, T = tokT s ts := ⟨_, rfl⟩
 have hTl : T.length = ts.length := by rw [hT]; unfold tokT; rw [List.length_map]
 rw [← hT]
 simp only [← hT] at cS cN cO cM
 obtain ⟨rB, hrB⟩ : ∃ b, b = Sm.elB T Sm.ruleWd p := ⟨_, rfl⟩
 obtain ⟨rF, hrF⟩ : ∃ f, f = (if Sm.elB T Sm.ruleWd p = true then (Sm.elV (Sm.ruleGo T) p).1 else Sm.zeroRu) := ⟨_, rfl⟩
 obtain ⟨rP, hrP⟩ : ∃ f, f = (if Sm.elB T Sm.ruleWd p = true then (Sm.elV (Sm.ruleGo T) p).2 else p) := ⟨_, rfl⟩
 rw [← hrF, ← hrP, ← hrB]
 have hrB2 : Sm.eqW (Sm.look T p) Sm.ruleWd = rB := hrB.symm
 rw [← hrB] at hrF hrP
 simp only [hrB2] at cS
 unfold Sm.ruleWd at cS
 obtain ⟨q0, hq0⟩ : ∃ q, q = (⟨p.i + 1, p.f⟩ : Sm.PS) := ⟨_, rfl⟩
 rw [← hq0] at cS
 obtain ⟨q1, hq1⟩ : ∃ q, q = Sm.nameP T q0 := ⟨_, rfl⟩
 obtain ⟨v0, hv0⟩ : ∃ v, v = Sm.nameW T q0 := ⟨_, rfl⟩
 have c0 := fun V hV => cN q0 V hV
 simp only [← hq1, ← hv0] at c0
 obtain ⟨q2, hq2⟩ : ∃ q, q = Sm.nameP T q1 := ⟨_, rfl⟩
 obtain ⟨v1, hv1⟩ : ∃ v, v = Sm.nameW T q1 := ⟨_, rfl⟩
 have c1 := fun V hV => cN q1 V hV
 simp only [← hq2, ← hv1] at c1
 obtain ⟨q3, hq3⟩ : ∃ q, q = Sm.namesP T q2 := ⟨_, rfl⟩
 obtain ⟨v2, hv2⟩ : ∃ v, v = Sm.namesW T q2 := ⟨_, rfl⟩
 have c2 := fun V hV => cO q2 V hV
 simp only [← hq3, ← hv2] at c2
 obtain ⟨q4, hq4⟩ : ∃ q, q = Sm.namesP T q3 := ⟨_, rfl⟩
 obtain ⟨v3, hv3⟩ : ∃ v, v = Sm.namesW T q3 := ⟨_, rfl⟩
 have c3 := fun V hV => cO q3 V hV
 simp only [← hq4, ← hv3] at c3
 obtain ⟨q5, hq5⟩ : ∃ q, q = Sm.numP T q4 := ⟨_, rfl⟩
 obtain ⟨v4, hv4⟩ : ∃ v, v = Sm.numG T q4 := ⟨_, rfl⟩
 have c4 := fun V hV hb => cM q4 V hV hb
 simp only [← hq5, ← hv4] at c4
 have hGo : Sm.elV (Sm.ruleGo T) p = (⟨v0, v1, v2, v3, v4⟩, q5) := by
  unfold Sm.elV Sm.ruleGo
  rw [← hq0]
  try rw [← hv0]
  try rw [← hq1]
  try rw [← hv1]
  try rw [← hq2]
  try rw [← hv2]
  try rw [← hq3]
  try rw [← hv3]
  try rw [← hq4]
  try rw [← hv4]
  try rw [← hq5]
 rw [hGo] at hrF hrP
 have C0 := Lib.hid c0
 have C1 := Lib.hid c1
 have C2 := Lib.hid c2
 have C3 := Lib.hid c3
 have C4 := Lib.hid c4
 have CS := Lib.hid cS
 have HH := Lib.hid h
 have HRR := Lib.hid (And.intro hrF hrP)
 clear cS cN cO cM c0 c1 c2 c3 c4 hq0 hq1 hq2 hq3 hq4 hq5 hv0 hv1 hv2 hv3 hv4 hGo hrF hrP hrB hrB2 hT hTl hD hg hgs
 have H0 := Lib.hid (show RdAt rb s ts stop p (W.alloc (.cells ruZ.toArray 70)) ∧ But rb W (W.alloc (.cells ruZ.toArray 70)) ∧ Blk (W.alloc (.cells ruZ.toArray 70)) W.heap.size ruZ 70 ∧ rb < W.heap.size from ⟨h.alloc _, But.of ((Below.refl _ _).alloc (Nat.le_refl _) _), Blk.new W ruZ _, hr0⟩)
 clear h hr0
 go_enter Tryz.func118, Tryz.ntmps118
 go_wp2_with fail
 obtain ⟨ob, hob⟩ : ∃ n, n = W.heap.size := ⟨_, rfl⟩
 obtain ⟨W0, hW0⟩ : ∃ w, w = W.alloc (.cells ruZ.toArray 70) := ⟨_, rfl⟩
 rw [← hW0, ← hob] at H0
 have hW0' : W0 = W.alloc (.cells #[.string ⟨#[]⟩, .string ⟨#[]⟩, .string ⟨#[]⟩, .string ⟨#[]⟩, .int .i64 0] 70) := hW0
 rw [← hW0', ← hob]
 have HOB := Lib.hid hob
 clear hW0 hW0' hob
 refine (CS.out _ H0.out.1).mono ?_
 rintro e w1 ⟨rfl, ha, hb⟩
 have H1 := Lib.hid (And.intro ha (And.intro (H0.out.2.1.trans hb) (H0.out.2.2.1.but hb (by have := H0.out.2.2.2; omega))))
 clear ha hb CS
 cases rB with
 | false =>
  have r0 := H1.out.2.2.cell 0 _ rfl
  have g0 := H1.out.2.2.frozen 0
  have r1 := H1.out.2.2.cell 1 _ rfl
  have g1 := H1.out.2.2.frozen 1
  have r2 := H1.out.2.2.cell 2 _ rfl
  have g2 := H1.out.2.2.frozen 2
  have r3 := H1.out.2.2.cell 3 _ rfl
  have g3 := H1.out.2.2.frozen 3
  have r4 := H1.out.2.2.cell 4 _ rfl
  have g4 := H1.out.2.2.frozen 4
  go_wp2_with fail
  obtain ⟨E, hE⟩ : ∃ w, w = (((((w1.setCell ⟨ob, 0, none⟩ (.string ⟨#[]⟩)).setCell ⟨ob, 1, none⟩ (.string ⟨#[]⟩)).setCell ⟨ob, 2, none⟩ (.string ⟨#[]⟩)).setCell ⟨ob, 3, none⟩ (.string ⟨#[]⟩)).setCell ⟨ob, 4, none⟩ (.int .i64 0)) := ⟨_, rfl⟩
  have hblk : Blk E ob ruZ 70 := by rw [hE]; exact (((((H1.out.2.2.set 0 _).set 1 _).set 2 _).set 3 _).set 4 _)
  have hob : But ob w1 E := by rw [hE]; exact ((((((But.refl ob w1).setCell ⟨ob, 0, none⟩ _ rfl).setCell ⟨ob, 1, none⟩ _ rfl).setCell ⟨ob, 2, none⟩ _ rfl).setCell ⟨ob, 3, none⟩ _ rfl).setCell ⟨ob, 4, none⟩ _ rfl)
  have hrd : RdAt rb s ts stop p E := RdAt.but (by simpa using H1.out.1) hob (by have := H0.out.2.2.2; have := HOB.out; omega)
  have hbE : But rb W E := H1.out.2.1.trans_other hob (by rw [HOB.out]; exact Nat.le_refl _)
  rw [hE] at hblk hrd hbE
  exact bodyPost_ret (results_cell_row_tmp1 rfl _ _ ob 70 ruZ.toArray (0, 0) _ rfl hblk Tryz.underlying70 rfl (by kernel_rfl)) rfl
   ⟨ruZ, rfl, by rw [HRR.out.1]; simp only [Bool.false_eq_true, if_false]; exact RuS.zero _ _, by rw [HRR.out.2]; simp only [Bool.false_eq_true, if_false]; exact hrd, hbE⟩
 | true =>
  have hp0 : RdAt rb s ts stop q0 w1 := by simpa using H1.out.1
  have K0 := Lib.hid (And.intro hp0 (And.intro H1.out.2.1 H1.out.2.2))
  clear hp0 H1
  go_wp2_with fail
  refine (C0.out _ K0.out.1).mono ?_
  rintro e w2 ⟨rfl, ha, hb⟩
  have K1 := Lib.hid (And.intro ha (And.intro (K0.out.2.1.trans hb) (K0.out.2.2.but hb (by have := H0.out.2.2.2; have := HOB.out; omega))))
  clear ha hb C0 K0
  go_wp2_with fail
  refine (C1.out _ K1.out.1).mono ?_
  rintro e w3 ⟨rfl, ha, hb⟩
  have K2 := Lib.hid (And.intro ha (And.intro (K1.out.2.1.trans hb) (K1.out.2.2.but hb (by have := H0.out.2.2.2; have := HOB.out; omega))))
  clear ha hb C1 K1
  go_wp2_with fail
  refine (C2.out _ K2.out.1).mono ?_
  rintro e w4 ⟨rfl, ha, hb⟩
  have K3 := Lib.hid (And.intro ha (And.intro (K2.out.2.1.trans hb) (K2.out.2.2.but hb (by have := H0.out.2.2.2; have := HOB.out; omega))))
  clear ha hb C2 K2
  go_wp2_with fail
  refine (C3.out _ K3.out.1).mono ?_
  rintro e w5 ⟨rfl, ha, hb⟩
  have K4 := Lib.hid (And.intro ha (And.intro (K3.out.2.1.trans hb) (K3.out.2.2.but hb (by have := H0.out.2.2.2; have := HOB.out; omega))))
  clear ha hb C3 K3
  go_wp2_with fail
  refine (C4.out _ K4.out.1 K4.out.2.1).mono ?_
  rintro e w6 ⟨rfl, ha, hb⟩
  have K5 := Lib.hid (And.intro ha (And.intro (K4.out.2.1.trans hb) (K4.out.2.2.but hb (by have := H0.out.2.2.2; have := HOB.out; omega))))
  clear ha hb C4 K4
  have r0 := K5.out.2.2.cell 0 _ rfl
  have g0 := K5.out.2.2.frozen 0
  have r1 := K5.out.2.2.cell 1 _ rfl
  have g1 := K5.out.2.2.frozen 1
  have r2 := K5.out.2.2.cell 2 _ rfl
  have g2 := K5.out.2.2.frozen 2
  have r3 := K5.out.2.2.cell 3 _ rfl
  have g3 := K5.out.2.2.frozen 3
  have r4 := K5.out.2.2.cell 4 _ rfl
  have g4 := K5.out.2.2.frozen 4
  go_wp2_with fail
  obtain ⟨E, hE⟩ : ∃ w, w = (((((w6.setCell ⟨ob, 0, none⟩ (.string v0)).setCell ⟨ob, 1, none⟩ (.string v1)).setCell ⟨ob, 2, none⟩ (.string v2)).setCell ⟨ob, 3, none⟩ (.string v3)).setCell ⟨ob, 4, none⟩ (.int .i64 v4)) := ⟨_, rfl⟩
  have hblk : Blk E ob [.string v0, .string v1, .string v2, .string v3, .int .i64 v4] 70 := by rw [hE]; exact (((((K5.out.2.2.set 0 _).set 1 _).set 2 _).set 3 _).set 4 _)
  have hob : But ob w6 E := by rw [hE]; exact ((((((But.refl ob w6).setCell ⟨ob, 0, none⟩ _ rfl).setCell ⟨ob, 1, none⟩ _ rfl).setCell ⟨ob, 2, none⟩ _ rfl).setCell ⟨ob, 3, none⟩ _ rfl).setCell ⟨ob, 4, none⟩ _ rfl)
  have hrd := K5.out.1.but hob (by have := H0.out.2.2.2; have := HOB.out; omega)
  have hbE : But rb W E := K5.out.2.1.trans_other hob (by rw [HOB.out]; exact Nat.le_refl _)
  rw [hE] at hblk hrd hbE
  exact bodyPost_ret (results_cell_row_tmp1 rfl _ _ ob 70 #[.string v0, .string v1, .string v2, .string v3, .int .i64 v4] (0, 0) _ rfl hblk Tryz.underlying70 rfl (by kernel_rfl)) rfl
   ⟨_, rfl, by rw [HRR.out.1]; rfl, by rw [HRR.out.2]; exact hrd, hbE⟩

set_option maxHeartbeats 8000000 in
theorem gKind_any (rb : Nat) (s : ByteArray) (ts : List (Nat × Nat)) (stop : Nat) (p : Sm.PS) (W : World) (h : RdAt rb s ts stop p W) (hD : SDoor W) (hg : doorB ≤ rb) (hs8 : ts.length ≤ 8192) (hon : ∀ q, q.i ≤ ts.length → Sm.fieldB (tokT s ts) q = true → q.i + 1 ≤ (Sm.fieldGo (tokT s ts) q).2.i ∧ (Sm.fieldGo (tokT s ts) q).2.i ≤ ts.length) :
  Calls Tryz.prog 114 #[.pointer (some ⟨rb, 0, none⟩)] W (ElA KdS rb s ts stop (Sm.elB (tokT s ts) Sm.kindWd p) (if Sm.elB (tokT s ts) Sm.kindWd p = true then (Sm.elV (Sm.kindGo (tokT s ts)) p).1 else Sm.zeroKd) (if Sm.elB (tokT s ts) Sm.kindWd p = true then (Sm.elV (Sm.kindGo (tokT s ts)) p).2 else p) W) := by
 have hr0 := h.blk.lt
 have hgs : 5 < rb := by unfold doorB at hg; omega
 have cS := fun V (hV : RdAt rb s ts stop p V) => gStarts_any rb s ts stop p V hV Sm.kindWd (by decide)
 have cN := fun q V (hV : RdAt rb s ts stop q V) => gName_any rb s ts stop q V hV
 have cO := fun q V (hV : RdAt rb s ts stop q V) => gNames_any rb s ts stop q V hV
 have cM := fun q V (hV : RdAt rb s ts stop q V) (hb : But rb W V) => gNumber_any rb s ts stop q V hV (hD.syn.below (hb.below (Nat.le_refl _) (Nat.le_of_lt hr0)) hgs) hgs
 have cL := fun q V (hV : RdAt rb s ts stop q V) (hb : But rb W V) => gListFd_any rb s ts stop q V hV hs8 158 (fun _ _ => rfl) (Sm.fieldB (tokT s ts)) (Sm.fieldGo (tokT s ts)) Sm.zeroFd (fun q' V' hV' hb' => gField_any rb s ts stop q' V' hV' (hD.below ((hb.trans hb').below (Nat.le_refl _) (Nat.le_of_lt hr0)) hg) hg) hon
 obtain ⟨T, hT⟩ : ∃ T, T = tokT s ts := ⟨_, rfl⟩
 have hTl : T.length = ts.length := by rw [hT]; unfold tokT; rw [List.length_map]
 rw [← hT]
 simp only [← hT] at cS cN cO cM cL
 obtain ⟨rB, hrB⟩ : ∃ b, b = Sm.elB T Sm.kindWd p := ⟨_, rfl⟩
 obtain ⟨rF, hrF⟩ : ∃ f, f = (if Sm.elB T Sm.kindWd p = true then (Sm.elV (Sm.kindGo T) p).1 else Sm.zeroKd) := ⟨_, rfl⟩
 obtain ⟨rP, hrP⟩ : ∃ f, f = (if Sm.elB T Sm.kindWd p = true then (Sm.elV (Sm.kindGo T) p).2 else p) := ⟨_, rfl⟩
 rw [← hrF, ← hrP, ← hrB]
 have hrB2 : Sm.eqW (Sm.look T p) Sm.kindWd = rB := hrB.symm
 rw [← hrB] at hrF hrP
 simp only [hrB2] at cS
 unfold Sm.kindWd at cS
 obtain ⟨q0, hq0⟩ : ∃ q, q = (⟨p.i + 1, p.f⟩ : Sm.PS) := ⟨_, rfl⟩
 rw [← hq0] at cS
 obtain ⟨q1, hq1⟩ : ∃ q, q = Sm.nameP T q0 := ⟨_, rfl⟩
 obtain ⟨v0, hv0⟩ : ∃ v, v = Sm.nameW T q0 := ⟨_, rfl⟩
 have c0 := fun V hV => cN q0 V hV
 simp only [← hq1, ← hv0] at c0
 obtain ⟨q2, hq2⟩ : ∃ q, q = Sm.numP T q1 := ⟨_, rfl⟩
 obtain ⟨v1, hv1⟩ : ∃ v, v = Sm.numG T q1 := ⟨_, rfl⟩
 have c1 := fun V hV hb => cM q1 V hV hb
 simp only [← hq2, ← hv1] at c1
 obtain ⟨q3, hq3⟩ : ∃ q, q = Sm.numP T q2 := ⟨_, rfl⟩
 obtain ⟨v2, hv2⟩ : ∃ v, v = Sm.numG T q2 := ⟨_, rfl⟩
 have c2 := fun V hV hb => cM q2 V hV hb
 simp only [← hq3, ← hv2] at c2
 obtain ⟨R, hR⟩ : ∃ R, R = Sm.fieldsGo T q3 := ⟨_, rfl⟩
 have c3 := fun V hV hb => cL q3 V hV hb
 have hR2 : Sm.whileB (Sm.fieldB T) (Sm.fieldGo T) (ts.length + 1) [] q3 = R := by rw [hR]; unfold Sm.fieldsGo; rw [hTl]
 simp only [hR2] at c3
 have hGo : Sm.elV (Sm.kindGo T) p = (⟨v0, v1, v2, R.1⟩, R.2) := by
  unfold Sm.elV Sm.kindGo
  rw [← hq0]
  try rw [← hv0]
  try rw [← hq1]
  try rw [← hv1]
  try rw [← hq2]
  try rw [← hv2]
  try rw [← hq3]
  rw [← hR]
 rw [hGo] at hrF hrP
 have C0 := Lib.hid c0
 have C1 := Lib.hid c1
 have C2 := Lib.hid c2
 have C3 := Lib.hid c3
 have CS := Lib.hid cS
 have HH := Lib.hid h
 have HRR := Lib.hid (And.intro hrF hrP)
 clear cS cN cO cM c0 c1 c2 c3 hq0 hq1 hq2 hq3 hv0 hv1 hv2 hR hR2 cL hon hs8 hGo hrF hrP hrB hrB2 hT hTl hD hg hgs
 have H0 := Lib.hid (show RdAt rb s ts stop p (W.alloc (.cells kdZ.toArray 63)) ∧ But rb W (W.alloc (.cells kdZ.toArray 63)) ∧ Blk (W.alloc (.cells kdZ.toArray 63)) W.heap.size kdZ 63 ∧ rb < W.heap.size from ⟨h.alloc _, But.of ((Below.refl _ _).alloc (Nat.le_refl _) _), Blk.new W kdZ _, hr0⟩)
 clear h hr0
 go_enter Tryz.func114, Tryz.ntmps114
 go_wp2_with fail
 obtain ⟨ob, hob⟩ : ∃ n, n = W.heap.size := ⟨_, rfl⟩
 obtain ⟨W0, hW0⟩ : ∃ w, w = W.alloc (.cells kdZ.toArray 63) := ⟨_, rfl⟩
 rw [← hW0, ← hob] at H0
 have hW0' : W0 = W.alloc (.cells #[.string ⟨#[]⟩, .int .i64 0, .int .i64 0, .slice none 0 0] 63) := hW0
 rw [← hW0', ← hob]
 have HOB := Lib.hid hob
 clear hW0 hW0' hob
 refine (CS.out _ H0.out.1).mono ?_
 rintro e w1 ⟨rfl, ha, hb⟩
 have H1 := Lib.hid (And.intro ha (And.intro (H0.out.2.1.trans hb) (H0.out.2.2.1.but hb (by have := H0.out.2.2.2; omega))))
 clear ha hb CS
 cases rB with
 | false =>
  have r0 := H1.out.2.2.cell 0 _ rfl
  have g0 := H1.out.2.2.frozen 0
  have r1 := H1.out.2.2.cell 1 _ rfl
  have g1 := H1.out.2.2.frozen 1
  have r2 := H1.out.2.2.cell 2 _ rfl
  have g2 := H1.out.2.2.frozen 2
  have r3 := H1.out.2.2.cell 3 _ rfl
  have g3 := H1.out.2.2.frozen 3
  go_wp2_with fail
  obtain ⟨E, hE⟩ : ∃ w, w = ((((w1.setCell ⟨ob, 0, none⟩ (.string ⟨#[]⟩)).setCell ⟨ob, 1, none⟩ (.int .i64 0)).setCell ⟨ob, 2, none⟩ (.int .i64 0)).setCell ⟨ob, 3, none⟩ (.slice none 0 0)) := ⟨_, rfl⟩
  have hblk : Blk E ob kdZ 63 := by rw [hE]; exact ((((H1.out.2.2.set 0 _).set 1 _).set 2 _).set 3 _)
  have hob : But ob w1 E := by rw [hE]; exact (((((But.refl ob w1).setCell ⟨ob, 0, none⟩ _ rfl).setCell ⟨ob, 1, none⟩ _ rfl).setCell ⟨ob, 2, none⟩ _ rfl).setCell ⟨ob, 3, none⟩ _ rfl)
  have hrd : RdAt rb s ts stop p E := RdAt.but (by simpa using H1.out.1) hob (by have := H0.out.2.2.2; have := HOB.out; omega)
  have hbE : But rb W E := H1.out.2.1.trans_other hob (by rw [HOB.out]; exact Nat.le_refl _)
  rw [hE] at hblk hrd hbE
  exact bodyPost_ret (results_cell_row_tmp1 rfl _ _ ob 63 kdZ.toArray (0, 0) _ rfl hblk Tryz.underlying63 rfl (by kernel_rfl)) rfl
   ⟨kdZ, rfl, by rw [HRR.out.1]; simp only [Bool.false_eq_true, if_false]; exact KdS.zero _ _, by rw [HRR.out.2]; simp only [Bool.false_eq_true, if_false]; exact hrd, hbE⟩
 | true =>
  have hp0 : RdAt rb s ts stop q0 w1 := by simpa using H1.out.1
  have K0 := Lib.hid (And.intro hp0 (And.intro H1.out.2.1 H1.out.2.2))
  clear hp0 H1
  go_wp2_with fail
  refine (C0.out _ K0.out.1).mono ?_
  rintro e w2 ⟨rfl, ha, hb⟩
  have K1 := Lib.hid (And.intro ha (And.intro (K0.out.2.1.trans hb) (K0.out.2.2.but hb (by have := H0.out.2.2.2; have := HOB.out; omega))))
  clear ha hb C0 K0
  go_wp2_with fail
  refine (C1.out _ K1.out.1 K1.out.2.1).mono ?_
  rintro e w3 ⟨rfl, ha, hb⟩
  have K2 := Lib.hid (And.intro ha (And.intro (K1.out.2.1.trans hb) (K1.out.2.2.but hb (by have := H0.out.2.2.2; have := HOB.out; omega))))
  clear ha hb C1 K1
  go_wp2_with fail
  refine (C2.out _ K2.out.1 K2.out.2.1).mono ?_
  rintro e w4 ⟨rfl, ha, hb⟩
  have K3 := Lib.hid (And.intro ha (And.intro (K2.out.2.1.trans hb) (K2.out.2.2.but hb (by have := H0.out.2.2.2; have := HOB.out; omega))))
  clear ha hb C2 K2
  go_wp2_with fail
  refine (C3.out _ K3.out.1 K3.out.2.1).mono ?_
  rintro e w5 ⟨Af, cf, rfl, hrows, hl1, hl2, ha, hb⟩
  obtain ⟨nf, hnf⟩ : ∃ n, n = R.1.length := ⟨_, rfl⟩
  rw [← hnf] at hl1 ⊢
  have HF := Lib.hid (And.intro hrows (And.intro hl1 (And.intro hl2 (And.intro hnf (show ob < w4.heap.size from K3.out.2.2.lt)))))
  have HSZ := Lib.hid K3.out.2.1.size
  clear hrows hl1 hl2 hnf
  have K4 := Lib.hid (And.intro ha (And.intro (K3.out.2.1.trans hb) (K3.out.2.2.but hb (by have := H0.out.2.2.2; have := HOB.out; omega))))
  clear ha hb C3 K3
  have r0 := K4.out.2.2.cell 0 _ rfl
  have g0 := K4.out.2.2.frozen 0
  have r1 := K4.out.2.2.cell 1 _ rfl
  have g1 := K4.out.2.2.frozen 1
  have r2 := K4.out.2.2.cell 2 _ rfl
  have g2 := K4.out.2.2.frozen 2
  have r3 := K4.out.2.2.cell 3 _ rfl
  have g3 := K4.out.2.2.frozen 3
  go_wp2_with fail
  obtain ⟨E, hE⟩ : ∃ w, w = ((((w5.setCell ⟨ob, 0, none⟩ (.string v0)).setCell ⟨ob, 1, none⟩ (.int .i64 v1)).setCell ⟨ob, 2, none⟩ (.int .i64 v2)).setCell ⟨ob, 3, none⟩ (.slice Af nf cf)) := ⟨_, rfl⟩
  have hblk : Blk E ob [.string v0, .int .i64 v1, .int .i64 v2, .slice Af nf cf] 63 := by rw [hE]; exact ((((K4.out.2.2.set 0 _).set 1 _).set 2 _).set 3 _)
  have hob : But ob w5 E := by rw [hE]; exact (((((But.refl ob w5).setCell ⟨ob, 0, none⟩ _ rfl).setCell ⟨ob, 1, none⟩ _ rfl).setCell ⟨ob, 2, none⟩ _ rfl).setCell ⟨ob, 3, none⟩ _ rfl)
  have hrd := K4.out.1.but hob (by have := H0.out.2.2.2; have := HOB.out; omega)
  have hbE : But rb W E := K4.out.2.1.trans_other hob (by rw [HOB.out]; exact Nat.le_refl _)
  have hks : KeepS (Fresh w4 w5) w5 E := fun a ha => hob.cell ha.2 (by have := ha.1; have := HF.out.2.2.2.2; omega)
  have hmo : ∀ k, Fresh w4 w5 k → Fresh W E k := fun k hk => ⟨Nat.le_trans HSZ.out hk.1, Nat.lt_of_lt_of_le hk.2 hob.size⟩
  have hrow := (HF.out.1.keep hks fun _ _ h => h.keep hks).mono hmo fun _ _ h => h.mono hmo
  rw [hE] at hrow
  rw [hE] at hblk hrd hbE
  exact bodyPost_ret (results_cell_row_tmp1 rfl _ _ ob 63 #[.string v0, .int .i64 v1, .int .i64 v2, .slice Af nf cf] (0, 0) _ rfl hblk Tryz.underlying63 rfl (by kernel_rfl)) rfl
   ⟨_, rfl, by rw [HRR.out.1]; exact ⟨Af, cf, by rw [HF.out.2.2.2.1]; rfl, hrow, by show R.1.length ≤ cf; rw [← HF.out.2.2.2.1]; exact HF.out.2.1, HF.out.2.2.1⟩, by rw [HRR.out.2]; exact hrd, hbE⟩
end Go.Proofs.YtkgddcemocfgfaaGreatDoor
end

