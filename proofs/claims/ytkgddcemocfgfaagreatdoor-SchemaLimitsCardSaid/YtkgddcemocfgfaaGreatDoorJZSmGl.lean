import Derived.Test.YtkgddcemocfgfaaGreatDoorJZSmGk

section
/- The program's reader: life. -/

namespace Go.Proofs.YtkgddcemocfgfaaGreatDoor
open Go.RowKit
set_option linter.unusedVariables false
set_option linter.unusedSimpArgs false
set_option maxRecDepth 100000

namespace Sm
def statesG (T : List ByteArray) : Nat → List ByteArray → PS → List ByteArray × PS
 | 0, a, p => (a, p)
 | n + 1, a, p => statesG T n (a ++ [nameW T p]) (nameP T p)
theorem statesG_next (T : List ByteArray) (n : Nat) (a : List ByteArray) (p : PS) : statesG T (n + 1) a p = statesG T n (a ++ [nameW T p]) (nameP T p) := rfl
def movesGo (T : List ByteArray) (p : PS) : List (Int × Int) × PS := whileB (elB T moveWd) (elV (moveGo T)) (T.length + 1) [] p
def statesGo (T : List ByteArray) (p : PS) : List ByteArray × PS := statesG T (cntG T (nameP T p)).toNat [] (cntP T (nameP T p))
def lifeGo (T : List ByteArray) (p : PS) : Lf × PS := (⟨nameW T p, (statesGo T p).1, (movesGo T (statesGo T p).2).1⟩, (movesGo T (statesGo T p).2).2)
end Sm
theorem LfS.zero (S : Nat → Prop) (w : World) : LfS S w Sm.zeroLf lfZ := ⟨none, 0, none, 0, rfl, RdS.nil, RdS.nil, Nat.le_refl _, Nat.zero_le _, Nat.le_refl _, Nat.zero_le _⟩
theorem rows_mv {S S' : Nat → Prop} {w : World} {A : Option Addr} {l : List (Int × Int)} (h : RowsS S (MvS S') w A l) : RdS S w A (Sm.moveC l) := by
 obtain ⟨cs, h1, h2, h3⟩ := h
 have e : cs.flatten = Sm.moveC l := by
  clear h3
  induction l generalizing cs with
  | nil => rw [List.eq_nil_of_length_eq_zero h1]; rfl
  | cons a t ih =>
   cases cs with
   | nil => simp at h1
   | cons c cs =>
    have hc : c = [.int .i64 a.1, .int .i64 a.2] := h2 0 a c rfl rfl
    have := ih cs (by simpa using h1) (fun i x y hx hy => h2 (i + 1) x y hx hy)
    rw [List.flatten_cons, this, hc]
    rfl
 rw [← e]
 exact h3
/-- life under way. -/
structure GlSt (rb : Nat) (s : ByteArray) (ts : List (Nat × Nat)) (stop : Nat) (W : World) (ob fb : Nat) (p : Sm.PS) (cs : List Value) (w : World) : Prop where
 pa : RdAt rb s ts stop p w
 but : But rb W w
 fld : Blk w fb cs 67
 res : Blk w ob lfZ 67
 news : rb < W.heap.size ∧ W.heap.size ≤ ob ∧ ob < fb
section
variable {rb : Nat} {s : ByteArray} {ts : List (Nat × Nat)} {stop : Nat} {W : World} {ob fb : Nat} {p p' : Sm.PS} {cs : List Value} {w w' : World} {row : Option Nat}
theorem GlSt.call (h : GlSt rb s ts stop W ob fb p cs w) (ha : RdAt rb s ts stop p' w') (hb : But rb w w') : GlSt rb s ts stop W ob fb p' cs w' :=
 ⟨ha, h.but.trans hb, h.fld.but hb (by have := h.news; omega), h.res.but hb (by have := h.news; omega), h.news⟩
theorem GlSt.set (h : GlSt rb s ts stop W ob fb p cs w) (j : Nat) (v : Value) : GlSt rb s ts stop W ob fb p (cs.set j v) (w.setCell ⟨fb, j, none⟩ v) :=
 ⟨h.pa.set _ _ (by have := h.news; show rb ≠ fb; omega), h.but.other _ _ (by have := h.news; show W.heap.size ≤ fb; omega), h.fld.set j v, h.res.other _ _ (by have := h.news; show ob ≠ fb; omega), h.news⟩
theorem GlSt.grown (h : GlSt rb s ts stop W ob fb p cs w) (hg : w.grownBy w' row) (hr : ∀ k, row = some k → fb < k) : GlSt rb s ts stop W ob fb p cs w' :=
 ⟨h.pa.grown hg (fun k hk => by have := hr k hk; have := h.news; omega), h.but.grown hg (fun k hk => by have := hr k hk; have := h.news; omega), h.fld.grown hg (fun x => by have := hr _ x; omega), h.res.grown hg (fun x => by have := hr _ x; have := h.news; omega), h.news⟩
end

set_option maxHeartbeats 8000000 in
theorem gLife_any (rb : Nat) (s : ByteArray) (ts : List (Nat × Nat)) (stop : Nat) (p : Sm.PS) (W : World) (h : RdAt rb s ts stop p W) (hD : SDoor W) (hg : doorB ≤ rb) (hs8 : ts.length ≤ 8192)
  (hon : ∀ q, q.i ≤ ts.length → Sm.elB (tokT s ts) Sm.moveWd q = true → q.i + 1 ≤ (Sm.elV (Sm.moveGo (tokT s ts)) q).2.i ∧ (Sm.elV (Sm.moveGo (tokT s ts)) q).2.i ≤ ts.length) :
  Calls Tryz.prog 116 #[.pointer (some ⟨rb, 0, none⟩)] W (ElA LfS rb s ts stop (Sm.elB (tokT s ts) Sm.lifeWd p) (if Sm.elB (tokT s ts) Sm.lifeWd p = true then (Sm.elV (Sm.lifeGo (tokT s ts)) p).1 else Sm.zeroLf) (if Sm.elB (tokT s ts) Sm.lifeWd p = true then (Sm.elV (Sm.lifeGo (tokT s ts)) p).2 else p) W) := by
 have hr0 := h.blk.lt
 have hgs : 5 < rb := by unfold doorB at hg; omega
 have cS := fun V (hV : RdAt rb s ts stop p V) => gStarts_any rb s ts stop p V hV Sm.lifeWd (by decide)
 have cN := fun q V (hV : RdAt rb s ts stop q V) => gName_any rb s ts stop q V hV
 have cC := fun q V (hV : RdAt rb s ts stop q V) (hb : But rb W V) => gCount_any rb s ts stop q V hV (hD.syn.below (hb.below (Nat.le_refl _) (Nat.le_of_lt hr0)) hgs) hgs
 have cL := fun q V (hV : RdAt rb s ts stop q V) (hb : But rb W V) => gListMv_any rb s ts stop q V hV hs8 161 (fun _ _ => rfl) (Sm.elB (tokT s ts) Sm.moveWd) (Sm.elV (Sm.moveGo (tokT s ts))) (0, 0) (fun q' V' hV' hb' => gMove_any rb s ts stop q' V' hV' (hD.below ((hb.trans hb').below (Nat.le_refl _) (Nat.le_of_lt hr0)) hg) hg) hon
 obtain ⟨T, hT⟩ : ∃ T, T = tokT s ts := ⟨_, rfl⟩
 have hTl : T.length = ts.length := by rw [hT]; unfold tokT; rw [List.length_map]
 rw [← hT]
 simp only [← hT] at cS cN cC cL
 obtain ⟨rB, hrB⟩ : ∃ b, b = Sm.elB T Sm.lifeWd p := ⟨_, rfl⟩
 obtain ⟨rF, hrF⟩ : ∃ f, f = (if Sm.elB T Sm.lifeWd p = true then (Sm.elV (Sm.lifeGo T) p).1 else Sm.zeroLf) := ⟨_, rfl⟩
 obtain ⟨rP, hrP⟩ : ∃ f, f = (if Sm.elB T Sm.lifeWd p = true then (Sm.elV (Sm.lifeGo T) p).2 else p) := ⟨_, rfl⟩
 rw [← hrF, ← hrP, ← hrB]
 have hrB2 : Sm.eqW (Sm.look T p) Sm.lifeWd = rB := hrB.symm
 rw [← hrB] at hrF hrP
 simp only [hrB2] at cS
 unfold Sm.lifeWd at cS
 obtain ⟨q0, hq0⟩ : ∃ q, q = (⟨p.i + 1, p.f⟩ : Sm.PS) := ⟨_, rfl⟩
 rw [← hq0] at cS
 obtain ⟨q1, hq1⟩ : ∃ q, q = Sm.nameP T q0 := ⟨_, rfl⟩
 obtain ⟨n1, hn1⟩ : ∃ v, v = Sm.nameW T q0 := ⟨_, rfl⟩
 obtain ⟨q2, hq2⟩ : ∃ q, q = Sm.cntP T q1 := ⟨_, rfl⟩
 obtain ⟨cn, hcn⟩ : ∃ v, v = Sm.cntG T q1 := ⟨_, rfl⟩
 have hc12 : cn ≤ 12 := by rw [hcn]; exact Sm.cntG_le T q1
 have c1 := fun V hV => cN q0 V hV
 simp only [← hq1, ← hn1] at c1
 have c2 := fun V hV hb => cC q1 V hV hb
 simp only [← hq2, ← hcn] at c2
 obtain ⟨R1, hR1⟩ : ∃ R, R = Sm.statesG T cn.toNat [] q2 := ⟨_, rfl⟩
 obtain ⟨R, hR⟩ : ∃ R, R = Sm.movesGo T R1.2 := ⟨_, rfl⟩
 have c3 := fun V hV hb => cL R1.2 V hV hb
 have hR2 : Sm.whileB (Sm.elB T Sm.moveWd) (Sm.elV (Sm.moveGo T)) (ts.length + 1) [] R1.2 = R := by rw [hR]; unfold Sm.movesGo; rw [hTl]
 simp only [hR2] at c3
 have hGo : Sm.elV (Sm.lifeGo T) p = (⟨n1, R1.1, R.1⟩, R.2) := by
  unfold Sm.elV Sm.lifeGo Sm.statesGo
  rw [← hq0, ← hn1, ← hq1, ← hcn, ← hq2, ← hR1, ← hR]
 rw [hGo] at hrF hrP
 have C1 := Lib.hid c1
 have C2 := Lib.hid c2
 have C3 := Lib.hid c3
 have CN := Lib.hid cN
 have CS := Lib.hid cS
 have HRR := Lib.hid (And.intro hrF hrP)
 have HR1 := Lib.hid hR1
 have HC12 := Lib.hid hc12
 have H0 := Lib.hid (show RdAt rb s ts stop p (W.alloc (.cells lfZ.toArray 67)) ∧ But rb W (W.alloc (.cells lfZ.toArray 67)) ∧ Blk (W.alloc (.cells lfZ.toArray 67)) W.heap.size lfZ 67 ∧ rb < W.heap.size from ⟨h.alloc _, But.of ((Below.refl _ _).alloc (Nat.le_refl _) _), Blk.new W lfZ _, hr0⟩)
 clear cS cN cC cL c1 c2 c3 hGo hrF hrP hrB hrB2 hT hTl hD hg hgs hq0 hq1 hn1 hq2 hcn hR1 hR hR2 hon hs8 hc12 h hr0
 go_enter Tryz.func116, Tryz.ntmps116
 go_wp2_with fail
 obtain ⟨ob, hob⟩ : ∃ n, n = W.heap.size := ⟨_, rfl⟩
 obtain ⟨W0, hW0⟩ : ∃ w, w = W.alloc (.cells lfZ.toArray 67) := ⟨_, rfl⟩
 rw [← hW0, ← hob] at H0
 have hW0' : W0 = W.alloc (.cells #[.string ⟨#[]⟩, .slice none 0 0, .slice none 0 0] 67) := hW0
 rw [← hW0', ← hob]
 have HOB := Lib.hid hob
 clear hW0 hW0' hob
 refine (CS.out _ H0.out.1).mono ?_
 rintro e w1 ⟨rfl, ha, hb⟩
 have H1 := Lib.hid (And.intro ha (And.intro (H0.out.2.1.trans hb) (H0.out.2.2.1.but hb (by have := H0.out.2.2.2; omega))))
 clear ha hb CS
 cases rB with
 | false =>
  have r0 := H1.out.2.2.cell 0 _ rfl
  have g0 := H1.out.2.2.frozen 0
  have r1 := H1.out.2.2.cell 1 _ rfl
  have g1 := H1.out.2.2.frozen 1
  have r2 := H1.out.2.2.cell 2 _ rfl
  have g2 := H1.out.2.2.frozen 2
  go_wp2_with fail
  obtain ⟨E, hE⟩ : ∃ w, w = ((w1.setCell ⟨ob, 0, none⟩ (.string ⟨#[]⟩)).setCell ⟨ob, 1, none⟩ (.slice none 0 0)).setCell ⟨ob, 2, none⟩ (.slice none 0 0) := ⟨_, rfl⟩
  have hblk : Blk E ob lfZ 67 := by rw [hE]; exact ((H1.out.2.2.set 0 _).set 1 _).set 2 _
  have hob : But ob w1 E := by rw [hE]; exact (((But.refl ob w1).setCell ⟨ob, 0, none⟩ _ rfl).setCell ⟨ob, 1, none⟩ _ rfl).setCell ⟨ob, 2, none⟩ _ rfl
  have hrd : RdAt rb s ts stop p E := RdAt.but (by simpa using H1.out.1) hob (by have := H0.out.2.2.2; have := HOB.out; omega)
  have hbE : But rb W E := H1.out.2.1.trans_other hob (by rw [HOB.out]; exact Nat.le_refl _)
  rw [hE] at hblk hrd hbE
  exact bodyPost_ret (results_cell_row_tmp1 rfl _ _ ob 67 lfZ.toArray (0, 0) _ rfl hblk Tryz.underlying67 rfl (by kernel_rfl)) rfl
   ⟨lfZ, rfl, by rw [HRR.out.1]; simp only [Bool.false_eq_true, if_false]; exact LfS.zero _ _, by rw [HRR.out.2]; simp only [Bool.false_eq_true, if_false]; exact hrd, hbE⟩
 | true =>
  have hp0 : RdAt rb s ts stop q0 w1 := by simpa using H1.out.1
  have K0 := Lib.hid (And.intro hp0 (And.intro H1.out.2.1 H1.out.2.2))
  clear hp0 H1
  go_wp2_with fail
  refine (C1.out _ K0.out.1).mono ?_
  rintro e w2 ⟨rfl, ha, hb⟩
  have hst : GlSt rb s ts stop W ob w2.heap.size q1 [.string n1, .slice none 0 0, .slice none 0 0] (w2.alloc (.cells #[.string n1, .slice none 0 0, .slice none 0 0] 67)) := by
   have hres := K0.out.2.2.but hb (by have := H0.out.2.2.2; have := HOB.out; omega)
   exact ⟨ha.alloc _, (K0.out.2.1.trans hb).trans (But.of ((Below.refl _ _).alloc (Nat.le_refl _) _)), Blk.new w2 [.string n1, .slice none 0 0, .slice none 0 0] _, hres.alloc _, by rw [← HOB.out]; exact H0.out.2.2.2, by rw [HOB.out]; exact Nat.le_refl _, hres.lt⟩
  have HS := Lib.hid hst
  clear ha hb C1 K0 hst
  go_wp2_with fail
  obtain ⟨fb, hfb⟩ : ∃ n, n = w2.heap.size := ⟨_, rfl⟩
  obtain ⟨w3, hw3⟩ : ∃ w, w = w2.alloc (.cells #[.string n1, .slice none 0 0, .slice none 0 0] 67) := ⟨_, rfl⟩
  rw [← hfb, ← hw3] at HS ⊢
  clear hfb hw3
  refine (C2.out _ HS.out.pa HS.out.but).mono ?_
  rintro e w4 ⟨rfl, ha, hb⟩
  have hst := HS.out.call ha hb
  have HS1 := Lib.hid hst
  clear HS ha hb hst C2
  obtain ⟨j0, hj0, hy0, hy1, hy2⟩ := info_parts pa_info_str
  have HJ := Lib.hid (And.intro hj0 (And.intro hy0 (And.intro hy1 hy2)))
  clear hj0 hy0 hy1 hy2
  have HPB := Lib.hid (show rb < W.heap.size by rw [← HOB.out]; exact H0.out.2.2.2)
  go_wp2_with fail
  go_loopw [14] (fun i wr => ∃ (k : Nat) (q : Sm.PS) (vs : Value) (L : List ByteArray), i = .int .i64 k ∧ GlSt rb s ts stop W ob fb q [.string n1, vs, .slice none 0 0] wr ∧ wr.ownsRow (fb + 1) 9 1 vs L.length (L.map sv) ∧ R1 = Sm.statesG T (cn.toNat - k) L q ∧ L.length = k ∧ k ≤ 12) (fun i _ => 13 - (intOf i).toNat)
  case atStart => exact ⟨0, q2, _, [], rfl, HS1.out, World.ownsRow_nil _ _ _ _, HR1.out, rfl, by omega⟩
  case round =>
   clear HS1
   obtain ⟨k, q, vs, L, rfl, hst, how, hR, hL, hk12⟩ := hrel
   obtain ⟨x5, rfl⟩ : ∃ x5 : World, x5 = wr := ⟨_, rfl⟩
   have HK := Lib.hid (And.intro hst how)
   clear hst how
   have hcn := HC12.out
   by_cases hlt : (k : Int) < cn
   ·have HCN := Lib.hid hcn
    have hpn := Sm.statesG_next T (cn.toNat - (k + 1)) L q
    rw [show cn.toNat - (k + 1) + 1 = cn.toNat - k by omega] at hpn
    rw [hpn] at hR
    have cN := fun V hV => CN.out q V hV
    obtain ⟨nn, hnn⟩ : ∃ n, n = Sm.nameW T q := ⟨_, rfl⟩
    obtain ⟨qb, hqb⟩ : ∃ z, z = Sm.nameP T q := ⟨_, rfl⟩
    simp only [← hnn, ← hqb] at cN
    rw [← hnn, ← hqb] at hR
    have CNq := Lib.hid cN
    have HX := Lib.hid (And.intro hR hL)
    clear cN hR hL hnn hqb hpn
    go_wp2_with fail
    try go_frame
    refine wp_region_statelist [16, 17, 18, 19, 20] (fun d _ w' => But rb x5 w' ∧ RdAt rb s ts stop (if d 3 = true then qb else q) w') (fun w' w'' => But rb w' w'' ∧ w'.heap.size ≤ w''.heap.size) [fun u _ => u = .pointer (some ⟨fb, 1, none⟩), fun u _ => u = vs, fun u _ => u = .pointer (some ⟨rb, 0, none⟩), fun u _ => u = .string nn, fun u w' => ∃ g, u = .slice (some ⟨g, 0, none⟩) 1 1 ∧ w'.cell? ⟨g, 0, none⟩ = some (.string nn) ∧ x5.heap.size ≤ g ∧ g < w'.heap.size]
     (by
      intro f hf u w' w'' h hr
      simp only [List.mem_cons, List.not_mem_nil, or_false] at hf
      rcases hf with rfl | rfl | rfl | rfl | rfl
      ·exact h
      ·exact h
      ·exact h
      ·exact h
      ·obtain ⟨g, h1, h2, h3, h4⟩ := h
       exact ⟨g, h1, (hr.1.cell (p := ⟨g, 0, none⟩) h4 (by show g ≠ rb; have := HPB.out; have := HK.out.1.but.size; omega)).trans h2, h3, Nat.lt_of_lt_of_le h4 hr.2⟩)
     (fun _ => ⟨(But.refl rb x5).drewn, HK.out.1.pa.drew⟩) (by kernel_rfl) (by kernel_rfl) ?_ ?_
    ·intro y hy d vals b w' hJ hu hd hall hx o ho
     match y, hy with
     | 0, _ =>
      obtain rfl := Option.some.inj ho
      have e : b.tmps.getD 4 undef = .pointer (some ⟨fb, 0, none⟩) := hx 4 rfl
      have hr := run_field_life w' fb 1 (by decide)
      rw [← e] at hr
      exact runs_value rfl hr ⟨rfl, ⟨But.refl _ _, Nat.le_refl _⟩, hJ⟩
     | 1, _ =>
      obtain rfl := Option.some.inj ho
      have e : b.tmps.getD 16 undef = .pointer (some ⟨fb, 1, none⟩) := (hd 0 (by kernel_rfl) (by decide)).2
      have hr := run_load_strs w' ⟨fb, 1, none⟩ vs ((HK.out.1.fld.but hJ.1 (by have := HK.out.1.news; omega)).cell 1 _ rfl)
      rw [← e] at hr
      exact runs_value rfl hr ⟨rfl, ⟨But.refl _ _, Nat.le_refl _⟩, hJ⟩
     | 2, _ =>
      obtain rfl := Option.some.inj ho
      exact ⟨hx 0 rfl, ⟨But.refl _ _, Nat.le_refl _⟩, hJ⟩
     | 3, _ =>
      obtain rfl := Option.some.inj ho
      have hu : d 3 = false := hu
      have e : b.tmps.getD 18 undef = .pointer (some ⟨rb, 0, none⟩) := (hd 2 (by kernel_rfl) (by decide)).2
      have hpa := hJ.2
      rw [hu] at hpa
      refine runs_call rfl (fun _ _ => rfl) ?_
      show Calls _ _ #[b.tmps.getD 18 undef] w' _
      rw [e]
      exact (CNq.out w' hpa).mono fun e w'' h => ⟨_, h.1, rfl, ⟨h.2.2, h.2.2.size⟩, hJ.1.trans h.2.2, h.2.1⟩
     | 4, _ =>
      obtain rfl := Option.some.inj ho
      have e : b.tmps.getD 19 undef = .string nn := (hd 3 (by kernel_rfl) (by decide)).2
      have hbs := run_build_str w' nn
      have hbel : Below w'.heap.size w' (w'.alloc (.cells #[.string nn] 9)) := (Below.refl _ _).alloc (Nat.le_refl _) _
      refine runs_value (X := Instr.buildSlice 45 1 #[(0, b.tmps.getD 19 undef)]) (by unfold execOp; simp [Act.eval]) (by rw [e]; exact hbs) ⟨⟨w'.heap.size, rfl, (Blk.new w' [.string nn] 9).cell 0 _ rfl, hJ.1.size, by rw [World.size_alloc]; omega⟩, ⟨But.of hbel, hbel.size⟩, hJ.1.trans (But.of hbel), hJ.2.below hbel⟩
    ·intro d vals w' hJ hall hf
     have v1 : vals 1 = vs := hf 1 (by decide)
     obtain ⟨g, v4, hcg, hg1, hg2⟩ := hf 4 (by decide)
     have hpa := hJ.2
     rw [hall 3 (by decide)] at hpa
     have hpa : RdAt rb s ts stop qb w' := hpa
     simp only [puts, List.length_cons, List.length_nil, Nat.zero_add, Nat.reduceAdd, List.drop_succ_cons, List.drop_zero, v1, v4]
     have hst := HK.out.1.call hpa hJ.1
     have how := own_but HK.out.2 hJ.1 (by have := HK.out.1.news; omega)
     have hg3 : fb + 1 ≤ w'.heap.size := hst.fld.lt
     have H8 := Lib.hid (And.intro hst (And.intro how (And.intro hg3 (And.intro hcg (And.intro hg1 hg2)))))
     clear v1 v4 hst how hcg hpa hJ hall hf
     try go_frame
     refine wpList_append_own_at _ rfl (.tmp 17) (.tmp 20) 45 rfl (fb + 1) 9 j0 (.string ByteArray.empty) 1 16 Tryz.underlying45 HJ.out.1 HJ.out.2.1 HJ.out.2.2.1 HJ.out.2.2.2 rfl (by decide) vs L.length (L.map sv) rfl H8.out.2.1 ⟨g, 0, none⟩ 1 1 [.string nn] rfl rfl (by
      intro j u hj
      match j, hj with
      | 0, hj => obtain rfl := Option.some.inj hj; exact H8.out.2.2.2.1
      | j + 1, hj => simp at hj) (by intro u hu; simp at hu; subst hu; rfl) (by rw [HX.out.2]; unfold maxLen; omega) (by rw [HX.out.2]; omega) H8.out.2.2.1 ?_
     intro v' w4 hown' hgrow _ hat
     have HA := Lib.hid (And.intro hown' (And.intro hgrow hat))
     clear hown' hgrow hat
     have hva := H8.out.1.grown HA.out.2.1 (fun j hj => by have := (H8.out.2.1.lt j hj).1; omega)
     obtain ⟨nl, hnl⟩ : ∃ n, n = L.length + 1 := ⟨_, rfl⟩
     have hown := HA.out.1
     rw [← hnl] at hown
     obtain ⟨Av, cv, rfl, -, -, -⟩ := own_rdS hown
     have HNL := Lib.hid hnl
     clear hown hnl
     have c1 := hva.fld.cell 1 _ rfl
     have f1 := hva.fld.frozen 1
     have HD4 := Lib.hid hva
     clear hva
     go_wp2_with fail
     refine ⟨⟨k + 1, qb, .slice Av nl cv, L ++ [nn], by go_num, HD4.out.set 1 _, own_setCell ?_ _ _ (Nat.lt_succ_self fb), HX.out.1, by rw [List.length_append, HX.out.2]; rfl, by omega⟩, by simp [intOf]; omega⟩
     rw [List.length_append, List.map_append]; exact HA.out.1
   ·have hRR : R1 = (L, q) := by rw [hR, show cn.toNat - k = 0 by omega]; rfl
    have HRR1 := Lib.hid hRR
    clear hR hL hRR CN
    obtain ⟨ns, hns⟩ : ∃ n, n = L.length := ⟨_, rfl⟩
    have how := HK.out.2
    rw [← hns] at how
    obtain ⟨As, cs, rfl, hs1, hs2, hs3⟩ := own_rdB how
    have HF := Lib.hid (And.intro hs1 (And.intro hs2 (And.intro hs3 hns)))
    clear how hs1 hs2 hs3 hns
    have c3 := C3.out
    rw [HRR1.out] at c3
    have C3q := Lib.hid c3
    clear c3 C3
    go_wp2_with fail
    refine (C3q.out _ HK.out.1.pa HK.out.1.but).mono ?_
    rintro e x6 ⟨Am, cm, rfl, hrows, hl1, hl2, ha, hb⟩
    obtain ⟨nm, hnm⟩ : ∃ n, n = R.1.length := ⟨_, rfl⟩
    rw [← hnm] at hl1 ⊢
    have hst := HK.out.1.call ha hb
    have hsrd : RdS (fun k => fb + 1 ≤ k ∧ k < x5.heap.size) x6 As (L.map sv) := HF.out.1.keep fun a ha => hb.cell ha.2 (by have := ha.1; have := HK.out.1.news; omega)
    have H6 := Lib.hid (And.intro hst (And.intro hsrd (And.intro (rows_mv hrows) (And.intro hl1 (And.intro hl2 (And.intro hnm hb.size))))))
    have c2 := hst.fld.cell 2 _ rfl
    have f2 := hst.fld.frozen 2
    have d0 := hst.fld.cell 0 _ rfl
    have d1 := hst.fld.cell 1 _ rfl
    have r0 := hst.res.cell 0 _ rfl
    have r1 := hst.res.cell 1 _ rfl
    have r2 := hst.res.cell 2 _ rfl
    have g0 := hst.res.frozen 0
    have g1 := hst.res.frozen 1
    have g2 := hst.res.frozen 2
    have hnr : ob ≠ fb := by have := hst.news; omega
    have hst7 := hst.set 2 (.slice Am nm cm)
    have HS7 := Lib.hid hst7
    clear hst hsrd hrows hl1 hl2 hnm ha hb hst7 C3q
    go_wp2_with fail
    obtain ⟨x7, hx7⟩ : ∃ w, w = x6.setCell ⟨fb, 2, none⟩ (.slice Am nm cm) := ⟨_, rfl⟩
    rw [← hx7] at HS7
    obtain ⟨E, hE⟩ : ∃ w, w = ((x7.setCell ⟨ob, 0, none⟩ (.string n1)).setCell ⟨ob, 1, none⟩ (.slice As ns cs)).setCell ⟨ob, 2, none⟩ (.slice Am nm cm) := ⟨_, rfl⟩
    have hblk : Blk E ob [.string n1, .slice As ns cs, .slice Am nm cm] 67 := by rw [hE]; exact ((HS7.out.res.set 0 _).set 1 _).set 2 _
    have hob : But ob x7 E := by rw [hE]; exact (((But.refl ob x7).setCell ⟨ob, 0, none⟩ _ rfl).setCell ⟨ob, 1, none⟩ _ rfl).setCell ⟨ob, 2, none⟩ _ rfl
    have hrd := HS7.out.pa.but hob (by have := HS7.out.news; omega)
    have hbE : But rb W E := HS7.out.but.trans_other hob (by rw [HOB.out]; exact Nat.le_refl _)
    have hsz7 : x7.heap.size = x6.heap.size := by rw [hx7, size_setCell]
    have hb67 : But fb x6 x7 := by rw [hx7]; exact (But.refl fb x6).setCell _ _ rfl
    have hks1 : KeepS (fun k => fb + 1 ≤ k ∧ k < x5.heap.size) x6 E := fun a ha => by
     have h56 := H6.out.2.2.2.2.2.2
     have h1 := ha.1
     have h2 := ha.2
     exact (hob.cell (by rw [hsz7]; omega) (by have := HS7.out.news; omega)).trans (hb67.cell (by omega) (by omega))
    have hks2 : KeepS (Fresh x5 x6) x6 E := fun a ha => by
     have h1 := ha.1
     have h2 := ha.2
     have h3 := HK.out.1.fld.lt
     exact (hob.cell (by rw [hsz7]; exact h2) (by have := HS7.out.news; omega)).trans (hb67.cell h2 (by omega))
    have hmo1 : ∀ k, (fb + 1 ≤ k ∧ k < x5.heap.size) → Fresh W E k := fun k hk => ⟨by have := hk.1; have := HS7.out.news; omega, by have := hk.2; have := H6.out.2.2.2.2.2.2; have := hob.size; omega⟩
    have hmo2 : ∀ k, Fresh x5 x6 k → Fresh W E k := fun k hk => ⟨Nat.le_trans HK.out.1.but.size hk.1, by have := hk.2; have := hob.size; omega⟩
    have hlf : LfS (Fresh W E) E ⟨n1, L, R.1⟩ [.string n1, .slice As ns cs, .slice Am nm cm] :=
     ⟨As, cs, Am, cm, by rw [HF.out.2.2.2, H6.out.2.2.2.2.2.1], (H6.out.2.1.keep hks1).mono hmo1, (H6.out.2.2.1.keep hks2).mono hmo2, by show L.length ≤ cs; rw [← HF.out.2.2.2]; exact HF.out.2.1, HF.out.2.2.1, by show R.1.length ≤ cm; rw [← H6.out.2.2.2.2.2.1]; exact H6.out.2.2.2.1, H6.out.2.2.2.2.1⟩
    have e1 : R1.1 = L := by rw [HRR1.out]
    rw [hE, hx7] at hblk hrd hbE hlf
    exact bodyPost_ret (results_cell_row_tmp1 rfl _ _ ob 67 #[.string n1, .slice As ns cs, .slice Am nm cm] (0, 0) _ rfl hblk Tryz.underlying67 rfl (by kernel_rfl)) rfl
     ⟨_, rfl, by rw [HRR.out.1, e1]; exact hlf, by rw [HRR.out.2]; exact hrd, hbE⟩
end Go.Proofs.YtkgddcemocfgfaaGreatDoor
end

