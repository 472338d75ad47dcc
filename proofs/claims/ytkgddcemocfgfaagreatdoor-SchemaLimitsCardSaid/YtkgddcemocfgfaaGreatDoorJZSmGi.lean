import Derived.Test.YtkgddcemocfgfaaGreatDoorJZSmGh

section
/- The program's reader: field. -/

namespace Go.Proofs.YtkgddcemocfgfaaGreatDoor
open Go.RowKit
set_option linter.unusedVariables false
set_option linter.unusedSimpArgs false
set_option maxRecDepth 100000

theorem wpList_val {P : Program} {ops : Array Oper} {rest : List Oper} {o : Oper} {a : Act} {w : World} {Q : Exit → Act → World → Prop} {v : Value} (hgd : o.guard = none) (hr : (execOp a.eval o).run P w = .ok (.value v) w)
  (h : wpList P ops Q rest (a.put o.dst v) w) : wpList P ops Q (o :: rest) a w :=
 wpList_plain hgd fun K hK => by
  unfold Oper.wp
  rw [hr]
  exact hK _ _ h
theorem run_index_shp (w : World) (k : Nat) (x : Shp) (hx : shpL[k]? = some x) : (Instr.index 187 (.agg shpAll.toArray) (.int .i64 (k : Int))).run Tryz.prog w = .ok (.agg x.cells.toArray) w := by
 match k, hx with
 | 0, hx => obtain rfl := Option.some.inj hx; rfl
 | 1, hx => obtain rfl := Option.some.inj hx; rfl
 | 2, hx => obtain rfl := Option.some.inj hx; rfl
 | 3, hx => obtain rfl := Option.some.inj hx; rfl
 | 4, hx => obtain rfl := Option.some.inj hx; rfl
 | 5, hx => obtain rfl := Option.some.inj hx; rfl
 | 6, hx => obtain rfl := Option.some.inj hx; rfl
 | 7, hx => obtain rfl := Option.some.inj hx; rfl
 | 8, hx => obtain rfl := Option.some.inj hx; rfl
 | k + 9, hx => simp [shpL] at hx
theorem wpList_index_shp {ops : Array Oper} {rest : List Oper} {o : Oper} {a : Act} {w : World} {Q : Exit → Act → World → Prop} (hgd : o.guard = none) (y z : Operand) (ho : o.op = .index 187 y z) (k : Nat) (x : Shp) (hx : shpL[k]? = some x)
  (hy : a.eval y = .agg shpAll.toArray) (hz : a.eval z = .int .i64 (k : Int))
  (h : wpList Tryz.prog ops Q rest (a.put o.dst (.agg #[.string x.word, .int .i64 x.up, .int .i64 x.of, .int .i64 x.numbers, .int .i64 x.least, .int .i64 x.most, .bool x.words])) w) : wpList Tryz.prog ops Q (o :: rest) a w := by
 refine wpList_val hgd ?_ h
 unfold execOp
 rw [ho]
 show (do pure (Next.value (← Instr.index 187 (a.eval y) (a.eval z)))).run Tryz.prog w = _
 rw [hy, hz]
 simp only [Sem.run_bind, run_index_shp w k x hx, Result.andThen_ok, Sem.run_pure]
 rfl
namespace Sm
def zeroFd : Fd := ⟨⟨#[]⟩, ⟨#[]⟩, ⟨#[]⟩, 0, 0, 0, [], []⟩
def fieldB (T : List ByteArray) (p : PS) : Bool := decide (0 ≤ wordV T p)
def shpZ : Shp := ⟨⟨#[]⟩, 0, 0, 0, 0, 0, false⟩
def fieldGo (T : List ByteArray) (p : PS) : Fd × PS := fieldG T (wordV T p) (shpL.getD (wordV T p).toNat shpZ) ⟨p.i + 1, p.f⟩
theorem shp_words : shpL.map Shp.word = wordsL := rfl
end Sm
/-- What the program's readers of elements answer. -/
def ElA {α : Type} (C : (Nat → Prop) → World → α → List Value → Prop) (rb : Nat) (s : ByteArray) (ts : List (Nat × Nat)) (stop : Nat) (b : Bool) (f : α) (p : Sm.PS) (W : World) (e : Ending) (w' : World) : Prop :=
 ∃ c, e = .returned (.tuple #[.agg c.toArray, .bool b]) ∧ C (Fresh W w') w' f c ∧ RdAt rb s ts stop p w' ∧ But rb W w'
theorem But.trans_other {b c : Nat} {w v u : World} (h : But b w v) (k : But c v u) (hc : w.heap.size ≤ c) : But b w u :=
 ⟨k.os.trans h.os, k.tape.trans h.tape, k.output.trans h.output, Nat.le_trans h.size k.size, fun j hj hb => (k.block j (Nat.lt_of_lt_of_le hj h.size) (by omega)).trans (h.block j hj hb)⟩
theorem results_cell_row_tmp1 {P : Program} {fn : Func} {p u : Tmp} {ty : TypeId} (h : fn.results = #[.cell p ty, .tmp u]) (tmps : Array Value) (w : World) (g : Nat) (t : TypeId) (cs : Array Value) (fr : Nat × Nat) (d : TypeDesc)
  (hp : tmps.getD p undef = .pointer (some ⟨g, 0, none⟩)) (hg : w.heap[g]? = some (.cells cs t fr))
  (hu : P.underlying ty = some d) (hd : (match d with | .struct _ | .array _ _ => true | _ => false) = true) (hi : (P.info? ty).map (·.size) = some cs.size) :
  (results fn tmps).run P w = .ok (.tuple #[.agg cs, tmps.getD u undef]) w := by
 have e : (results fn tmps).run P w =
   ((asAddr (tmps.getD p undef)).run P w).andThen fun a w₁ => ((loadVar ty a).run P w₁).andThen fun v w₂ => .ok (.tuple #[v, tmps.getD u undef]) w₂ := by
  simp only [results, h]
  simp [Sem.run_bind, Result.andThen]
 rw [e, hp]
 simp [asAddr, run_loadVar_row w g t ty cs fr d hg hu hd hi]
theorem FdS.zero (S : Nat → Prop) (w : World) : FdS S w Sm.zeroFd fdZ := ⟨none, 0, none, 0, rfl, RdS.nil, RdS.nil, Nat.le_refl _, Nat.zero_le _, Nat.le_refl _, Nat.zero_le _⟩

theorem shp_props (k : Nat) (x : Shp) (hx : shpL[k]? = some x) : x.word.size ≠ 0 ∧ (x.words = false ∧ (x.numbers = 0 ∨ x.numbers = 1 ∨ x.numbers = 2) ∨ x.words = true ∧ x.numbers = 0) := by
 have hm := List.mem_of_getElem? hx
 simp only [shpL, List.mem_cons, List.not_mem_nil, or_false] at hm
 rcases hm with rfl | rfl | rfl | rfl | rfl | rfl | rfl | rfl | rfl <;> exact ⟨by decide, by decide⟩

set_option maxHeartbeats 8000000 in
theorem gField_any (rb : Nat) (s : ByteArray) (ts : List (Nat × Nat)) (stop : Nat) (p : Sm.PS) (W : World) (h : RdAt rb s ts stop p W) (hD : SDoor W) (hg : doorB ≤ rb) :
  Calls Tryz.prog 158 #[.pointer (some ⟨rb, 0, none⟩)] W (ElA FdS rb s ts stop (Sm.fieldB (tokT s ts) p) (if Sm.fieldB (tokT s ts) p = true then (Sm.fieldGo (tokT s ts) p).1 else Sm.zeroFd) (if Sm.fieldB (tokT s ts) p = true then (Sm.fieldGo (tokT s ts) p).2 else p) W) := by
 have hr0 := h.blk.lt
 have cS := fun V (hV : RdAt rb s ts stop p V) wd hwd => gStarts_any rb s ts stop p V hV wd hwd
 have cF := fun q V (hV : RdAt rb s ts stop q V) (hb : But rb W V) x kq hx => gFieldOf_any rb s ts stop q V hV (hD.below (hb.below (Nat.le_refl _) (Nat.le_of_lt hr0)) hg) hg x kq hx
 obtain ⟨T, hT⟩ : ∃ T, T = tokT s ts := ⟨_, rfl⟩
 rw [← hT]
 simp only [← hT] at cS cF
 obtain ⟨rt, rfr, hrow⟩ := hD.row
 have hgs : 0 < rb := by unfold doorB at hg; omega
 obtain ⟨l, hl⟩ : ∃ l, l = Sm.look T p := ⟨_, rfl⟩
 rw [← hl] at cS
 -- what is answered
 obtain ⟨rB, hrB⟩ : ∃ b, b = Sm.fieldB T p := ⟨_, rfl⟩
 obtain ⟨rF, hrF⟩ : ∃ f, f = (if Sm.fieldB T p = true then (Sm.fieldGo T p).1 else Sm.zeroFd) := ⟨_, rfl⟩
 obtain ⟨rP, hrP⟩ : ∃ f, f = (if Sm.fieldB T p = true then (Sm.fieldGo T p).2 else p) := ⟨_, rfl⟩
 rw [← hrF, ← hrP, ← hrB]
 have hyes : ∀ (k : Nat) (x : Shp), shpL[k]? = some x → l.toList = x.word.toList → (∀ y ∈ shpL.take k, ¬ l.toList = y.word.toList) → rB = true ∧ rF = (Sm.fieldG T k x ⟨p.i + 1, p.f⟩).1 ∧ rP = (Sm.fieldG T k x ⟨p.i + 1, p.f⟩).2 := by
  intro k x hx he hn
  have hw : Sm.wordV T p = (k : Int) := by
   unfold Sm.wordV Sm.wordOf
   rw [← hl]
   refine Sm.first_at _ Sm.wordsL k x.word (by rw [← Sm.shp_words, List.getElem?_map, hx]; rfl) (by unfold Sm.eqW; simpa using he) fun y hy => ?_
   rw [← Sm.shp_words, ← List.map_take] at hy
   obtain ⟨z, hz, rfl⟩ := List.mem_map.1 hy
   unfold Sm.eqW
   simpa using hn z hz
  have hb : Sm.fieldB T p = true := by unfold Sm.fieldB; rw [hw]; exact decide_eq_true (by omega)
  have hgo : Sm.fieldGo T p = Sm.fieldG T k x ⟨p.i + 1, p.f⟩ := by
   unfold Sm.fieldGo
   rw [hw, show ((k : Int)).toNat = k by omega, List.getD_eq_getElem?_getD, hx]
   rfl
  rw [hrB, hrF, hrP, hb, if_pos rfl, if_pos rfl, hgo]
  exact ⟨rfl, rfl, rfl⟩
 have hno : (∀ y ∈ shpL, ¬ l.toList = y.word.toList) → rB = false ∧ rF = Sm.zeroFd ∧ rP = p := by
  intro hn
  have hw : Sm.wordV T p = -1 := by
   unfold Sm.wordV Sm.wordOf
   rw [← hl]
   refine Sm.first_none _ Sm.wordsL fun y hy => ?_
   rw [← Sm.shp_words] at hy
   obtain ⟨z, hz, rfl⟩ := List.mem_map.1 hy
   unfold Sm.eqW
   simpa using hn z hz
  have hb : Sm.fieldB T p = false := by unfold Sm.fieldB; rw [hw]; rfl
  rw [hrB, hrF, hrP, hb, if_neg (by decide), if_neg (by decide)]
  exact ⟨rfl, rfl, rfl⟩
 have CS := Lib.hid cS
 have CF := Lib.hid cF
 have HH := Lib.hid h
 have HY := Lib.hid (And.intro hyes hno)
 have HROW := Lib.hid (And.intro hrow (And.intro hgs hr0))
 have HROW2 := Lib.hid (show ∀ o, (W.alloc o).heap[0]? = some (.cells shpAll.toArray rt rfr) from fun o => (Below.heap_alloc W o _ (by omega)).trans hrow)
 clear cS cF h hyes hno hrow hgs hr0 hrB hrF hrP hl hD hg
 go_enter Tryz.func158, Tryz.ntmps158
 go_wp2_with (refine wpList_load_row rfl 187 (.global 0) rfl 0 rfl rt shpAll.toArray rfr _ (HROW2.out _) Tryz.underlying187 rfl (by kernel_rfl) ?_)
 obtain ⟨ob, hob⟩ : ∃ n, n = W.heap.size := ⟨_, rfl⟩
 have H0 := Lib.hid (show RdAt rb s ts stop p (W.alloc (.cells fdZ.toArray 74)) ∧ But rb W (W.alloc (.cells fdZ.toArray 74)) ∧ Blk (W.alloc (.cells fdZ.toArray 74)) ob fdZ 74 ∧ rb < ob ∧ W.heap.size ≤ ob by
  have := HROW.out.2.2
  exact ⟨HH.out.alloc _, But.of ((Below.refl _ _).alloc (Nat.le_refl _) _), by rw [hob]; exact Blk.new W fdZ _, by omega, by omega⟩)
 rw [← hob]
 clear hob HROW2
 obtain ⟨sa, hsa⟩ : ∃ a, a = Value.agg shpAll.toArray := ⟨_, rfl⟩
 rw [← hsa]
 have HSA := Lib.hid hsa
 clear hsa
 go_loopw [7] (fun i wr => ∃ kk : Nat, kk ≤ 9 ∧ i = .int .i64 kk ∧ (∀ y ∈ shpL.take kk, ¬ l.toList = y.word.toList) ∧ RdAt rb s ts stop p wr ∧ But rb W wr ∧ Blk wr ob fdZ 74) (fun i _ => 9 - (intOf i).toNat)
 case atStart => exact ⟨0, Nat.zero_le _, rfl, by simp, H0.out.1, H0.out.2.1, H0.out.2.2.1⟩
 case round =>
  obtain ⟨kk, hk, rfl, ha, hpa, hbu, hbl⟩ := hrel
  obtain ⟨wo, rfl⟩ : ∃ wo : World, wo = wr := ⟨_, rfl⟩
  by_cases hlt : kk < 9
  ·have hlen : shpL.length = 9 := rfl
   obtain ⟨x, hx⟩ : ∃ x, shpL[kk]? = some x := ⟨_, List.getElem?_eq_getElem (by rw [hlen]; exact hlt)⟩
   have j1 : (kk : Int) < 9 := by omega
   have hprop : x.word.size ≠ 0 ∧ (x.words = false ∧ (x.numbers = 0 ∨ x.numbers = 1 ∨ x.numbers = 2) ∨ x.words = true ∧ x.numbers = 0) := shp_props kk x hx
   have HA := Lib.hid (And.intro ha (And.intro hx (And.intro hpa (And.intro hbu (And.intro hbl hprop)))))
   clear ha hx hpa hbu hbl hlen hprop
   go_wp2_with (refine wpList_index_shp rfl (.tmp 6) (.tmp 7) rfl kk x HA.out.2.1 HSA.out rfl ?_)
   have hk1 : RdAt rb s ts stop p (wo.alloc (.cells x.cells.toArray 186)) := HA.out.2.2.1.alloc _
   have hk2 : But rb W (wo.alloc (.cells x.cells.toArray 186)) := HA.out.2.2.2.1.trans (But.of ((Below.refl _ _).alloc (Nat.le_refl _) _))
   have hk3 : Blk (wo.alloc (.cells x.cells.toArray 186)) wo.heap.size x.cells 186 := Blk.new wo x.cells _
   have hk4 : Blk (wo.alloc (.cells x.cells.toArray 186)) ob fdZ 74 := HA.out.2.2.2.2.1.alloc _
   have hk5 := HA.out.2.2.1.blk.lt
   have hk6 := HA.out.2.2.2.2.1.lt
   obtain ⟨wA, hwA⟩ : ∃ w, w = wo.alloc (.cells x.cells.toArray 186) := ⟨_, rfl⟩
   rw [← hwA] at hk1 hk2 hk3 hk4
   have hwA2 : wA = wo.alloc (.cells #[.string x.word, .int .i64 x.up, .int .i64 x.of, .int .i64 x.numbers, .int .i64 x.least, .int .i64 x.most, .bool x.words] 186) := hwA
   rw [← hwA2]
   obtain ⟨xb, hxb⟩ : ∃ n, n = wo.heap.size := ⟨_, rfl⟩
   rw [← hxb] at hk3 hk5 hk6 ⊢
   have HK := Lib.hid (And.intro hk1 (And.intro hk2 (And.intro hk3 (And.intro hk4 (And.intro hk5 hk6)))))
   clear hk1 hk2 hk3 hk4 hk5 hk6 hwA hwA2 hxb
   have cs := CS.out _ HK.out.1 x.word HA.out.2.2.2.2.2.1
   by_cases he : l.toList = x.word.toList
   ·have hev : Sm.eqW l x.word = true := by unfold Sm.eqW; simpa using he
    rw [hev, if_pos rfl] at cs
    obtain ⟨yb, yf, yp⟩ := HY.out.1 kk x HA.out.2.1 he HA.out.1
    have CSq := Lib.hid cs
    have HYY := Lib.hid (And.intro yb (And.intro yf yp))
    clear cs he hev yb yf yp
    refine CSq.out.mono ?_
    rintro e w1 ⟨rfl, ha, hb⟩
    have hbut1 := HK.out.2.1.trans hb
    have hbox := HK.out.2.2.1.but hb (by have := HK.out.2.2.2.2.1; omega)
    have hres := HK.out.2.2.2.1.but hb (by have := H0.out.2.2.2.1; omega)
    have b0 := hbox.cell 0 _ rfl
    have b1 := hbox.cell 1 _ rfl
    have b2 := hbox.cell 2 _ rfl
    have b3 := hbox.cell 3 _ rfl
    have b4 := hbox.cell 4 _ rfl
    have b5 := hbox.cell 5 _ rfl
    have b6 := hbox.cell 6 _ rfl
    have H1 := Lib.hid (And.intro ha (And.intro hbut1 hres))
    clear ha hb hbut1 hbox hres CSq
    go_wp2_with fail
    refine (CF.out _ _ H1.out.1 H1.out.2.1 x kk HA.out.2.2.2.2.2.2).mono ?_
    rintro e w2 ⟨c, rfl, hc, ha, hb⟩
    obtain ⟨fv, hfv⟩ : ∃ f, f = (Sm.fieldG T kk x ⟨p.i + 1, p.f⟩).1 := ⟨_, rfl⟩
    obtain ⟨fp, hfp⟩ : ∃ f, f = (Sm.fieldG T kk x ⟨p.i + 1, p.f⟩).2 := ⟨_, rfl⟩
    rw [← hfv] at hc
    rw [← hfp] at ha
    rw [← hfv, ← hfp] at HYY
    have hres2 := H1.out.2.2.but hb (by have := H0.out.2.2.2.1; omega)
    have hbut2 := H1.out.2.1.trans hb
    have hsz1 : ob < w1.heap.size := H1.out.2.2.lt
    have hcc := hc
    obtain ⟨Aw, cw, Ag, cg, rfl, -⟩ := hcc
    obtain ⟨nw, hnw⟩ : ∃ n, n = fv.words.length := ⟨_, rfl⟩
    obtain ⟨ng, hng⟩ : ∃ n, n = fv.weights.length := ⟨_, rfl⟩
    obtain ⟨fn, fof, fup, fk, flo, fhi, fws, fwg⟩ := fv
    dsimp only at hc hnw hng ⊢
    rw [← hnw, ← hng] at hc ⊢
    obtain ⟨r0, r1, r2, r3, r4, r5, r6, r7⟩ := cells8z hres2
    obtain ⟨g0, g1, g2, g3, g4, g5, g6, g7⟩ := frozen8 hres2
    have H2 := Lib.hid (And.intro ha (And.intro hbut2 (And.intro hres2 (And.intro hc hsz1))))
    clear ha hb hbut2 hres2 hc hsz1 b0 b1 b2 b3 b4 b5 b6 hfv hfp hnw hng CF CS
    go_wp2_with fail
    obtain ⟨E, hE⟩ : ∃ w, w = put8 w2 ob (.string fn) (.string fof) (.string fup) (.int .i64 fk) (.int .i64 flo) (.int .i64 fhi) (.slice Aw nw cw) (.slice Ag ng cg) := ⟨_, rfl⟩
    have hblk : Blk E ob [.string fn, .string fof, .string fup, .int .i64 fk, .int .i64 flo, .int .i64 fhi, .slice Aw nw cw, .slice Ag ng cg] 74 := by
     rw [hE]
     exact (((((((H2.out.2.2.1.set 0 _).set 1 _).set 2 _).set 3 _).set 4 _).set 5 _).set 6 _).set 7 _
    have hob : But ob w2 E := by
     rw [hE]
     exact ((((((((But.refl ob w2).setCell ⟨ob, 0, none⟩ _ rfl).setCell ⟨ob, 1, none⟩ _ rfl).setCell ⟨ob, 2, none⟩ _ rfl).setCell ⟨ob, 3, none⟩ _ rfl).setCell ⟨ob, 4, none⟩ _ rfl).setCell ⟨ob, 5, none⟩ _ rfl).setCell ⟨ob, 6, none⟩ _ rfl).setCell ⟨ob, 7, none⟩ _ rfl
    have hrd : RdAt rb s ts stop fp E := H2.out.1.but hob (by have := H0.out.2.2.2.1; omega)
    have hbE : But rb W E := (H2.out.2.1.trans_other hob (by have := H0.out.2.2.2.2; omega))
    have hks : KeepS (Fresh w1 w2) w2 E := fun a ha => hob.cell ha.2 (by have := ha.1; have := H2.out.2.2.2.2; omega)
    have hfd := (H2.out.2.2.2.1.keep hks).mono (S' := Fresh W E) fun k hk => ⟨Nat.le_trans H1.out.2.1.size hk.1, Nat.lt_of_lt_of_le hk.2 hob.size⟩
    rw [hE] at hblk hrd hbE hfd
    exact bodyPost_ret (results_cell_row_tmp1 rfl _ _ ob 74 #[.string fn, .string fof, .string fup, .int .i64 fk, .int .i64 flo, .int .i64 fhi, .slice Aw nw cw, .slice Ag ng cg] (0, 0) _ rfl hblk Tryz.underlying74 rfl (by kernel_rfl)) rfl
     ⟨_, by rw [HYY.out.1]; rfl, by rw [HYY.out.2.1]; exact hfd, by rw [HYY.out.2.2]; exact hrd, hbE⟩
   ·have hev : Sm.eqW l x.word = false := by unfold Sm.eqW; simpa using he
    rw [hev, if_neg (by decide)] at cs
    have CSq := Lib.hid cs
    have HNE := Lib.hid he
    clear cs he hev
    refine CSq.out.mono ?_
    rintro e w1 ⟨rfl, ha, hb⟩
    have H1 := Lib.hid (And.intro ha (And.intro (HK.out.2.1.trans hb) (HK.out.2.2.2.1.but hb (by have := H0.out.2.2.2.1; omega))))
    clear ha hb CSq
    go_wp2_with fail
    exact ⟨⟨kk + 1, by omega, by go_num, fun y hy => by
     rcases mem_take_succ HA.out.2.1 hy with h | rfl
     ·exact HA.out.1 y h
     ·exact HNE.out, H1.out.1, H1.out.2.1, H1.out.2.2⟩, by simp [intOf]; omega⟩
  ·obtain rfl : kk = 9 := by omega
   obtain ⟨yb, yf, yp⟩ := HY.out.2 (by have h := ha; rwa [show shpL.take 9 = shpL from rfl] at h)
   have HYY := Lib.hid (And.intro yb (And.intro yf yp))
   have H1 := Lib.hid (And.intro hpa (And.intro hbu hbl))
   obtain ⟨r0, r1, r2, r3, r4, r5, r6, r7⟩ := cells8z hbl
   obtain ⟨g0, g1, g2, g3, g4, g5, g6, g7⟩ := frozen8 hbl
   clear ha hpa hbu hbl yb yf yp CF CS
   go_wp2_with fail
   obtain ⟨E, hE⟩ : ∃ w, w = put8 wo ob (.string ⟨#[]⟩) (.string ⟨#[]⟩) (.string ⟨#[]⟩) (.int .i64 0) (.int .i64 0) (.int .i64 0) (.slice none 0 0) (.slice none 0 0) := ⟨_, rfl⟩
   have hblk : Blk E ob fdZ 74 := by
    rw [hE]
    exact (((((((H1.out.2.2.set 0 _).set 1 _).set 2 _).set 3 _).set 4 _).set 5 _).set 6 _).set 7 _
   have hob : But ob wo E := by
    rw [hE]
    exact ((((((((But.refl ob wo).setCell ⟨ob, 0, none⟩ _ rfl).setCell ⟨ob, 1, none⟩ _ rfl).setCell ⟨ob, 2, none⟩ _ rfl).setCell ⟨ob, 3, none⟩ _ rfl).setCell ⟨ob, 4, none⟩ _ rfl).setCell ⟨ob, 5, none⟩ _ rfl).setCell ⟨ob, 6, none⟩ _ rfl).setCell ⟨ob, 7, none⟩ _ rfl
   have hrd : RdAt rb s ts stop p E := H1.out.1.but hob (by have := H0.out.2.2.2.1; omega)
   have hbE : But rb W E := (H1.out.2.1.trans_other hob (by have := H0.out.2.2.2.2; omega))
   rw [hE] at hblk hrd hbE
   exact bodyPost_ret (results_cell_row_tmp1 rfl _ _ ob 74 fdZ.toArray (0, 0) _ rfl hblk Tryz.underlying74 rfl (by kernel_rfl)) rfl
    ⟨fdZ, by rw [HYY.out.1]; rfl, by rw [HYY.out.2.1]; exact FdS.zero _ _, by rw [HYY.out.2.2]; exact hrd, hbE⟩
end Go.Proofs.YtkgddcemocfgfaaGreatDoor
end

