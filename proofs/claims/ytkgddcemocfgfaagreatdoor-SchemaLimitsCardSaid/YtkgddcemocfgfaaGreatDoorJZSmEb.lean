import Derived.ArgAppend
import Derived.Test.YtkgddcemocfgfaaGreatDoorJZFacts
import Derived.Test.YtkgddcemocfgfaaGreatDoorJZShort
import Derived.Test.YtkgddcemocfgfaaGreatDoorJZSmEa
import Derived.Test.YtkgddcemocfgfaaGreatDoorJZSmPh
import Derived.Test.YtkgddcemocfgfaaGreatDoorJZSmPl
import Derived.Test.YtkgddcemocfgfaaGreatDoorJZSmRh
import Derived.Test.YtkgddcemocfgfaaGreatDoorJZSmRk
import Derived.Test.YtkgddcemocfgfaaGreatDoorJZWireRd

section
/- Appends of bytes: onto a slice of the call's own, and onto one without spare room. -/


namespace Go.Proofs.YtkgddcemocfgfaaGreatDoor
open Go.RowKit
set_option linter.unusedVariables false
set_option maxRecDepth 100000


theorem own_new (w : World) (base n : Nat) (e : TypeId) (xs : List Value) (hn : xs.length = n) (hb : base ≤ w.heap.size) (hm : n ≤ maxLen) :
  (w.alloc (.cells xs.toArray e)).ownsRow base e 1 (.slice (some ⟨w.heap.size, 0, none⟩) n n) n xs :=
 ⟨by omega, .inr ⟨w.heap.size, n, xs.toArray, rfl, hb, heap_alloc_new w _, Nat.le_refl _, hm, by simp [hn], by simp [← hn]⟩⟩
theorem run_append_ownB (w : World) (ty : TypeId) (base : Nat) (v : Value) (l l' : List UInt8) (A' : Option Addr) (c' : Nat) (hown : w.ownsRow base 5 1 v l.length (l.map bv)) (hr' : RdB w w.heap.size A' l')
  (hb : l.length + l'.length ≤ 1000000000) (hbase : base ≤ w.heap.size) :
  ∃ v' w', (Builtin.append_ #[35, 35] ty #[v, .slice A' l'.length c']).run Tryz.prog w = .ok v' w' ∧ w'.ownsRow base 5 1 v' (l ++ l').length ((l ++ l').map bv) ∧ w.grownBy w' v.ownBlock := by
 obtain ⟨i0, hi, hz0, hz1, hz2⟩ := info_parts info_u8
 rw [List.length_append, List.map_append]
 cases A' with
 | some a =>
  have hnews : ∀ (j : Nat) (u : Value), (l'.map bv)[j]? = some u → w.cell? (a.add j) = some u := by
   intro j u hu
   have hp : 0 < (l'.map bv).length := by have := (List.getElem?_eq_some_iff.1 hu).1; omega
   obtain ⟨b, off, e, hlt, hcell⟩ := hr' hp
   injection e with e
   subst e
   rw [Addr.add_mid]
   exact hcell j u hu
  obtain ⟨v', w', h1, h2, h3, -⟩ := run_append_own (P := Tryz.prog) w base 35 ty 5 i0 (.int .u8 0) 1 1 Tryz.underlying35 hi hz0 hz1 hz2 rfl (by decide) v l.length (l.map bv) hown a l'.length c' (l'.map bv) (by simp) hnews (one_cells _) (by unfold maxLen; omega) (by omega) hbase
  exact ⟨v', w', h1, h2, h3⟩
 | none =>
  have h0 : l' = [] := by
   cases l' with
   | nil => rfl
   | cons x t => obtain ⟨b, off, e, _⟩ := hr' (by simp); cases e
  subst h0
  refine ⟨v, w, ?_, by simpa using hown, ⟨rfl, rfl, rfl, Nat.le_refl _, fun _ _ _ => rfl⟩⟩
  rcases hown.2 with ⟨rfl, h0⟩ | ⟨g, cap, cur, rfl, _, _, hnc, _⟩
  ·simp [Builtin.append_, run_underlying Tryz.underlying35, sizeOf, typeInfo, hi, Builtin.lenOf, Builtin.firstCells]
  ·simp [Builtin.append_, run_underlying Tryz.underlying35, sizeOf, typeInfo, hi, Builtin.lenOf, Builtin.firstCells, hnc, storeCells]

theorem wpList_append_ownB {ops : Array Oper} {rest : List Oper} {o : Oper} {a : Act} {Q : Exit → Act → World → Prop} (w : World) (hgd : o.guard = none) (s x : Operand)
  (ho : o.op = .call { callee := .builtin .append, args := #[s, x], argTypes := #[35, 35] }) (base : Nat) (v : Value) (l l' : List UInt8) (A' : Option Addr) (c' : Nat)
  (hs : a.eval s = v) (hx : a.eval x = .slice A' l'.length c') (hown : w.ownsRow base 5 1 v l.length (l.map bv)) (hr' : RdB w w.heap.size A' l') (hb : l.length + l'.length ≤ 1000000000) (hbase : base ≤ w.heap.size)
  (h : ∀ v' w', w'.ownsRow base 5 1 v' (l ++ l').length ((l ++ l').map bv) → w.grownBy w' v.ownBlock → wpList Tryz.prog ops Q rest (a.put o.dst v') w') : wpList Tryz.prog ops Q (o :: rest) a w := by
 obtain ⟨v', w', hrun, h1, h2⟩ := run_append_ownB w o.type base v l l' A' c' hown hr' hb hbase
 refine wpList_plain hgd fun K hK => ?_
 unfold Oper.wp execOp
 simp only [ho, resolve, invoke, builtin, Sem.run_bind, Sem.run_pure, Result.andThen_ok, List.map_toArray, List.map_cons, List.map_nil, hs, hx, hrun]
 exact hK _ _ (h v' w' h1 h2)

end Go.Proofs.YtkgddcemocfgfaaGreatDoor
end

section
/- The reference's parser: kind, the walk. -/

namespace Go.Proofs.YtkgddcemocfgfaaGreatDoor
open Go.RowKit
set_option linter.unusedVariables false
set_option linter.unusedSimpArgs false
set_option maxRecDepth 100000

set_option maxHeartbeats 8000000 in
theorem paKind_any (pb : Nat) (s : ByteArray) (A : Option Addr) (cap : Nat) (ts : List (Nat × Nat)) (p : Sm.PS) (W : World) (h : PaAt pb s A cap ts p W) (hi : p.i ≤ ts.length) :
  Calls Tryz.prog 66 #[.pointer (some ⟨pb, 0, none⟩)] W (KdA pb s A cap ts (Sm.kindV (tokT s ts) p).1 (Sm.kindV (tokT s ts) p).2 W) := by
 obtain ⟨T, hT⟩ : ∃ T, T = tokT s ts := ⟨_, rfl⟩
 have hTl : T.length = ts.length := by rw [hT]; unfold tokT; rw [List.length_map]
 have hl8 : T.length ≤ 8192 := by rw [hTl]; exact h.sz.2.1
 rw [← hTl] at hi
 rw [← hT]
 obtain ⟨q1, hq1⟩ : ∃ q, q = Sm.wantP T Sm.kindWd p := ⟨_, rfl⟩
 obtain ⟨q2, hq2⟩ : ∃ q, q = Sm.nameP T q1 := ⟨_, rfl⟩
 obtain ⟨q3, hq3⟩ : ∃ q, q = Sm.numP T q2 := ⟨_, rfl⟩
 obtain ⟨q4, hq4⟩ : ∃ q, q = Sm.numP T q3 := ⟨_, rfl⟩
 have b1 : q1.i ≤ T.length := by rw [hq1]; exact (Sm.wantP_on T _ p hi).2
 have b2 : q2.i ≤ T.length := by rw [hq2]; exact (Sm.nameP_on T q1 b1).2
 have b3 : q3.i ≤ T.length := by rw [hq3]; exact (Sm.numP_on T q2 b2).2
 have b4 : q4.i ≤ T.length := by rw [hq4]; exact (Sm.numP_on T q3 b3).2
 obtain ⟨R, hR⟩ : ∃ R, R = Sm.fieldsL T (T.length + 1) [] q4 := ⟨_, rfl⟩
 have hV : Sm.kindV T p = (⟨Sm.nameW T q1, Sm.numV T q2, Sm.numV T q3, R.1⟩, R.2) := by
  unfold Sm.kindV
  simp only [← hq1, ← hq2, ← hq3, ← hq4, ← hR]
 rw [hV]
 have c0 := fun V hV => paWant_any pb s A cap ts p V hV (by omega) Sm.kindWd
 rw [← hT, ← hq1] at c0
 have c1 := fun V hV => paName_any pb s A cap ts q1 V hV (by omega)
 rw [← hT, ← hq2] at c1
 have c2 := fun V hV => paNumber_any pb s A cap ts q2 V hV (by omega)
 rw [← hT, ← hq3] at c2
 have c3 := fun V hV => paNumber_any pb s A cap ts q3 V hV (by omega)
 rw [← hT, ← hq4] at c3
 have cW := fun q V (hV : PaAt pb s A cap ts q V) (hq : q.i ≤ 1000000) => paWord_any pb s A cap ts q V hV hq
 have cF := fun q V (hV : PaAt pb s A cap ts q V) (hq : q.i ≤ 100000) => paField_any pb s A cap ts q V hV hq
 simp only [← hT] at cW cF
 generalize Sm.nameW T q1 = n1 at *
 generalize Sm.numV T q2 = n2 at *
 generalize Sm.numV T q3 = n3 at *
 unfold Sm.kindWd at c0
 have C0 := Lib.hid c0
 have C1 := Lib.hid c1
 have C2 := Lib.hid c2
 have C3 := Lib.hid c3
 have CW := Lib.hid cW
 have CF := Lib.hid cF
 have HH := Lib.hid h
 have HR := Lib.hid (And.intro hR (And.intro b4 hl8))
 clear c0 c1 c2 c3 cW cF hq1 hq2 hq3 hq4 b1 b2 b3 b4 hV hT h hi hTl hl8 hR
 go_enter Tryz.func66, Tryz.ntmps66
 go_wp2_with fail
 refine (C0.out _ (HH.out.alloc _)).mono ?_
 rintro e w1 ⟨rfl, ha, hb⟩
 have H1 := Lib.hid (And.intro ha hb)
 clear ha hb C0
 go_wp2_with fail
 refine (C1.out _ H1.out.1).mono ?_
 rintro e w2 ⟨rfl, ha, hb⟩
 have hz : VaSt 63 kdZ pb s A cap ts W W.heap.size w2.heap.size q2 [.string n1, .int .i64 0, .int .i64 0, .slice none 0 0] (w2.alloc (.cells #[.string n1, .int .i64 0, .int .i64 0, .slice none 0 0] 63)) := VaSt.begin ha (H1.out.2.trans hb) HH.out.blk.lt
 clear ha hb C1 H1
 have HS := Lib.hid hz
 clear hz
 go_wp2_with fail
 generalize w2.heap.size = fb at *
 obtain ⟨rb, hrb⟩ : ∃ rb, rb = W.heap.size := ⟨_, rfl⟩
 rw [← hrb]
 rw [← hrb] at HS
 have HRB := Lib.hid hrb
 clear hrb
 refine (C2.out _ HS.out.pa).mono ?_
 rintro e w3 ⟨rfl, ha, hb⟩
 have hz : VaSt 63 kdZ pb s A cap ts W rb fb q3 [.string n1, .int .i64 0, .int .i64 0, .slice none 0 0] w3 := HS.out.call ha hb
 clear HS
 have HS := Lib.hid hz
 clear hz ha hb C2
 have d1 := HS.out.fld.cell 1 _ rfl
 have e1 := HS.out.fld.frozen 1
 go_wp2_with fail
 clear d1 e1
 refine (C3.out _ (HS.out.set 1 (.int .i64 n2)).pa).mono ?_
 rintro e w4 ⟨rfl, ha, hb⟩
 have hz : VaSt 63 kdZ pb s A cap ts W rb fb q4 [.string n1, .int .i64 n2, .int .i64 0, .slice none 0 0] w4 := (HS.out.set 1 (.int .i64 n2)).call ha hb
 clear HS
 have HS := Lib.hid hz
 clear hz ha hb C3
 have d2 := HS.out.fld.cell 2 _ rfl
 have e2 := HS.out.fld.frozen 2
 go_wp2_with fail
 clear d2 e2
 have hz : VaSt 63 kdZ pb s A cap ts W rb fb q4 [.string n1, .int .i64 n2, .int .i64 n3, .slice none 0 0] (w4.setCell ⟨fb, 2, none⟩ (.int .i64 n3)) := HS.out.set 2 (.int .i64 n3)
 clear HS
 have HS := Lib.hid hz
 clear hz
 obtain ⟨w5, hw5⟩ : ∃ w, w = w4.setCell ⟨fb, 2, none⟩ (.int .i64 n3) := ⟨_, rfl⟩
 rw [← hw5] at HS
 rw [← hw5]
 clear hw5
 obtain ⟨i0, hi0, hz0, hz1, hz2⟩ := info_parts8 info_fd
 have HI := Lib.hid (And.intro hi0 (And.intro hz0 (And.intro hz1 hz2)))
 clear hi0 hz0 hz1 hz2
 go_loopg [15] (T.length + 1) (fun m z wr => ∃ (q : Sm.PS) (vf : Value) (L : List Sm.Fd) (F : Nat), VaSt 63 kdZ pb s A cap ts W rb fb q [.string n1, .int .i64 n2, .int .i64 n3, vf] wr ∧ FdRow fb vf L wr ∧ R = Sm.fieldsL T F L q ∧ q.i ≤ T.length ∧ T.length < q.i + F ∧ L.length ≤ q.i ∧ T.length + 1 - q.i ≤ m)
 case atStart => exact ⟨q4, _, [], T.length + 1, HS.out, FdRow.nil fb w5, HR.out.1, HR.out.2.1, by omega, Nat.zero_le _, by omega⟩
 case round =>
  clear HS
  obtain ⟨q, vf, L, F, hst, hrow, hR, hqi, hF, hL, hm⟩ := hrel
  obtain ⟨wo, rfl⟩ : ∃ wo : World, wo = wr := ⟨_, rfl⟩
  have HK := Lib.hid (And.intro hst (And.intro hrow (And.intro hqi (And.intro hL (And.intro hm hF)))))
  have hpa := hst.pa
  have cw := CW.out q wo hpa (by have := HR.out.2.2; omega)
  obtain ⟨wd, hwd⟩ : ∃ z, z = Sm.wordV T q := ⟨_, rfl⟩
  rw [← hwd] at cw
  have CWq := Lib.hid cw
  have HWd := Lib.hid hwd
  have HRq := Lib.hid hR
  clear hst hrow hqi hL hm hF hpa cw hwd hR
  go_wp2_with fail
  refine CWq.out.mono ?_
  rintro e x5 ⟨rfl, hb⟩
  have hst5 := HK.out.1.call (HK.out.1.pa.below hb) (But.of hb)
  have hrow5 := HK.out.2.1.but (But.of (b := pb) hb) (by have := HK.out.1.news; omega)
  have H5 := Lib.hid (And.intro hst5 hrow5)
  clear hst5 hrow5 hb CWq
  by_cases hw0 : 0 ≤ wd
  ·have hin := Sm.wordV_in (T := T) (p := q) (by rw [← HWd.out]; exact hw0)
   rw [← HWd.out] at hin
   have hnx := HRq.out
   obtain ⟨F', rfl⟩ : ∃ F', F = F' + 1 := ⟨F - 1, by have := HK.out.2.2.2.2.2; omega⟩
   rw [Sm.fieldsL_next T F' L q (by rw [← HWd.out]; omega)] at hnx
   have hon := Sm.fieldP_on T q hin.2.2
   have cf := fun V hV => CF.out q V hV (by have := HK.out.2.2.1; have := HR.out.2.2; omega) (by rw [← HWd.out]; exact hw0) (by rw [← HWd.out]; exact hin.1)
   obtain ⟨fv, hfv⟩ : ∃ f, f = Sm.fieldV T q := ⟨_, rfl⟩
   obtain ⟨qb, hqb⟩ : ∃ z, z = Sm.fieldP T q := ⟨_, rfl⟩
   simp only [← hfv, ← hqb] at cf
   rw [← hfv, ← hqb] at hnx
   rw [← hqb] at hon
   have CFq := Lib.hid cf
   have HX := Lib.hid (And.intro hnx (And.intro hon (show L.length + 1 ≤ qb.i by have := HK.out.2.2.2.1; omega)))
   have HPB := Lib.hid (show pb < W.heap.size from HH.out.blk.lt)
   have hL8 : L.length ≤ 8192 := by have := HK.out.2.2.2.1; have := HK.out.2.2.1; have := HR.out.2.2; omega
   have HL8 := Lib.hid hL8
   clear cf hnx hon hfv hqb hin hL8
   go_wp2_with fail
   try go_frame
   refine wp_region_statelist [18, 19, 20, 21, 22] (fun d _ w' => But pb x5 w' ∧ PaAt pb s A cap ts (if d 3 = true then qb else q) w') (fun w' w'' => But pb w' w'' ∧ w'.heap.size ≤ w''.heap.size) [fun u _ => u = .pointer (some ⟨fb, 3, none⟩), fun u _ => u = vf, fun u _ => u = .pointer (some ⟨pb, 0, none⟩), fun u w' => ∃ c, u = .agg c.toArray ∧ FdS (Fresh x5 w') w' fv c, fun u w' => ∃ c g, u = .slice (some ⟨g, 0, none⟩) 1 1 ∧ FdS (Fresh x5 w') w' fv c ∧ (∀ j v, c[j]? = some v → w'.cell? ⟨g, j, none⟩ = some v) ∧ x5.heap.size ≤ g ∧ g < w'.heap.size]
    (by
     intro f hf u w' w'' h hr
     have hfr : ∀ c, FdS (Fresh x5 w') w' fv c → FdS (Fresh x5 w'') w'' fv c := fun c hc =>
      (hc.keep (w' := w'') fun a ha => hr.1.cell ha.2 (by have := ha.1; have := HPB.out; have := H5.out.1.but.size; omega)).mono fun k hk => ⟨hk.1, Nat.lt_of_lt_of_le hk.2 hr.2⟩
     simp only [List.mem_cons, List.not_mem_nil, or_false] at hf
     rcases hf with rfl | rfl | rfl | rfl | rfl
     ·exact h
     ·exact h
     ·exact h
     ·obtain ⟨c, h1, h2⟩ := h
      exact ⟨c, h1, hfr c h2⟩
     ·obtain ⟨c, g, h1, h2, h3, h4, h5⟩ := h
      exact ⟨c, g, h1, hfr c h2, fun j v hj => (hr.1.cell (p := ⟨g, j, none⟩) h5 (by show g ≠ pb; have := HPB.out; have := H5.out.1.but.size; omega)).trans (h3 j v hj), h4, Nat.lt_of_lt_of_le h5 hr.2⟩)
    (fun _ => ⟨(But.refl pb x5).drewn, H5.out.1.pa.drew⟩) (by kernel_rfl) (by kernel_rfl) ?_ ?_
   ·intro y hy d vals b w' hJ hu hd hall hx o ho
    match y, hy with
    | 0, _ =>
     obtain rfl := Option.some.inj ho
     have e : b.tmps.getD 3 undef = .pointer (some ⟨fb, 0, none⟩) := hx 3 rfl
     have hr := run_field_kind w' fb
     rw [← e] at hr
     exact runs_value rfl hr ⟨rfl, ⟨But.refl _ _, Nat.le_refl _⟩, hJ⟩
    | 1, _ =>
     obtain rfl := Option.some.inj ho
     have e : b.tmps.getD 18 undef = .pointer (some ⟨fb, 3, none⟩) := (hd 0 (by kernel_rfl) (by decide)).2
     have hr := run_load_fds w' ⟨fb, 3, none⟩ vf ((H5.out.1.fld.but hJ.1 (by have := H5.out.1.news; omega)).cell 3 _ rfl)
     rw [← e] at hr
     exact runs_value rfl hr ⟨rfl, ⟨But.refl _ _, Nat.le_refl _⟩, hJ⟩
    | 2, _ =>
     obtain rfl := Option.some.inj ho
     exact ⟨hx 0 rfl, ⟨But.refl _ _, Nat.le_refl _⟩, hJ⟩
    | 3, _ =>
     obtain rfl := Option.some.inj ho
     have hu : d 3 = false := hu
     have e : b.tmps.getD 20 undef = .pointer (some ⟨pb, 0, none⟩) := (hd 2 (by kernel_rfl) (by decide)).2
     have hpa := hJ.2
     rw [hu] at hpa
     refine runs_call rfl (fun _ _ => rfl) ?_
     show Calls _ _ #[b.tmps.getD 20 undef] w' _
     rw [e]
     refine (CFq.out w' hpa).mono ?_
     rintro e w'' ⟨c, rfl, hc, ha, hb⟩
     exact ⟨_, rfl, ⟨c, rfl, hc.mono fun k hk => ⟨Nat.le_trans hJ.1.size hk.1, hk.2⟩⟩, ⟨hb, hb.size⟩, hJ.1.trans hb, ha⟩
    | 4, _ =>
     obtain rfl := Option.some.inj ho
     obtain ⟨c, e, hc⟩ := (hd 3 (by kernel_rfl) (by decide)).2
     have e : b.tmps.getD 21 undef = .agg c.toArray := e
     obtain ⟨Aw, cw, Ag, cg, hcs, hc1⟩ := hc
     have hbs := run_build_fd w' fv.name fv.of fv.up fv.kind fv.lo fv.hi Aw Ag fv.words.length cw fv.weights.length cg
     have hbel : Below w'.heap.size w' (w'.alloc (.cells c.toArray 74)) := (Below.refl _ _).alloc (Nat.le_refl _) _
     have hks : KeepS (Fresh x5 w') w' (w'.alloc (.cells c.toArray 74)) := fun a ha => hbel.cell ha.2
     have hnew := Blk.new w' c 74
     have hfd : FdS (Fresh x5 w') w' fv c := ⟨Aw, cw, Ag, cg, hcs, hc1⟩
     refine runs_value (X := Instr.buildSlice 61 1 #[(0, b.tmps.getD 21 undef)]) (by unfold execOp; simp [Act.eval]) (w' := w'.alloc (.cells c.toArray 74)) (by rw [e, hcs]; exact hbs) ⟨⟨c, w'.heap.size, rfl, (hfd.keep hks).mono fun k hk => ⟨hk.1, by rw [World.size_alloc]; have := hk.2; omega⟩, fun j v hj => hnew.cell j v hj, hJ.1.size, by rw [World.size_alloc]; omega⟩, ⟨But.of hbel, hbel.size⟩, hJ.1.trans (But.of hbel), hJ.2.below hbel⟩
   ·intro d vals w' hJ hall hf
    have v1 : vals 1 = vf := hf 1 (by decide)
    obtain ⟨c, g, v4, hc, hcg, hg1, hg2⟩ := hf 4 (by decide)
    have hpa := hJ.2
    rw [hall 3 (by decide)] at hpa
    have hpa : PaAt pb s A cap ts qb w' := hpa
    simp only [puts, List.length_cons, List.length_nil, Nat.zero_add, Nat.reduceAdd, List.drop_succ_cons, List.drop_zero, v1, v4]
    have hst := H5.out.1.call hpa hJ.1
    obtain ⟨cs, hcs1, hcs2, hown⟩ := H5.out.2.but hJ.1 (by have := H5.out.1.news; omega)
    obtain ⟨cs0, -, -, hown0⟩ := H5.out.2
    have hvl : ∀ k, vf.ownBlock = some k → k < x5.heap.size := fun k hk => (hown0.lt k hk).2
    have hg3 : fb + 1 ≤ w'.heap.size := hst.fld.lt
    have hx5 : fb < x5.heap.size := H5.out.1.fld.lt
    have H8 := Lib.hid (And.intro hst (And.intro hcs1 (And.intro hcs2 (And.intro hown (And.intro hvl (And.intro hg3 (And.intro hx5 (And.intro hc (And.intro hcg (And.intro hg1 hg2))))))))))
    clear v1 v4 hst hcs1 hcs2 hown hown0 hvl hx5 hc hcg hpa hJ hall hf hg1 hg2 hg3
    have hc8 : c.length = 8 ∧ ∀ u ∈ c, u.oneCell' = true := by
     obtain ⟨Aw, cw, Ag, cg, e, -⟩ := H8.out.2.2.2.2.2.2.2.1
     rw [e]
     exact ⟨rfl, by intro u hu; simp at hu; rcases hu with rfl | rfl | rfl | rfl | rfl | rfl | rfl | rfl <;> rfl⟩
    have HC8 := Lib.hid hc8
    clear hc8
    try go_frame
    refine wpList_append_own_at _ rfl (.tmp 19) (.tmp 22) 61 rfl (fb + 1) 74 i0 (.agg fdZ.toArray) 8 120 Tryz.underlying61 HI.out.1 HI.out.2.1 HI.out.2.2.1 HI.out.2.2.2 rfl (by decide) vf L.length cs.flatten rfl H8.out.2.2.2.1 ⟨g, 0, none⟩ 1 1 c rfl (by rw [HC8.out.1]) (fun j u hj => by
      have := H8.out.2.2.2.2.2.2.2.2.1 j u hj
      have e : (⟨g, 0, none⟩ : Addr).add j = ⟨g, j, none⟩ := by simp [Addr.add]; omega
      rw [e]
      exact this) HC8.out.2 (by have := HL8.out; unfold maxLen; omega) (by have := HL8.out; omega) H8.out.2.2.2.2.2.1 ?_
    intro v' w6 hown' hgrow _ hat
    have hrow' : FdRow fb v' (L ++ [fv]) w6 := FdRow.snoc hgrow hat H8.out.2.2.2.2.2.2.2.1 H8.out.2.2.2.2.2.2.1 H8.out.2.2.2.2.1 cs H8.out.2.1 H8.out.2.2.1 hown'
    have hva := H8.out.1.grown hgrow (fun k hk => by have := (H8.out.2.2.2.1.lt k hk).1; omega)
    obtain ⟨nl, hnl⟩ : ∃ n, n = L.length + 1 := ⟨_, rfl⟩
    rw [← hnl] at hown'
    obtain ⟨Av, cv, rfl⟩ : ∃ Av cv, v' = .slice Av nl cv := by
     rcases hown'.2 with ⟨hv, h0⟩ | ⟨g, cap, cur, hv, hb, hg, hnc, hm, hs, ht⟩
     ·exact ⟨none, 0, by rw [hv, h0]⟩
     ·exact ⟨_, _, hv⟩
    have d3 := hva.fld.cell 3 _ rfl
    have e3 := hva.fld.frozen 3
    have HV := Lib.hid (And.intro hva hrow')
    clear hown' hgrow hat hva hrow' hnl
    go_wp2_with fail
    go_roundg (T.length + 1 - qb.i)
    case measure => have := HX.out.2.1; have := HK.out.2.2.2.2.1; omega
    case rel =>
     refine ⟨qb, _, L ++ [fv], F', HV.out.1.set 3 _, ?_, HX.out.1, HX.out.2.1.2, by have := HX.out.2.1; have := HK.out.2.2.2.2.2; omega, by rw [List.length_append]; exact HX.out.2.2, Nat.le_refl _⟩
     exact HV.out.2.but (b := fb) ((But.refl fb w6).setCell _ _ rfl) (Nat.le_refl _)
  ·have hRR : R = (L, q) := by rw [HRq.out, Sm.fieldsL_end T F L q (by rw [← HWd.out]; omega)]
   subst hRR
   obtain ⟨cs, hcs1, hcs2, hown⟩ := H5.out.2
   obtain ⟨nl, hnl⟩ : ∃ n, n = L.length := ⟨_, rfl⟩
   rw [← hnl] at hown
   have hrs : ∃ Av cv, vf = .slice Av nl cv ∧ RdS (fun k => fb < k ∧ k < x5.heap.size) x5 Av cs.flatten ∧ nl ≤ cv ∧ cv ≤ maxLen := by
    have hl := hown.1
    rcases hown.2 with ⟨hv, h0⟩ | ⟨g, cp, cur, hv, hb, hg, hnc, hm, hs, ht⟩
    ·subst h0
     have hx : cs.flatten = [] := List.eq_nil_of_length_eq_zero (by omega)
     exact ⟨none, 0, hv, by rw [hx]; exact RdS.nil, Nat.le_refl _, Nat.zero_le _⟩
    ·refine ⟨_, _, hv, fun hn => ⟨g, 0, rfl, ⟨by omega, (Array.getElem?_eq_some_iff.1 hg).1⟩, fun j u hu => ?_⟩, hnc, hm⟩
     rw [cell_of_row x5 g (0 + j) _ _ _ hg]
     rw [← ht, List.getElem?_take] at hu
     split at hu
     ·rw [Nat.zero_add]; simpa using hu
     ·cases hu
   obtain ⟨Av, cv, rfl, hr1, hr2, hr3⟩ := hrs
   have HF := Lib.hid (And.intro hcs1 (And.intro hcs2 (And.intro hr1 (And.intro hr2 (And.intro hr3 hnl)))))
   have d0 := H5.out.1.fld.cell 0 _ rfl
   have d1 := H5.out.1.fld.cell 1 _ rfl
   have d2 := H5.out.1.fld.cell 2 _ rfl
   have d3 := H5.out.1.fld.cell 3 _ rfl
   have r0 := H5.out.1.res.cell 0 _ rfl
   have r1 := H5.out.1.res.cell 1 _ rfl
   have r2 := H5.out.1.res.cell 2 _ rfl
   have r3 := H5.out.1.res.cell 3 _ rfl
   have g0 := H5.out.1.res.frozen 0
   have g1 := H5.out.1.res.frozen 1
   have g2 := H5.out.1.res.frozen 2
   have g3 := H5.out.1.res.frozen 3
   have hnr : rb ≠ fb := by have := H5.out.1.news; omega
   clear hcs1 hcs2 hown hr1 hr2 hr3 hnl CW CF HWd HRq
   go_wp2_with fail
   have hE := (((H5.out.1.put 0 (.string n1)).put 1 (.int .i64 n2)).put 2 (.int .i64 n3)).put 3 (.slice Av nl cv)
   obtain ⟨wE, hwE⟩ : ∃ w, w = (((x5.setCell ⟨rb, 0, none⟩ (.string n1)).setCell ⟨rb, 1, none⟩ (.int .i64 n2)).setCell ⟨rb, 2, none⟩ (.int .i64 n3)).setCell ⟨rb, 3, none⟩ (.slice Av nl cv) := ⟨_, rfl⟩
   have hsz : wE.heap.size = x5.heap.size := by rw [hwE]; simp only [size_setCell]
   have hbe : But rb x5 wE := by rw [hwE]; exact (((((But.refl rb x5).setCell ⟨rb, 0, none⟩ _ rfl).setCell ⟨rb, 1, none⟩ _ rfl).setCell ⟨rb, 2, none⟩ _ rfl).setCell ⟨rb, 3, none⟩ _ rfl)
   rw [← hwE] at hE ⊢
   have hks : ∀ S : Nat → Prop, (∀ k, S k → fb < k ∧ k < x5.heap.size) → KeepS S x5 wE := fun S hS a ha => hbe.cell (hS _ ha).2 (by have := (hS _ ha).1; have := H5.out.1.news; omega)
   have hmo : ∀ k, (fb < k ∧ k < x5.heap.size) → Fresh W wE k := fun k hk => ⟨by have := H5.out.1.news; omega, by rw [hsz]; exact hk.2⟩
   exact bodyPost_ret (results_cell_row rfl _ _ rb 63 #[.string n1, .int .i64 n2, .int .i64 n3, .slice Av nl cv] (0, 0) _ rfl hE.res Tryz.underlying63 rfl (by kernel_rfl)) rfl
    ⟨_, rfl, ⟨Av, cv, by rw [HF.out.2.2.2.2.2], ⟨cs, HF.out.1, fun i a c ha hc => ((HF.out.2.1 i a c ha hc).keep (hks _ fun k hk => ⟨hk.1, hk.2.1⟩)).mono fun k hk => hmo k ⟨hk.1, hk.2.1⟩, (HF.out.2.2.1.keep (hks _ fun k hk => hk)).mono hmo⟩, by show L.length ≤ cv; rw [← HF.out.2.2.2.2.2]; exact HF.out.2.2.2.1, HF.out.2.2.2.2.1⟩, hE.pa, hE.but⟩
end Go.Proofs.YtkgddcemocfgfaaGreatDoor
end

section
/- The reference's parser: what life reads; a row of moves. -/


namespace Go.Proofs.YtkgddcemocfgfaaGreatDoor
open Go.RowKit
set_option linter.unusedVariables false
set_option linter.unusedSimpArgs false
set_option maxRecDepth 100000

namespace Sm
/-- The states of a life cycle: at most n more. -/
def statesL (T : List ByteArray) : Nat → List ByteArray → PS → List ByteArray × PS
 | 0, a, p => (a, p)
 | n + 1, a, p => if p.f = true then (a, p) else statesL T n (a ++ [nameW T p]) (nameP T p)
theorem statesL_end (T : List ByteArray) (n : Nat) (a : List ByteArray) (p : PS) (h : p.f = true) : statesL T n a p = (a, p) := by
 cases n with
 | zero => rfl
 | succ n => unfold statesL; rw [if_pos h]
theorem statesL_next (T : List ByteArray) (n : Nat) (a : List ByteArray) (p : PS) (h : p.f = false) : statesL T (n + 1) a p = statesL T n (a ++ [nameW T p]) (nameP T p) := by
 conv => lhs; unfold statesL
 rw [if_neg (by rw [h]; decide)]
theorem statesL_on (T : List ByteArray) : ∀ (n : Nat) (a : List ByteArray) (p : PS), On T p (statesL T n a p).2 := by
 intro n
 induction n with
 | zero => intro a p; exact On.refl T p
 | succ n ih =>
  intro a p
  unfold statesL
  split
  ·exact On.refl T p
  ·exact (nameP_on T p).trans (ih _ _)
def moveWd : ByteArray := ⟨#[109, 111, 118, 101]⟩
def moveV (T : List ByteArray) (p : PS) : Int × Int := (numV T (wantP T moveWd p), numV T (numP T (wantP T moveWd p)))
def moveP (T : List ByteArray) (p : PS) : PS := numP T (numP T (wantP T moveWd p))
/-- The moves: at most n more. -/
def movesL (T : List ByteArray) : Nat → List (Int × Int) → PS → List (Int × Int) × PS
 | 0, a, p => (a, p)
 | n + 1, a, p => if eqW (look T p) moveWd = true then movesL T n (a ++ [moveV T p]) (moveP T p) else (a, p)
theorem movesL_end (T : List ByteArray) (n : Nat) (a : List (Int × Int)) (p : PS) (h : ¬ (look T p).toList = moveWd.toList) : movesL T n a p = (a, p) := by
 cases n with
 | zero => rfl
 | succ n => unfold movesL; rw [if_neg (by unfold eqW; simpa using h)]
theorem movesL_next (T : List ByteArray) (n : Nat) (a : List (Int × Int)) (p : PS) (h : (look T p).toList = moveWd.toList) : movesL T (n + 1) a p = movesL T n (a ++ [moveV T p]) (moveP T p) := by
 conv => lhs; unfold movesL
 rw [if_pos (by unfold eqW; simpa using h)]
theorem size_of_list {a b : ByteArray} (h : a.toList = b.toList) : a.size = b.size := by
 have := congrArg List.length h
 rw [Lib.toList_data, Lib.toList_data, Array.length_toList, Array.length_toList] at this
 exact this
/-- A wanted word that stands there is read. -/
theorem wantP_next {T : List ByteArray} {w : ByteArray} {p : PS} (h : (look T p).toList = w.toList) (hw : w.size ≠ 0) : wantP T w p = ⟨p.i + 1, p.f⟩ ∧ p.f = false ∧ p.i < T.length := by
 have hs := size_of_list h
 refine ⟨?_, look_lt (by rw [hs]; exact hw)⟩
 unfold wantP takeP
 rw [if_pos ⟨by unfold eqW; simpa using h, by rw [hs]; exact hw⟩]
theorem moveP_on {T : List ByteArray} {p : PS} (h : (look T p).toList = moveWd.toList) : p.i + 1 ≤ (moveP T p).i ∧ (moveP T p).i ≤ T.length := by
 obtain ⟨e, -, hlt⟩ := wantP_next h (by decide)
 unfold moveP
 rw [e]
 exact ((numP_on T ⟨p.i + 1, p.f⟩).trans (numP_on T _)) hlt
def lifeWd : ByteArray := ⟨#[108, 105, 102, 101]⟩
def lifeV (T : List ByteArray) (p : PS) : Lf × PS :=
 let p1 := wantP T lifeWd p
 let p2 := nameP T p1
 let p3 := cntP T p2
 let r := statesL T (numV T p2).toNat [] p3
 let m := movesL T (T.length + 1) [] r.2
 (⟨nameW T p1, r.1, m.1⟩, m.2)
theorem moveC_append (l : List (Int × Int)) (m : Int × Int) : moveC (l ++ [m]) = moveC l ++ [iv m.1, iv m.2] := by
 unfold moveC
 simp
end Sm
def lfZ : List Value := [.string ⟨#[]⟩, .slice none 0 0, .slice none 0 0]
def LfA (pb : Nat) (s : ByteArray) (A : Option Addr) (cap : Nat) (ts : List (Nat × Nat)) (x : Sm.Lf) (p : Sm.PS) (W : World) (e : Ending) (w' : World) : Prop :=
 ∃ c, e = .returned (.agg c.toArray) ∧ LfS (Fresh W w') w' x c ∧ PaAt pb s A cap ts p w' ∧ But pb W w'
def mvZ : Value := .agg #[.int .i64 0, .int .i64 0]
theorem info_mv : ((Tryz.prog.info? 68).map fun i => (i.zero, i.size, i.bytes)) = some (some mvZ, 2, 16) := by kernel_rfl
theorem info_parts2 {P : Program} {t : TypeId} {z : Value} {n b : Nat} (h : (P.info? t).map (fun i => (i.zero, i.size, i.bytes)) = some (some z, n, b)) : ∃ i, P.info? t = some i ∧ i.zero = some z ∧ i.size = n ∧ i.bytes = b := info_parts8 h
theorem run_field_life (W : World) (b i : Nat) (hi : i = 1 ∨ i = 2) : (Instr.fieldAt 67 (.pointer (some ⟨b, 0, none⟩)) i).run Tryz.prog W = .ok (.pointer (some ⟨b, i, none⟩)) W := by
 rcases hi with rfl | rfl <;> go_simp
theorem run_load_mvs (W : World) (a : Addr) (v : Value) (h : W.cell? a = some v) : (Instr.loadAt 65 (.pointer (some a))).run Tryz.prog W = .ok v W := by go_simp
theorem run_build_mv (w : World) (x y : Int) : (Instr.buildSlice 65 1 #[(0, .agg #[.int .i64 x, .int .i64 y])]).run Tryz.prog w = .ok (.slice (some ⟨w.heap.size, 0, none⟩) 1 1) (w.alloc (.cells #[.int .i64 x, .int .i64 y] 68)) := by go_simp
theorem own_rdB {w : World} {base n size : Nat} {e : TypeId} {v : Value} {xs : List Value} (h : w.ownsRow base e size v n xs) :
  ∃ A c, v = .slice A n c ∧ RdS (fun k => base ≤ k ∧ k < w.heap.size) w A xs ∧ n ≤ c ∧ c ≤ maxLen := by
 have hl := h.1
 rcases h.2 with ⟨hv, h0⟩ | ⟨g, cap, cur, hv, hb, hg, hnc, hm, hs, ht⟩
 ·subst h0
  have hx : xs = [] := List.eq_nil_of_length_eq_zero (by omega)
  exact ⟨none, 0, hv, by rw [hx]; exact RdS.nil, Nat.le_refl _, Nat.zero_le _⟩
 ·refine ⟨_, _, hv, fun hn => ⟨g, 0, rfl, ⟨hb, (Array.getElem?_eq_some_iff.1 hg).1⟩, fun j u hu => ?_⟩, hnc, hm⟩
  rw [cell_of_row w g (0 + j) _ _ _ hg]
  rw [← ht, List.getElem?_take] at hu
  split at hu
  ·rw [Nat.zero_add]; simpa using hu
  ·cases hu
theorem run_mv (w : World) (a b : Int) : (Instr.build 68 #[(0, .int .i64 a), (1, .int .i64 b)]).run Tryz.prog w = .ok (.agg #[.int .i64 a, .int .i64 b]) w := by go_simp
end Go.Proofs.YtkgddcemocfgfaaGreatDoor
end

section
/- The reference's Encode: its memory; facts of regions that append in their heads. -/







namespace Go.Proofs.YtkgddcemocfgfaaGreatDoor
open Go.RowKit
set_option linter.unusedVariables false
set_option linter.unusedSimpArgs false
set_option maxRecDepth 100000

section
variable {w w' w'' : World} {o : Option Nat}
theorem Grow.refl (w : World) (o : Option Nat) : w.grownBy w o := ⟨rfl, rfl, rfl, Nat.le_refl _, fun _ _ _ => rfl⟩
theorem Grow.trans (h : w.grownBy w' o) (k : w'.grownBy w'' o) : w.grownBy w'' o :=
 ⟨k.os.trans h.os, k.tape.trans h.tape, k.output.trans h.output, Nat.le_trans h.size k.size, fun j hj hn => (k.block j (Nat.lt_of_lt_of_le hj h.size) hn).trans (h.block j hj hn)⟩
theorem Grow.below (h : Below w.heap.size w w') (o : Option Nat) : w.grownBy w' o := ⟨h.os, h.tape, h.output, h.size, fun k hk _ => h.block k hk⟩
theorem Grow.drew (w : World) (n : Nat) (o : Option Nat) : w.grownBy { w with drawn := n } o := ⟨rfl, rfl, rfl, Nat.le_refl _, fun _ _ _ => rfl⟩
theorem own_ne {base size n k : Nat} {e t : TypeId} {v : Value} {xs vs : List Value} (h : w.ownsRow base e size v n xs) (hb : Blk w k vs t) (ht : t ≠ e) : v.ownBlock ≠ some k := by
 intro hk
 rcases h.2 with ⟨rfl, -⟩ | ⟨g, cap, cur, rfl, -, hg, -⟩
 ·simp [Value.ownBlock] at hk
 ·have : g = k := by simpa [Value.ownBlock] using hk
  subst this
  rw [hb] at hg
  injection hg with hg
  injection hg with _ h2 _
  exact ht h2
theorem Blk.growO {base size n k : Nat} {e t : TypeId} {v : Value} {xs vs : List Value} (hb : Blk w k vs t) (h : w.ownsRow base e size v n xs) (ht : t ≠ e) (hg : w.grownBy w' v.ownBlock) : Blk w' k vs t := hb.grown hg (own_ne h hb ht)
/-- A row of bytes that does not lie in block o. -/
def RowF (o : Option Nat) (l : List UInt8) (u : Value) (w : World) : Prop := ∃ A c, u = .slice A l.length c ∧ RdS (fun k => k < w.heap.size ∧ some k ≠ o) w A (l.map bv)
theorem RowF.grow {l : List UInt8} {u : Value} (h : RowF o l u w) (hg : w.grownBy w' o) : RowF o l u w' := by
 obtain ⟨A, c, h1, h2⟩ := h
 refine ⟨A, c, h1, (h2.keep fun a ha => ?_).mono fun k hk => ⟨Nat.lt_of_lt_of_le hk.1 hg.size, hk.2⟩⟩
 exact World.cell?_of_block (hg.block a.block ha.1 ha.2)
theorem RowF.own {B : Nat} {e : TypeId} {l : List UInt8} {v : Value} (h : w.ownsRow B e 1 v l.length (l.map bv)) (hB : ∀ k, o = some k → k < B) : RowF o l v w := by
 rcases h.2 with ⟨hv, h0⟩ | ⟨g, cap, cur, hv, hb, hg, hnc, hm, hs, ht⟩
 ·have : l.map bv = [] := List.eq_nil_of_length_eq_zero (by have := h.1; omega)
  exact ⟨none, 0, by rw [hv, h0], by rw [this]; exact RdS.nil⟩
 ·obtain ⟨A, c, h1, h2, -, -⟩ := own_rdB h
  exact ⟨A, c, h1, h2.mono fun k hk => ⟨hk.2, fun e => by have := hB k e.symm; have := hk.1; omega⟩⟩
theorem RowF.rd {l : List UInt8} {u : Value} (h : RowF o l u w) : ∃ A c, u = .slice A l.length c ∧ RdB w w.heap.size A l := by
 obtain ⟨A, c, h1, h2⟩ := h
 exact ⟨A, c, h1, h2.rd fun k hk => hk.1⟩
/-- A row that was just built, not in block o. -/
def BltF (o : Option Nat) (xs : List Value) (n : Nat) (t : TypeId) (u : Value) (w : World) : Prop := ∃ g, u = .slice (some ⟨g, 0, none⟩) n n ∧ Blk w g xs t ∧ some g ≠ o
theorem BltF.grow {xs : List Value} {n : Nat} {t : TypeId} {u : Value} (h : BltF o xs n t u w) (hg : w.grownBy w' o) : BltF o xs n t u w' := by
 obtain ⟨g, h1, h2, h3⟩ := h
 exact ⟨g, h1, h2.grown hg (Ne.symm h3), h3⟩
theorem blk_rdE {b : Nat} {xs : List Value} {t : TypeId} (h : Blk w b xs t) : Rd w w.heap.size (some ⟨b, 0, none⟩) xs := fun _ => ⟨b, 0, rfl, h.lt, fun j u hu => by rw [Nat.zero_add]; exact h.cell j u hu⟩
end
theorem alloc_belowE (w : World) (o : Obj) : Below w.heap.size w (w.alloc o) := (Below.refl _ _).alloc (Nat.le_refl _) _
def Fact.ownF (B : Nat) (l : List UInt8) : Fact := ⟨fun v w => w.ownsRow B 5 1 v l.length (l.map bv), fun _ _ _ h hb => own_below h hb (Nat.le_refl _)⟩
def Fact.intsF (xs : List Int) (n : Nat) : Fact := ⟨fun v w => ∃ g, v = .slice (some ⟨g, 0, none⟩) n n ∧ Blk w g (xs.map iv) 3, fun _ _ _ ⟨g, h1, h2⟩ hb => ⟨g, h1, h2.below hb h2.lt⟩⟩
theorem own_own {w : World} {base base' size size' n n' : Nat} {e e' : TypeId} {v v' : Value} {xs xs' : List Value} (h : w.ownsRow base e size v n xs) (h' : w.ownsRow base' e' size' v' n' xs') (ht : e ≠ e') : ∀ k, v.ownBlock = some k → v'.ownBlock ≠ some k := by
 intro k hk hk'
 rcases h.2 with ⟨rfl, -⟩ | ⟨g, cap, cur, rfl, -, hg, -⟩
 ·simp [Value.ownBlock] at hk
 rcases h'.2 with ⟨rfl, -⟩ | ⟨g', cap', cur', rfl, -, hg', -⟩
 ·simp [Value.ownBlock] at hk'
 have e1 : g = k := by simpa [Value.ownBlock] using hk
 have e2 : g' = k := by simpa [Value.ownBlock] using hk'
 subst e1 e2
 rw [hg] at hg'
 injection hg' with hg'
 injection hg' with _ h2 _
 exact ht h2
theorem encMoves_take : ∀ (l : List (Int × Int)) (k : Nat) (m : Int × Int), l[k]? = some m → (Sm.encMoves l).take (2 * (k + 1)) = (Sm.encMoves l).take (2 * k) ++ [m.1, m.2] := by
 intro l
 induction l with
 | nil => intro k m h; simp at h
 | cons a l ih =>
  intro k m h
  have e : Sm.encMoves (a :: l) = a.1 :: a.2 :: Sm.encMoves l := rfl
  rw [e]
  cases k with
  | zero =>
   obtain rfl : a = m := by simpa using h
   rfl
  | succ k =>
   have := ih k m (by simpa using h)
   rw [show 2 * (k + 1 + 1) = 2 * (k + 1) + 2 by omega, show 2 * (k + 1) = 2 * k + 2 by omega, List.take_succ_cons, List.take_succ_cons, List.take_succ_cons, List.take_succ_cons, show 2 * k + 2 = 2 * (k + 1) by omega, this]
   rfl
/-- The row under way in a region whose operation k appends to it. -/
def EnJ (base : Nat) (w0 : World) (v0 : Value) (L0 L1 : List UInt8) (b : Bool) (v1 : Value) (w : World) : Prop :=
 w0.grownBy w v0.ownBlock ∧ if b = true then w.ownsRow base 5 1 v1 L1.length (L1.map bv) else w.ownsRow base 5 1 v0 L0.length (L0.map bv)
theorem EnJ.new {base : Nat} {w0 w w' : World} {v0 v1 : Value} {L0 L1 : List UInt8} {b : Bool} (h : EnJ base w0 v0 L0 L1 b v1 w) (hb : Below w.heap.size w w') : EnJ base w0 v0 L0 L1 b v1 w' := by
 refine ⟨Grow.trans h.1 (Grow.below hb _), ?_⟩
 have := h.2
 split
 ·rename_i e; rw [if_pos e] at this; exact own_below this hb (Nat.le_refl _)
 ·rename_i e; rw [if_neg e] at this; exact own_below this hb (Nat.le_refl _)
/-- Encode's memory: the schema's box, the bytes so far. -/
def EnO (W : World) (xb : Nat) (xc : List Value) (v : Value) (L : List UInt8) (w : World) : Prop :=
 Blk w xb xc 27 ∧ w.ownsRow (xb + 1) 5 1 v L.length (L.map bv) ∧ Below xb W w
section
variable {W w w' : World} {xb : Nat} {xc : List Value} {v v' : Value} {L L' : List UInt8}
theorem EnO.new (h : EnO W xb xc v L w) (hb : Below w.heap.size w w') : EnO W xb xc v L w' := ⟨h.1.below hb h.1.lt, own_below h.2.1 hb (Nat.le_refl _), h.2.2.trans (hb.mono (Nat.le_of_lt h.1.lt))⟩
theorem EnO.bel (h : EnO W xb xc v L w) (hg : w.grownBy w' v.ownBlock) : Below xb w w' :=
 (Below.refl _ w).grown hg (Nat.le_of_lt h.1.lt) fun k hk => by have := (h.2.1.lt k hk).1; omega
theorem EnO.app (h : EnO W xb xc v L w) (ho : w'.ownsRow (xb + 1) 5 1 v' L'.length (L'.map bv)) (hg : w.grownBy w' v.ownBlock) : EnO W xb xc v' L' w' :=
 ⟨h.1.growO h.2.1 (by decide) hg, ho, h.2.2.trans (h.bel hg)⟩
theorem EnO.big (h : EnO W xb xc v L w) : xb + 1 ≤ w.heap.size := h.1.lt
theorem EnO.old (h : EnO W xb xc v L w) : ∀ k, v.ownBlock = some k → k < w.heap.size := fun k hk => (h.2.1.lt k hk).2
end
end Go.Proofs.YtkgddcemocfgfaaGreatDoor
end

