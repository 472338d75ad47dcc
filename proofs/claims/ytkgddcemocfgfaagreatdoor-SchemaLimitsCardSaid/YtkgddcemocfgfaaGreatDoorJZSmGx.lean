import Derived.Test.YtkgddcemocfgfaaGreatDoorJZSmGn
import Derived.Test.YtkgddcemocfgfaaGreatDoorJZSmGw

section
/- The program: Parse (over a contract of Valid). -/


namespace Go.Proofs.YtkgddcemocfgfaaGreatDoor
open Go.RowKit
set_option linter.unusedVariables false
set_option linter.unusedSimpArgs false
set_option maxRecDepth 100000

namespace Sm
theorem whileB_len {α : Type} {B : PS → Bool} {V : PS → α × PS} : ∀ (n : Nat) (a : List α) (p : PS), (whileB B V n a p).1.length ≤ a.length + n := by
 intro n
 induction n with
 | zero => intro a p; exact Nat.le_refl _
 | succ n ih =>
  intro a p
  cases hb : B p with
  | true =>
   rw [whileB_next _ _ _ hb]
   have := ih (a ++ [(V p).1]) (V p).2
   rw [List.length_append] at this
   simp only [List.length_cons, List.length_nil] at this
   omega
  | false => rw [whileB_end _ _ _ hb]; show a.length ≤ _; omega
theorem schemaGo_len (T : List ByteArray) (p : PS) : (schemaGo T p).1.kinds.length ≤ T.length + 1 ∧ (schemaGo T p).1.lives.length ≤ T.length + 1 ∧ (schemaGo T p).1.rules.length ≤ T.length + 1 := by
 unfold schemaGo kindsGo livesGo rulesGo
 dsimp only
 exact ⟨Nat.le_trans (whileB_len _ _ _) (by simp), Nat.le_trans (whileB_len _ _ _) (by simp), Nat.le_trans (whileB_len _ _ _) (by simp)⟩
/-- What Parse answers, by where the reader stands at the end. -/
theorem parseR_at (s : ByteArray) (hs : ¬ 8192 < s.size) (ts : List (Nat × Nat)) (stop : Nat) (hts : ts = (scan (sb s)).1) (hst : stop = (scan (sb s)).2) :
  parseR s = if (rulesR (tokT s ts)).2.f = true ∨ posG ts stop (rulesR (tokT s ts)).2.i < s.size then (zeroSc, posG ts stop (rulesR (tokT s ts)).2.i, 2)
   else if validE (scR (tokT s ts)) ≠ 0 then (zeroSc, 0, 4) else (scR (tokT s ts), 0, 0) := by
 have hok := scan_ok (sb s)
 rw [← hts, ← hst, sb_len] at hok
 have hTl : (tokT s ts).length = ts.length := by unfold tokT; rw [List.length_map]
 unfold parseR
 rw [if_neg hs]
 simp only [← hts, ← hst]
 obtain ⟨q, hq⟩ : ∃ q, q = (rulesR (tokT s ts)).2 := ⟨_, rfl⟩
 rw [← hq, hTl]
 by_cases hlt : q.i < ts.length
 ·obtain ⟨t, ht⟩ : ∃ t, ts[q.i]? = some t := ⟨_, List.getElem?_eq_getElem hlt⟩
  have hp : posG ts stop q.i = t.1 := by unfold posG; rw [List.getD_eq_getElem?_getD, List.getElem?_map, ht]; rfl
  have hb := hok.2.2 t (List.mem_of_getElem? ht)
  rw [if_pos hlt, if_pos (.inr (by rw [hp]; omega)), hp, List.getD_eq_getElem?_getD, ht]
  rfl
 ·have hp : posG ts stop q.i = stop := by unfold posG; rw [List.getD_eq_getElem?_getD, List.getElem?_eq_none (by rw [List.length_map]; omega)]; rfl
  rw [if_neg hlt, hp]
end Sm
/-- What is asked of Valid. -/
def GValid : Prop := ∀ (x : Sm.Sc) (Ak : Option Addr) (ck : Nat) (Al : Option Addr) (cl : Nat) (Ar : Option Addr) (cr : Nat) (w : World), SDoor w → doorB ≤ w.heap.size → Rows KdC w w.heap.size Ak x.kinds → Rows LfC w w.heap.size Al x.lives → Rows RuC w w.heap.size Ar x.rules → Sm.FewS x →
 x.kinds.length ≤ 1000000000 → x.lives.length ≤ 1000000000 → x.rules.length ≤ 1000000000 →
 Calls Tryz.prog 12 #[.agg #[.int .i64 x.version, .slice Ak x.kinds.length ck, .slice Al x.lives.length cl, .slice Ar x.rules.length cr]] w fun e w' => e = .returned (.int .i64 (Sm.validE x)) ∧ Below w.heap.size w w'

set_option maxHeartbeats 8000000 in
theorem gParse_any (hV : GValid) (s : ByteArray) (W : World) (hD : SDoor W) (hg : doorB ≤ W.heap.size) : Calls Tryz.prog 26 #[.string s] W (PrA (Sm.parseR s) W) := by
 by_cases hs : 8192 < s.size
 ·have hZ : Sm.parseR s = (Sm.zeroSc, 8192, 4) := by unfold Sm.parseR; rw [if_pos hs]
  rw [hZ]
  have hI : (8192 : Int) < s.size := by omega
  have HA := Lib.hid (show Blk (W.alloc (.cells scZ.toArray 27)) W.heap.size scZ 27 from Blk.new W scZ _)
  have g0 := HA.out.frozen 0
  have g1 := HA.out.frozen 1
  have g2 := HA.out.frozen 2
  have g3 := HA.out.frozen 3
  clear hZ hs hV hD hg
  go_enter Tryz.func26, Tryz.ntmps26
  go_wp2_with fail
  exact bodyPost_ret (results_cell_row_tmp2 rfl _ _ W.heap.size 27 scZ.toArray (0, 0) _ rfl HA.out Tryz.underlying27 rfl (by kernel_rfl)) rfl
   ⟨scZ, rfl, ScS.zero _ _, (Below.refl _ W).alloc (Nat.le_refl _) _⟩
 ·have hs8 : s.size ≤ 8192 := by omega
  obtain ⟨ts, hts⟩ : ∃ l, l = (Sm.scan (sb s)).1 := ⟨_, rfl⟩
  obtain ⟨stop, hstop⟩ : ∃ n, n = (Sm.scan (sb s)).2 := ⟨_, rfl⟩
  have hok := Sm.scan_ok (sb s)
  have hch := Sm.scan_chain (sb s)
  rw [← hts, ← hstop] at hok hch
  rw [sb_len] at hok
  have ht8 : ts.length ≤ 8192 := by omega
  have hZ := Sm.parseR_at s hs ts stop hts hstop
  obtain ⟨Z, hZe⟩ : ∃ Z, Z = Sm.parseR s := ⟨_, rfl⟩
  rw [← hZe] at hZ ⊢
  have hTl : (tokT s ts).length = ts.length := by unfold tokT; rw [List.length_map]
  have hcmp := Sm.schema_cmp (tokT s ts)
  have hong := Sm.onG (tokT s ts)
  rw [hTl] at hong
  have hfew := Sm.scR_few (tokT s ts) (by omega)
  obtain ⟨q, hq⟩ : ∃ q, q = (Sm.rulesR (tokT s ts)).2 := ⟨_, rfl⟩
  obtain ⟨X, hX⟩ : ∃ X, X = (Sm.schemaGo (tokT s ts) ⟨0, false⟩).1 := ⟨_, rfl⟩
  obtain ⟨at_, hat⟩ : ∃ n, n = Sm.posG ts stop q.i := ⟨_, rfl⟩
  have hl3 : X.kinds.length ≤ 1000000000 ∧ X.lives.length ≤ 1000000000 ∧ X.rules.length ≤ 1000000000 := by
   have := Sm.schemaGo_len (tokT s ts) ⟨0, false⟩
   rw [← hX, hTl] at this
   omega
  rw [← hq, ← hX] at hcmp
  rw [← hq, ← hat] at hZ
  have hDB : ∀ V, Below W.heap.size W V → SDoor V := fun V hb => hD.below hb hg
  have hgB : ∀ rb, W.heap.size < rb → doorB ≤ rb := fun rb h => by omega
  have cF := fun rb V hV => gFirst_at rb s ts stop V hV hch hs8
  have cS := fun rb V (hV : RdAt rb s ts stop ⟨0, false⟩ V) (hb : Below W.heap.size W V) (hr : W.heap.size < rb) => gSchema_any rb s ts stop ⟨0, false⟩ V hV (hDB V hb) (hgB rb hr) ht8 hong
  simp only [← hX] at cS
  have hps : (Sm.schemaGo (tokT s ts) ⟨0, false⟩).2 = q := hcmp.1
  simp only [hps] at cS
  have cV := fun Ak ck Al cl Ar cr V (hb : Below W.heap.size W V) hK hL hR (hF : Sm.FewS X) => hV X Ak ck Al cl Ar cr V (hDB V hb) (Nat.le_trans hg hb.size) hK hL hR hF hl3.1 hl3.2.1 hl3.2.2
  have hXs : q.f = false → X = Sm.scR (tokT s ts) := hcmp.2
  have CF := Lib.hid cF
  have CS := Lib.hid cS
  have CV := Lib.hid cV
  have HZ := Lib.hid (And.intro hZ (And.intro hXs (And.intro hfew hat)))
  have hbel0 : Below W.heap.size W ((W.alloc (.cells scZ.toArray 27)).alloc (.cells #[.string s, .int .i64 0, .string ⟨#[]⟩, .bool false] 102)) := ((Below.refl _ _).alloc (Nat.le_refl _) _).alloc (by simp) _
  have hblk0 : Blk ((W.alloc (.cells scZ.toArray 27)).alloc (.cells #[.string s, .int .i64 0, .string ⟨#[]⟩, .bool false] 102)) (W.heap.size + 1) [.string s, .int .i64 0, .string Sm.nil, .bool false] 102 := by
   have := Blk.new (W.alloc (.cells scZ.toArray 27)) [.string s, .int .i64 0, .string ⟨#[]⟩, .bool false] 102
   rw [World.size_alloc] at this
   exact this
  have hres0 : Blk ((W.alloc (.cells scZ.toArray 27)).alloc (.cells #[.string s, .int .i64 0, .string ⟨#[]⟩, .bool false] 102)) W.heap.size scZ 27 := (Blk.new W scZ _).alloc _
  have H0 := Lib.hid (And.intro hbel0 (And.intro hblk0 hres0))
  clear hV hD hg hok hch hts hstop hZ hZe hcmp hong hfew hq hX hat hl3 hDB hgB cF cS cV hps hXs hbel0 hblk0 hres0 hs hTl ht8
  go_enter Tryz.func26, Tryz.ntmps26
  go_wp2_with fail
  obtain ⟨W1, hW1⟩ : ∃ v, v = (W.alloc (.cells scZ.toArray 27)).alloc (.cells #[.string s, .int .i64 0, .string ⟨#[]⟩, .bool false] 102) := ⟨_, rfl⟩
  have hW1' : W1 = (W.alloc (.cells #[.int .i64 0, .slice none 0 0, .slice none 0 0, .slice none 0 0] 27)).alloc (.cells #[.string s, .int .i64 0, .string ⟨#[]⟩, .bool false] 102) := hW1
  rw [← hW1] at H0
  rw [← hW1']
  obtain ⟨ob, hob⟩ : ∃ n, n = W.heap.size := ⟨_, rfl⟩
  obtain ⟨rb, hrb⟩ : ∃ n, n = W.heap.size + 1 := ⟨_, rfl⟩
  have HOB := Lib.hid (And.intro hob (show W.heap.size < rb by omega))
  have HOR := Lib.hid (show ob < rb by omega)
  have H0 := Lib.hid (And.intro H0.out.1 (And.intro (show Blk W1 rb [.string s, .int .i64 0, .string Sm.nil, .bool false] 102 by rw [hrb]; exact H0.out.2.1) (show Blk W1 ob scZ 27 by rw [hob]; exact H0.out.2.2)))
  rw [← hrb, ← hob]
  clear hW1 hW1' hob hrb
  refine (CF.out rb _ H0.out.2.1).mono ?_
  rintro e w1 ⟨rfl, ha, hb⟩
  have H1 := Lib.hid (And.intro ha (And.intro (H0.out.1.trans (hb.below (by have := HOB.out.2; omega) H0.out.1.size)) (H0.out.2.2.but hb (by have := HOR.out; omega))))
  clear ha hb CF H0
  go_wp2_with fail
  refine (CS.out rb _ H1.out.1 H1.out.2.1 HOB.out.2).mono ?_
  rintro e w2 ⟨c, rfl, hsc, ha, hb⟩
  obtain ⟨Ak, ck, Al, cl, Ar, cr, rfl, hrk, hrl, hrr, hk1, hk2, hl1, hl2, hr1, hr2⟩ := hsc
  obtain ⟨nk, hnk⟩ : ∃ n, n = X.kinds.length := ⟨_, rfl⟩
  obtain ⟨nl, hnl⟩ : ∃ n, n = X.lives.length := ⟨_, rfl⟩
  obtain ⟨nr, hnr⟩ : ∃ n, n = X.rules.length := ⟨_, rfl⟩
  obtain ⟨ver, hver⟩ : ∃ n, n = X.version := ⟨_, rfl⟩
  rw [← hnk] at hk1
  rw [← hnl] at hl1
  rw [← hnr] at hr1
  rw [← hnk, ← hnl, ← hnr, ← hver]
  have HN := Lib.hid (And.intro hnk (And.intro hnl (And.intro hnr (And.intro hver (And.intro hk1 (And.intro hk2 (And.intro hl1 (And.intro hl2 (And.intro hr1 hr2)))))))))
  have hres2 := H1.out.2.2.but hb (by have := HOR.out; omega)
  have hw2 : Below W.heap.size W w2 := H1.out.2.1.trans (hb.below (by have := HOB.out.2; omega) H1.out.2.1.size)
  have hbel3 : Below w2.heap.size w2 (w2.alloc (.cells #[.int .i64 ver, .slice Ak nk ck, .slice Al nl cl, .slice Ar nr cr] 27)) := (Below.refl _ _).alloc (Nat.le_refl _) _
  have hnew3 := Blk.new w2 [.int .i64 ver, .slice Ak nk ck, .slice Al nl cl, .slice Ar nr cr] 27
  obtain ⟨w3, hw3⟩ : ∃ v, v = w2.alloc (.cells #[.int .i64 ver, .slice Ak nk ck, .slice Al nl cl, .slice Ar nr cr] 27) := ⟨_, rfl⟩
  have hnew3' : Blk w3 w2.heap.size [.int .i64 ver, .slice Ak nk ck, .slice Al nl cl, .slice Ar nr cr] 27 := by rw [hw3]; exact hnew3
  rw [← hw3] at hbel3
  obtain ⟨fb, hfb⟩ : ∃ n, n = w2.heap.size := ⟨_, rfl⟩
  rw [← hfb] at hnew3'
  have hz1 : w1.heap.size ≤ w2.heap.size := hb.size
  have hob1 : ob < w1.heap.size := H1.out.2.2.lt
  have hrb1 : rb < w1.heap.size := H1.out.1.blk.lt
  have H3 := Lib.hid (And.intro (ha.below hbel3) (And.intro (hw2.trans (hbel3.mono hw2.size)) (And.intro (hres2.below hbel3 hres2.lt) (And.intro hnew3' (show ob < fb ∧ rb < fb by omega)))))
  have HROWS := Lib.hid (And.intro hrk (And.intro hrl (And.intro hrr (And.intro hbel3 (And.intro hob1 hfb)))))
  have HW3 := Lib.hid hw3
  clear hnk hnl hnr hver hk1 hk2 hl1 hl2 hr1 hr2 hrk hrl hrr ha hb hres2 hw2 hbel3 hnew3 hnew3' hz1 hob1 hrb1 CS H1 hfb hw3
  have d1 := H3.out.1.blk.cell 1 _ rfl
  have d3 := H3.out.1.blk.cell 3 _ rfl
  rw [← HZ.out.2.2.2] at d1
  rw [HW3.out] at d1 d3
  obtain ⟨qf, hqf⟩ : ∃ b, b = q.f := ⟨_, rfl⟩
  rw [← hqf] at d3
  have HQF := Lib.hid hqf
  clear hqf
  by_cases hbad : qf = true ∨ at_ < s.size
  ·have hZ : Z = (Sm.zeroSc, at_, 2) := by rw [HZ.out.1, if_pos (by rw [← HQF.out]; exact hbad)]
   have HZZ := Lib.hid hZ
   clear hZ
   have hbadI : qf = true ∨ (qf = false ∧ (at_ : Int) < s.size) := by
    cases qf with
    | true => exact .inl rfl
    | false => exact .inr ⟨rfl, Int.ofNat_lt.mpr (hbad.resolve_left (by decide))⟩
   clear hbad
   rcases hbadI with hq1 | ⟨hq1, hltI⟩
   ·subst hq1
    go_wp2_with fail
    rw [← HW3.out]
    have hRC : ∀ w, But ob w3 w → w.cell? ⟨rb, 1, none⟩ = some (.int .i64 at_) := fun w hb => by
     rw [HZ.out.2.2.2]; exact (H3.out.1.blk.but hb (Ne.symm (by have := HOR.out; omega))).cell 1 _ rfl
    have CRC := Lib.hid hRC
    clear hRC
    refine wp_region_listX [32, 33, 34, 35, 36, 1000005] (fun _ _ w' => But ob w3 w' ∧ Blk w' ob scZ 27) (fun _ _ => True)
     [fun u _ => u = .agg scZ.toArray, fun u _ => u = .pointer (some ⟨rb, 0, none⟩), fun u _ => u = .pointer (some ⟨rb, 0, none⟩), fun u _ => u = .pointer (some ⟨rb, 1, none⟩), fun u _ => u = .int .i64 at_, fun _ _ => True]
     (by intro f hf v w w' h _; simp only [List.mem_cons, List.not_mem_nil, or_false] at hf; rcases hf with rfl | rfl | rfl | rfl | rfl | rfl <;> exact h)
     (fun _ => ⟨(But.refl ob w3).drewn, H3.out.2.2.1.drew⟩) (by kernel_rfl) (by kernel_rfl) ?_ ?_
    ·intro y hy d vals b w' hJ hu hd hall hx o ho
     match y, hy with
     | 0, _ =>
      obtain rfl := Option.some.inj ho
      exact runs_ok (by unfold execOp; go_simp; rfl) ⟨rfl, trivial, hJ⟩
     | 1, _ =>
      obtain rfl := Option.some.inj ho
      exact ⟨hx 5 rfl, trivial, hJ⟩
     | 2, _ =>
      obtain rfl := Option.some.inj ho
      have e : b.tmps.getD 33 undef = .pointer (some ⟨rb, 0, none⟩) := (hd 1 (by kernel_rfl) (by decide)).2 (by decide)
      exact runs_ok (by unfold execOp; simp only [Act.eval, e]; go_simp) ⟨rfl, trivial, hJ⟩
     | 3, _ =>
      obtain rfl := Option.some.inj ho
      have e : b.tmps.getD 34 undef = .pointer (some ⟨rb, 0, none⟩) := (hd 2 (by kernel_rfl) (by decide)).2 (by decide)
      exact runs_ok (by unfold execOp; simp only [Act.eval, e]; go_simp) ⟨rfl, trivial, hJ⟩
     | 4, _ =>
      obtain rfl := Option.some.inj ho
      have e : b.tmps.getD 35 undef = .pointer (some ⟨rb, 1, none⟩) := (hd 3 (by kernel_rfl) (by decide)).2 (by decide)
      have hc := CRC.out w' hJ.1
      exact runs_ok (by unfold execOp; simp only [Act.eval, e]; go_simp) ⟨rfl, trivial, hJ⟩
     | 5, _ =>
      obtain rfl := Option.some.inj ho
      have e0 : b.tmps.getD 32 undef = .agg scZ.toArray := (hd 0 (by kernel_rfl) (by decide)).2 (by decide)
      have e6 : b.tmps.getD 2 undef = .pointer (some ⟨ob, 0, none⟩) := hx 2 rfl
      have hr := run_storeAt_mid (P := Tryz.prog) w' ob 0 27 scZ.toArray (hJ.2.there 0 _ (Nat.le_refl 4)) (by kernel_rfl) (by simp [scZ, Value.oneCell'])
      rw [← e0, ← e6] at hr
      exact runs_unit rfl hr ⟨trivial, trivial, ((((hJ.1.setCell ⟨ob, 0, none⟩ _ rfl).setCell ⟨ob, 1, none⟩ _ rfl).setCell ⟨ob, 2, none⟩ _ rfl).setCell ⟨ob, 3, none⟩ _ rfl), hJ.2.whole scZ rfl⟩
    ·intro d vals x7 hJ hall hf
     have v4 : vals 4 = .int .i64 at_ := hf 4 (by decide)
     simp only [puts, List.length_cons, List.length_nil, Nat.zero_add, Nat.reduceAdd, List.drop_succ_cons, List.drop_zero, v4]
     have HJ7 := Lib.hid hJ
     clear hJ hall hf v4
     go_wp2_with fail
     rw [HZZ.out]
     have hbl : Below W.heap.size W x7 := H3.out.2.1.trans ((Below.refl _ _).trans (HJ7.out.1.below (by rw [HOB.out.1]; exact Nat.le_refl _) H3.out.2.1.size))
     exact bodyPost_ret (results_cell_row_tmp2 rfl _ _ ob 27 scZ.toArray (0, 0) _ rfl HJ7.out.2 Tryz.underlying27 rfl (by kernel_rfl)) rfl
      ⟨scZ, rfl, ScS.zero _ _, hbl⟩
   ·subst hq1
    go_wp2_with fail
    rw [← HW3.out]
    have hRC : ∀ w, But ob w3 w → w.cell? ⟨rb, 1, none⟩ = some (.int .i64 at_) := fun w hb => by
     rw [HZ.out.2.2.2]; exact (H3.out.1.blk.but hb (Ne.symm (by have := HOR.out; omega))).cell 1 _ rfl
    have CRC := Lib.hid hRC
    clear hRC
    refine wp_region_listX [32, 33, 34, 35, 36, 1000005] (fun _ _ w' => But ob w3 w' ∧ Blk w' ob scZ 27) (fun _ _ => True)
     [fun u _ => u = .agg scZ.toArray, fun u _ => u = .pointer (some ⟨rb, 0, none⟩), fun u _ => u = .pointer (some ⟨rb, 0, none⟩), fun u _ => u = .pointer (some ⟨rb, 1, none⟩), fun u _ => u = .int .i64 at_, fun _ _ => True]
     (by intro f hf v w w' h _; simp only [List.mem_cons, List.not_mem_nil, or_false] at hf; rcases hf with rfl | rfl | rfl | rfl | rfl | rfl <;> exact h)
     (fun _ => ⟨(But.refl ob w3).drewn, H3.out.2.2.1.drew⟩) (by kernel_rfl) (by kernel_rfl) ?_ ?_
    ·intro y hy d vals b w' hJ hu hd hall hx o ho
     match y, hy with
     | 0, _ =>
      obtain rfl := Option.some.inj ho
      exact runs_ok (by unfold execOp; go_simp; rfl) ⟨rfl, trivial, hJ⟩
     | 1, _ =>
      obtain rfl := Option.some.inj ho
      exact ⟨hx 5 rfl, trivial, hJ⟩
     | 2, _ =>
      obtain rfl := Option.some.inj ho
      have e : b.tmps.getD 33 undef = .pointer (some ⟨rb, 0, none⟩) := (hd 1 (by kernel_rfl) (by decide)).2 (by decide)
      exact runs_ok (by unfold execOp; simp only [Act.eval, e]; go_simp) ⟨rfl, trivial, hJ⟩
     | 3, _ =>
      obtain rfl := Option.some.inj ho
      have e : b.tmps.getD 34 undef = .pointer (some ⟨rb, 0, none⟩) := (hd 2 (by kernel_rfl) (by decide)).2 (by decide)
      exact runs_ok (by unfold execOp; simp only [Act.eval, e]; go_simp) ⟨rfl, trivial, hJ⟩
     | 4, _ =>
      obtain rfl := Option.some.inj ho
      have e : b.tmps.getD 35 undef = .pointer (some ⟨rb, 1, none⟩) := (hd 3 (by kernel_rfl) (by decide)).2 (by decide)
      have hc := CRC.out w' hJ.1
      exact runs_ok (by unfold execOp; simp only [Act.eval, e]; go_simp) ⟨rfl, trivial, hJ⟩
     | 5, _ =>
      obtain rfl := Option.some.inj ho
      have e0 : b.tmps.getD 32 undef = .agg scZ.toArray := (hd 0 (by kernel_rfl) (by decide)).2 (by decide)
      have e6 : b.tmps.getD 2 undef = .pointer (some ⟨ob, 0, none⟩) := hx 2 rfl
      have hr := run_storeAt_mid (P := Tryz.prog) w' ob 0 27 scZ.toArray (hJ.2.there 0 _ (Nat.le_refl 4)) (by kernel_rfl) (by simp [scZ, Value.oneCell'])
      rw [← e0, ← e6] at hr
      exact runs_unit rfl hr ⟨trivial, trivial, ((((hJ.1.setCell ⟨ob, 0, none⟩ _ rfl).setCell ⟨ob, 1, none⟩ _ rfl).setCell ⟨ob, 2, none⟩ _ rfl).setCell ⟨ob, 3, none⟩ _ rfl), hJ.2.whole scZ rfl⟩
    ·intro d vals x7 hJ hall hf
     have v4 : vals 4 = .int .i64 at_ := hf 4 (by decide)
     simp only [puts, List.length_cons, List.length_nil, Nat.zero_add, Nat.reduceAdd, List.drop_succ_cons, List.drop_zero, v4]
     have HJ7 := Lib.hid hJ
     clear hJ hall hf v4
     go_wp2_with fail
     rw [HZZ.out]
     have hbl : Below W.heap.size W x7 := H3.out.2.1.trans ((Below.refl _ _).trans (HJ7.out.1.below (by rw [HOB.out.1]; exact Nat.le_refl _) H3.out.2.1.size))
     exact bodyPost_ret (results_cell_row_tmp2 rfl _ _ ob 27 scZ.toArray (0, 0) _ rfl HJ7.out.2 Tryz.underlying27 rfl (by kernel_rfl)) rfl
      ⟨scZ, rfl, ScS.zero _ _, hbl⟩
  ·have hq0 : qf = false := by cases qf with | false => rfl | true => exact absurd (.inl rfl) hbad
   subst hq0
   have hltI : ¬ (at_ : Int) < s.size := fun x => hbad (.inr (by omega))
   have hZ : Z = if Sm.validE X ≠ 0 then (Sm.zeroSc, 0, 4) else (X, 0, 0) := by
    rw [HZ.out.1, if_neg (by rw [← HQF.out]; exact hbad), HZ.out.2.1 HQF.out.symm]
   have hXS := HZ.out.2.1 HQF.out.symm
   have hF : Sm.FewS X := by rw [hXS]; exact HZ.out.2.2.1
   have hsz3 : w2.heap.size ≤ w3.heap.size := HROWS.out.2.2.2.1.size
   have hz1 : ob < w1.heap.size ∧ fb = w2.heap.size := ⟨HROWS.out.2.2.2.2.1, HROWS.out.2.2.2.2.2⟩
   have cV := by
    have hkp : ∀ S : Nat → Prop, (∀ k, S k → k < w2.heap.size) → KeepS S w2 w3 := fun S hS a ha => HROWS.out.2.2.2.1.cell (hS _ ha)
    have k0 : ∀ k, Fresh w1 w2 k → k < w2.heap.size := fun k h => h.2
    have hk' := (HROWS.out.1.keep (hkp _ k0) fun _ _ h => h.keep (hkp _ k0)).rows (B := w3.heap.size) (D := KdC) (fun k h => Nat.lt_of_lt_of_le (k0 k h) hsz3) fun _ _ h => h.kd fun k h => Nat.lt_of_lt_of_le (k0 k h) hsz3
    have hl' := (HROWS.out.2.1.keep (hkp _ k0) fun _ _ h => h.keep (hkp _ k0)).rows (B := w3.heap.size) (D := LfC) (fun k h => Nat.lt_of_lt_of_le (k0 k h) hsz3) fun _ _ h => h.lf fun k h => Nat.lt_of_lt_of_le (k0 k h) hsz3
    have hr' := (HROWS.out.2.2.1.keep (hkp _ k0) fun _ _ h => h.keep (hkp _ k0)).rows (B := w3.heap.size) (D := RuC) (fun k h => Nat.lt_of_lt_of_le (k0 k h) hsz3) fun _ _ h => h
    have hc := CV.out Ak ck Al cl Ar cr w3 H3.out.2.1 hk' hl' hr' hF
    rw [← HN.out.1, ← HN.out.2.1, ← HN.out.2.2.1, ← HN.out.2.2.2.1] at hc
    exact hc
   obtain ⟨vE, hvE⟩ : ∃ v, v = Sm.validE X := ⟨_, rfl⟩
   rw [← hvE] at hZ
   simp only [← hvE] at cV
   have c0 := H3.out.2.2.2.1.cell 0 _ rfl
   have c1 := H3.out.2.2.2.1.cell 1 _ rfl
   have c2 := H3.out.2.2.2.1.cell 2 _ rfl
   have c3 := H3.out.2.2.2.1.cell 3 _ rfl
   rw [HW3.out] at c0 c1 c2 c3
   have HZ1 := Lib.hid (And.intro hsz3 hz1)
   have CV3 := Lib.hid cV
   have HZZ := Lib.hid hZ
   clear hZ cV hvE hbad hXS hF hsz3 hz1 CV HZ
   go_wp2_with fail
   rw [← HW3.out]
   refine CV3.out.mono ?_
   rintro e x7 ⟨rfl, hb6⟩
   have hr6 := H3.out.2.2.1.below hb6 H3.out.2.2.1.lt
   have hf6 := H3.out.2.2.2.1.below hb6 H3.out.2.2.2.1.lt
   clear c0 c1 c2 c3 d1 d3
   have r0 := hr6.cell 0 _ rfl
   have r1 := hr6.cell 1 _ rfl
   have r2 := hr6.cell 2 _ rfl
   have r3 := hr6.cell 3 _ rfl
   have g0 := hr6.frozen 0
   have g1 := hr6.frozen 1
   have g2 := hr6.frozen 2
   have g3 := hr6.frozen 3
   have c0 := hf6.cell 0 _ rfl
   have c1 := hf6.cell 1 _ rfl
   have c2 := hf6.cell 2 _ rfl
   have c3 := hf6.cell 3 _ rfl
   rw [HZ1.out.2.2] at c0 c1 c2 c3
   have hE : ∀ a0 a1 a2 a3, Below W.heap.size W ((((x7.setCell ⟨ob, 0, none⟩ a0).setCell ⟨ob, 1, none⟩ a1).setCell ⟨ob, 2, none⟩ a2).setCell ⟨ob, 3, none⟩ a3) ∧ Blk ((((x7.setCell ⟨ob, 0, none⟩ a0).setCell ⟨ob, 1, none⟩ a1).setCell ⟨ob, 2, none⟩ a2).setCell ⟨ob, 3, none⟩ a3) ob [a0, a1, a2, a3] 27 := fun a0 a1 a2 a3 => by
    have hbx : Below W.heap.size W x7 := H3.out.2.1.trans (hb6.mono H3.out.2.1.size)
    have hbu : But ob x7 ((((x7.setCell ⟨ob, 0, none⟩ a0).setCell ⟨ob, 1, none⟩ a1).setCell ⟨ob, 2, none⟩ a2).setCell ⟨ob, 3, none⟩ a3) := (((((But.refl ob x7).setCell ⟨ob, 0, none⟩ _ rfl).setCell ⟨ob, 1, none⟩ _ rfl).setCell ⟨ob, 2, none⟩ _ rfl).setCell ⟨ob, 3, none⟩ _ rfl)
    exact ⟨hbx.trans (hbu.below (by rw [HOB.out.1]; exact Nat.le_refl _) hbx.size), hr6.whole [a0, a1, a2, a3] rfl⟩
   have HE := Lib.hid hE
   have HB6 := Lib.hid hb6
   clear hb6 hr6 hf6 CV3 hE
   by_cases hv : vE = 0
   ·subst hv
    have hZ : Z = (X, 0, 0) := by rw [HZZ.out, if_neg (by simp)]
    have HZ2 := Lib.hid hZ
    clear hZ
    go_wp2_with fail
    have hE := HE.out (.int .i64 ver) (.slice Ak nk ck) (.slice Al nl cl) (.slice Ar nr cr)
    obtain ⟨wE, hwE⟩ : ∃ w, w = (((x7.setCell ⟨ob, 0, none⟩ (.int .i64 ver)).setCell ⟨ob, 1, none⟩ (.slice Ak nk ck)).setCell ⟨ob, 2, none⟩ (.slice Al nl cl)).setCell ⟨ob, 3, none⟩ (.slice Ar nr cr) := ⟨_, rfl⟩
    have hsz : wE.heap.size = x7.heap.size := by rw [hwE]; simp only [size_setCell]
    have hbe : But ob x7 wE := by rw [hwE]; exact (((((But.refl ob x7).setCell ⟨ob, 0, none⟩ _ rfl).setCell ⟨ob, 1, none⟩ _ rfl).setCell ⟨ob, 2, none⟩ _ rfl).setCell ⟨ob, 3, none⟩ _ rfl)
    rw [← hwE] at hE ⊢
    rw [HZ2.out]
    obtain ⟨hn1, hn2, hn3, hn4, hk1, hk2, hl1, hl2, hr1, hr2⟩ := HN.out
    have hsz6 := HB6.out.size
    have hsz3 := HZ1.out.1
    have hob1 := HZ1.out.2.1
    have hWb := HOB.out.1
    have hkp : KeepS (Fresh w1 w2) w2 wE := fun a ha =>
     ((hbe.cell (Nat.lt_of_lt_of_le ha.2 (Nat.le_trans hsz3 hsz6)) (by have := ha.1; omega)).trans (HB6.out.cell (Nat.lt_of_lt_of_le ha.2 hsz3))).trans (HROWS.out.2.2.2.1.cell ha.2)
    have hfr : ∀ k, Fresh w1 w2 k → Fresh W wE k := fun k h => ⟨by have := h.1; omega, by rw [hsz]; exact Nat.lt_of_lt_of_le h.2 (Nat.le_trans hsz3 hsz6)⟩
    refine bodyPost_ret (results_cell_row_tmp2 rfl _ _ ob 27 #[.int .i64 ver, .slice Ak nk ck, .slice Al nl cl, .slice Ar nr cr] (0, 0) _ rfl hE.2 Tryz.underlying27 rfl (by kernel_rfl)) rfl
     ⟨[.int .i64 ver, .slice Ak nk ck, .slice Al nl cl, .slice Ar nr cr], rfl, ⟨Ak, ck, Al, cl, Ar, cr, ?_, ?_, ?_, ?_, ?_, hk2, ?_, hl2, ?_, hr2⟩, hE.1⟩
    ·dsimp only; rw [← hn1, ← hn2, ← hn3, ← hn4]
    ·exact (HROWS.out.1.keep hkp fun _ _ h => h.keep hkp).mono hfr fun _ _ h => h.mono hfr
    ·exact (HROWS.out.2.1.keep hkp fun _ _ h => h.keep hkp).mono hfr fun _ _ h => h.mono hfr
    ·exact (HROWS.out.2.2.1.keep hkp fun _ _ h => h.keep hkp).mono hfr fun _ _ h => h.mono hfr
    ·dsimp only; rw [← hn1]; exact hk1
    ·dsimp only; rw [← hn2]; exact hl1
    ·dsimp only; rw [← hn3]; exact hr1
   ·have hZ : Z = (Sm.zeroSc, 0, 4) := by rw [HZZ.out, if_pos hv]
    have HZ2 := Lib.hid hZ
    clear hZ
    go_wp2_with fail
    rw [HZ2.out]
    have hE := HE.out (.int .i64 0) (.slice none 0 0) (.slice none 0 0) (.slice none 0 0)
    exact bodyPost_ret (results_cell_row_tmp2 rfl _ _ ob 27 scZ.toArray (0, 0) _ rfl hE.2 Tryz.underlying27 rfl (by kernel_rfl)) rfl
     ⟨scZ, rfl, ScS.zero _ _, hE.1⟩
end Go.Proofs.YtkgddcemocfgfaaGreatDoor
end

