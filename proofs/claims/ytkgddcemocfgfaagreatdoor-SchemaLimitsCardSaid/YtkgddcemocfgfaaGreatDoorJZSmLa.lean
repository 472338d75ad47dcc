import Derived.Test.YtkgddcemocfgfaaGreatDoorJZShort
import Derived.Test.YtkgddcemocfgfaaGreatDoorJZSmEd
import Derived.Test.YtkgddcemocfgfaaGreatDoorJZSmGn
import Derived.Test.YtkgddcemocfgfaaGreatDoorJZSmRt
import Derived.Test.YtkgddcemocfgfaaGreatDoorJZSmSb

section
/- The document's examples: what Parse and Print answer. Plain mathematics. -/


namespace Go.Proofs.YtkgddcemocfgfaaGreatDoor
open Go.RowKit
set_option linter.unusedVariables false
set_option linter.unusedSimpArgs false
set_option maxRecDepth 100000

namespace Sm
theorem dec_small (n : Nat) (h : n < 10) : dec (n : Int) = [UInt8.ofNat (48 + n)] := by
 unfold dec
 rw [if_neg (by omega), show (n : Int).natAbs = n by omega, Lib.decDigits, dif_pos h]
theorem dec0 : dec 0 = [48] := dec_small 0 (by decide)
theorem dec1 : dec 1 = [49] := dec_small 1 (by decide)
theorem dec5 : dec 5 = [53] := dec_small 5 (by decide)
theorem dec9 : dec 9 = [57] := dec_small 9 (by decide)
def fdId : Fd := ⟨⟨#[105, 100]⟩, ⟨#[]⟩, ⟨#[]⟩, 0, 5, 0, [], []⟩
def kdA : Kd := ⟨⟨#[97]⟩, 0, 9, [fdId]⟩
/-- The schema of the first example. -/
def exSc : Sc := ⟨1, [kdA], [], []⟩
def ex1 : ByteArray := ⟨#[115, 99, 104, 101, 109, 97, 32, 49, 32, 107, 105, 110, 100, 32, 97, 32, 48, 32, 57, 32, 107, 101, 121, 32, 105, 100, 32, 53]⟩
def ex2 : ByteArray := ⟨#[115, 99, 104, 101, 109, 97, 32, 49, 32, 107, 105, 110, 100, 32, 50]⟩
def ex3 : ByteArray := ⟨#[115, 99, 104, 101, 109, 97, 32, 49, 32, 107, 105, 110, 100, 32, 97, 32, 48]⟩
def exSrc : ByteArray := ⟨#[115, 99, 104, 101, 109, 97, 32, 49, 10, 107, 105, 110, 100, 32, 97, 32, 48, 32, 57, 10, 107, 101, 121, 32, 105, 100, 32, 53, 10]⟩
theorem ex_source : source exSc = exSrc := by
 unfold source exSc src0 and
 simp only [List.foldl_nil, List.foldl_cons]
 unfold kindT kdA kind0 and
 simp only [List.foldl_nil, List.foldl_cons]
 unfold addLine line line4 line3 line2 line1 line0 and
 rw [show (fdId.kind : Int) = 0 from rfl, show fdId.lo = 5 from rfl, if_neg (by decide), if_neg (by decide), if_pos (by decide), if_neg (by decide), if_neg (by decide)]
 rw [dec0, dec1, dec5, dec9]
 rfl
theorem ex_valid : validE exSc = 0 := by
 have h : shaped exSc = true := by decide
 unfold validE
 rw [if_neg (by rw [h]; decide), ex_source, if_neg (by decide)]
theorem ex_print : print exSc = exSrc := by
 unfold print
 rw [if_pos ex_valid, ex_source]
theorem ok_all (ps : List (List UInt8 × List UInt8)) (h : (ps.all fun p => p.1.all blank && (!p.2.isEmpty && p.2.all inTok)) = true) : ∀ p ∈ ps, okP p := by
 intro p hp
 have := List.all_eq_true.1 h p hp
 simp only [Bool.and_eq_true, Bool.not_eq_true', List.isEmpty_eq_false_iff] at this
 exact ⟨this.1, this.2.1, this.2.2⟩
theorem ne_all (ps : List (List UInt8 × List UInt8)) (h : (ps.all fun p => !p.1.isEmpty) = true) : ∀ p ∈ ps, p.1 ≠ [] := by
 intro p hp
 have := List.all_eq_true.1 h p hp
 simpa using this
def wS : List UInt8 := [115, 99, 104, 101, 109, 97]
def wK : List UInt8 := [107, 105, 110, 100]
theorem ex1_parse : parseR ex1 = (exSc, 0, 0) := by
 obtain ⟨h1, h2⟩ := scan_text ex1 [([], wS), ([32], [49]), ([32], wK), ([32], [97]), ([32], [48]), ([32], [57]), ([32], [107, 101, 121]), ([32], [105, 100]), ([32], [53])] [] rfl rfl (ok_all _ (by decide)) (ne_all _ (by decide))
 refine parse_tokens (by decide) ex_valid ?_ h1
 rw [h2]
 unfold tokS exSc
 simp only [List.flatMap_cons, List.flatMap_nil]
 unfold kindTok kdA
 simp only [List.flatMap_cons, List.flatMap_nil]
 have e : fieldTok fdId = [⟨#[107, 101, 121]⟩, ⟨#[105, 100]⟩, itoaB 5] := rfl
 rw [e]
 unfold itoaB
 rw [dec0, dec1, dec5, dec9]
 rfl

/-! ### Behind a failure -/
section
variable {T : List ByteArray} {p : PS}
theorem look_fail (h : p.f = true) : look T p = nil := by unfold look; rw [if_pos h]
theorem numP_fail (h : p.f = true) : numP T p = p := takeP_fail T _ p h
theorem word_nil : wordOf nil < 0 := by rw [wordOf_data]; decide
theorem fieldsL_fail (h : p.f = true) (n : Nat) (a : List Fd) : fieldsL T n a p = (a, p) := fieldsL_end T n a p (by unfold wordV; rw [look_fail h]; exact word_nil)
theorem while_fail {α : Type} {w : ByteArray} {V : PS → α × PS} (h : p.f = true) (hw : w.data.toList ≠ nil.data.toList) (n : Nat) (a : List α) : whileL T w V n a p = (a, p) := whileL_end n a p (by rw [look_fail h]; exact wd_ne (Ne.symm hw))
theorem rules_fail (h : (kindsR T).2.f = true) : (rulesR T).2 = (kindsR T).2 := by
 have h1 : livesR T = ([], (kindsR T).2) := while_fail h (by decide) _ _
 unfold rulesR
 rw [h1, while_fail h (by decide)]
end
theorem Ahead.fail {T : List ByteArray} {p : PS} {b : Bool} (hb : b = false) : takeP T b p = ⟨p.i, true⟩ := by
 unfold takeP
 rw [if_neg]
 rintro ⟨h, -⟩
 rw [hb] at h
 cases h
theorem ex2_parse : parseR ex2 = (zeroSc, 14, 2) := by
 obtain ⟨h1, h2⟩ := scan_text ex2 [([], wS), ([32], [49]), ([32], wK), ([32], [50])] [] rfl rfl (ok_all _ (by decide)) (ne_all _ (by decide))
 obtain ⟨T, hT⟩ : ∃ T, T = tokT ex2 (scan (sb ex2)).1 := ⟨_, rfl⟩
 have hTl : T = [schemaWd, itoaB 1, kindWd, ⟨#[50]⟩] := by rw [hT, h2]; unfold itoaB; rw [dec1]; rfl
 have g0 : Ahead T ⟨0, false⟩ [schemaWd, itoaB 1, kindWd, ⟨#[50]⟩] := ⟨rfl, hTl⟩
 have g1 := g0.want (by decide)
 have g2 := (g1.num (n := 1) ⟨by decide, by decide⟩).2
 have g3 := g2.want (by decide)
 have hp : numP T (headP T) = ⟨2, false⟩ := by
  have i1 : headP T = ⟨1, false⟩ := by
   unfold headP wantP takeP
   rw [g0.look, if_pos ⟨by unfold eqW; rw [beq_iff_eq], by decide⟩]
  rw [i1]
  unfold numP takeP
  have g1' : Ahead T ⟨1, false⟩ [itoaB 1, kindWd, ⟨#[50]⟩] := i1 ▸ g1
  rw [g1'.look, sb_itoa, valW_dec (n := 1) ⟨by decide, by decide⟩, if_pos ⟨rfl, itoa_size⟩]
 have g2' : Ahead T ⟨2, false⟩ [kindWd, ⟨#[50]⟩] := by have := g2; rw [show numP T (wantP T schemaWd ⟨0, false⟩) = numP T (headP T) from rfl, hp] at this; exact this
 have hw : wantP T kindWd ⟨2, false⟩ = ⟨3, false⟩ := by
  unfold wantP takeP
  rw [g2'.look, if_pos ⟨by unfold eqW; rw [beq_iff_eq], by decide⟩]
 have g3' : Ahead T ⟨3, false⟩ [⟨#[50]⟩] := hw ▸ g2'.want (by decide)
 have hn : nameP T ⟨3, false⟩ = ⟨3, true⟩ := by
  unfold nameP
  rw [g3'.look]
  exact Ahead.fail (by decide)
 have hk : (kindV T ⟨2, false⟩).2 = ⟨3, true⟩ := by
  unfold kindV
  dsimp only
  rw [hw, hn, numP_fail rfl, numP_fail rfl, fieldsL_fail rfl]
 have hks : (kindsR T).2 = ⟨3, true⟩ := by
  unfold kindsR
  rw [hp, whileL_next _ _ _ (by rw [g2'.look]), hk, while_fail rfl (by decide)]
 have hr := rules_fail (T := T) (by rw [hks])
 unfold parseR
 rw [if_neg (by decide)]
 dsimp only
 rw [← hT, hr, hks, if_pos (by rw [hTl]; decide)]
 have : (scan (sb ex2)).1.getD 3 (0, 0) = (14, 15) := by decide
 rw [this]
theorem ex3_parse : parseR ex3 = (zeroSc, 17, 2) := by
 obtain ⟨h1, h2⟩ := scan_text ex3 [([], wS), ([32], [49]), ([32], wK), ([32], [97]), ([32], [48])] [] rfl rfl (ok_all _ (by decide)) (ne_all _ (by decide))
 obtain ⟨T, hT⟩ : ∃ T, T = tokT ex3 (scan (sb ex3)).1 := ⟨_, rfl⟩
 have hTl : T = [schemaWd, itoaB 1, kindWd, ⟨#[97]⟩, itoaB 0] := by rw [hT, h2]; unfold itoaB; rw [dec0, dec1]; rfl
 have g0 : Ahead T ⟨0, false⟩ [schemaWd, itoaB 1, kindWd, ⟨#[97]⟩, itoaB 0] := ⟨rfl, hTl⟩
 have g1 := g0.want (by decide)
 have g2 := (g1.num (n := 1) ⟨by decide, by decide⟩).2
 have g3 := g2.want (by decide)
 have g4 := (g3.name (by decide)).2
 have g5 := (g4.num (n := 0) ⟨by decide, by decide⟩).2
 obtain ⟨q, hq⟩ : ∃ q, q = numP T (nameP T (wantP T kindWd (numP T (headP T)))) := ⟨_, rfl⟩
 have g5' : Ahead T q [] := hq ▸ g5
 have hl : T.length ≤ q.i := List.drop_eq_nil_iff.1 g5'.2
 have hn : numP T q = ⟨q.i, true⟩ := by
  unfold numP
  rw [g5'.none]
  exact Ahead.fail (by decide)
 have hk : (kindV T (numP T (headP T))).2 = ⟨q.i, true⟩ := by
  unfold kindV
  dsimp only
  rw [← hq, hn, fieldsL_fail rfl]
 have hks : (kindsR T).2 = ⟨q.i, true⟩ := by
  unfold kindsR
  rw [whileL_next _ _ _ (by have := g2.look; rw [show numP T (headP T) = numP T (wantP T schemaWd ⟨0, false⟩) from rfl, this]), hk, while_fail rfl (by decide)]
 have hr := rules_fail (T := T) (by rw [hks])
 unfold parseR
 rw [if_neg (by decide)]
 dsimp only
 rw [← hT, hr, hks, if_neg (by show ¬ q.i < T.length; omega), if_pos (.inl rfl), h1]
 rfl
end Sm
end Go.Proofs.YtkgddcemocfgfaaGreatDoor
end

section
/- The laws' examples: lives. -/


namespace Go.Proofs.YtkgddcemocfgfaaGreatDoor
open Go.RowKit
set_option linter.unusedVariables false
set_option linter.unusedSimpArgs false
set_option maxRecDepth 100000

theorem scs_in {W w : World} {x : Sm.Sc} {c : List Value} (h : ScS (Fresh W w) w x c) : ScIn w x c := by
 obtain ⟨Ak, ck, Al, cl, Ar, cr, h1, h2, h3, h4, -⟩ := h
 exact ⟨Ak, ck, Al, cl, Ar, cr, h1, h2.rows (fun k hk => hk.2) fun _ _ q => KdS.kd q fun k hk => hk.2, h3.rows (fun k hk => hk.2) fun _ _ q => LfS.lf q fun k hk => hk.2, h4.rows (fun k hk => hk.2) fun _ _ q => q⟩
theorem Sm.few_ex : Sm.FewS Sm.exSc := ⟨fun k hk => by
 obtain rfl := List.mem_singleton.1 hk
 refine ⟨by decide, fun f hf => ?_⟩
 obtain rfl := List.mem_singleton.1 hf
 exact ⟨by decide, by decide⟩, fun k hk => by cases hk⟩

set_option maxHeartbeats 8000000 in
theorem lives_any (W : World) (hD : SDoor W) (hg : doorB ≤ W.heap.size) : Calls Tryz.prog 21 #[] W fun e w' => e = .returned (.bool true) ∧ Below W.heap.size W w' := by
 have c1 := fun w (hb : Below W.heap.size W w) => gParse_all Sm.ex1 w (hD.below hb hg) (Nat.le_trans hg hb.size)
 have c2 := fun w (hb : Below W.heap.size W w) => gParse_all Sm.ex2 w (hD.below hb hg) (Nat.le_trans hg hb.size)
 have c3 := fun w (hb : Below W.heap.size W w) => gParse_all Sm.ex3 w (hD.below hb hg) (Nat.le_trans hg hb.size)
 simp only [Sm.ex1_parse] at c1
 simp only [Sm.ex2_parse] at c2
 simp only [Sm.ex3_parse] at c3
 unfold Sm.ex1 at c1
 unfold Sm.ex2 at c2
 unfold Sm.ex3 at c3
 have cV := fun Ak ck Al cl Ar cr w (hb : Below W.heap.size W w) (h : ScIn w Sm.exSc [.int .i64 1, .slice Ak 1 ck, .slice Al 0 cl, .slice Ar 0 cr]) => (show Calls Tryz.prog 12 #[.agg #[.int .i64 1, .slice Ak 1 ck, .slice Al 0 cl, .slice Ar 0 cr]] w fun e w' => e = .returned (.int .i64 0) ∧ Below w.heap.size w w' from by
  obtain ⟨Ak', ck', Al', cl', Ar', cr', he, h2, h3, h4⟩ := h
  have he : [Value.int .i64 1, .slice Ak 1 ck, .slice Al 0 cl, .slice Ar 0 cr] = [.int .i64 1, .slice Ak' 1 ck', .slice Al' 0 cl', .slice Ar' 0 cr'] := he
  simp only [List.cons.injEq, Value.slice.injEq, and_true, true_and] at he
  obtain ⟨⟨rfl, rfl⟩, ⟨rfl, rfl⟩, rfl, rfl⟩ := he
  have := gValid_any Sm.exSc Ak ck Al cl Ar cr w (hD.below hb hg) (Nat.le_trans hg hb.size) h2 h3 h4 Sm.few_ex (by decide) (by decide) (by decide)
  rw [Sm.ex_valid] at this
  exact this)
 have cP := fun Ak ck Al cl Ar cr w (hb : Below W.heap.size W w) (h : ScIn w Sm.exSc [.int .i64 1, .slice Ak 1 ck, .slice Al 0 cl, .slice Ar 0 cr]) => (show Calls Tryz.prog 14 #[.agg #[.int .i64 1, .slice Ak 1 ck, .slice Al 0 cl, .slice Ar 0 cr]] w fun e w' => e = .returned (.string Sm.exSrc) ∧ Below w.heap.size w w' from by
  obtain ⟨Ak', ck', Al', cl', Ar', cr', he, h2, h3, h4⟩ := h
  have he : [Value.int .i64 1, .slice Ak 1 ck, .slice Al 0 cl, .slice Ar 0 cr] = [.int .i64 1, .slice Ak' 1 ck', .slice Al' 0 cl', .slice Ar' 0 cr'] := he
  simp only [List.cons.injEq, Value.slice.injEq, and_true, true_and] at he
  obtain ⟨⟨rfl, rfl⟩, ⟨rfl, rfl⟩, rfl, rfl⟩ := he
  have := gPrint_any Sm.exSc Ak ck Al cl Ar cr w (hD.below hb hg) (Nat.le_trans hg hb.size) h2 h3 h4 Sm.few_ex (by decide) (by decide) (by decide)
  rw [Sm.ex_print] at this
  exact this)
 unfold Sm.exSrc at cP
 have C1 := Lib.hid c1
 have C2 := Lib.hid c2
 have C3 := Lib.hid c3
 have CV := Lib.hid cV
 have CP := Lib.hid cP
 clear c1 c2 c3 cV cP hD hg
 go_enter Tryz.func21, Tryz.ntmps21
 go_wp2_with fail
 refine (C1.out _ (Below.refl _ _)).mono ?_
 rintro e w1 ⟨c, rfl, hsc, hb1⟩
 have hin := scs_in hsc
 obtain ⟨Ak, ck, Al, cl, Ar, cr, hc, hk, hl, hr⟩ := hin
 obtain rfl : c = [.int .i64 1, .slice Ak 1 ck, .slice Al 0 cl, .slice Ar 0 cr] := hc
 have hin : ScIn w1 Sm.exSc [.int .i64 1, .slice Ak 1 ck, .slice Al 0 cl, .slice Ar 0 cr] := ⟨Ak, ck, Al, cl, Ar, cr, rfl, hk, hl, hr⟩
 have hx := Blk.new w1 [.int .i64 1, .slice Ak 1 ck, .slice Al 0 cl, .slice Ar 0 cr] 27
 have hbx := hb1.trans ((alloc_belowS w1 (.cells #[.int .i64 1, .slice Ak 1 ck, .slice Al 0 cl, .slice Ar 0 cr] 27)).mono hb1.size)
 have hin2 := hin.below (alloc_belowS w1 (.cells #[.int .i64 1, .slice Ak 1 ck, .slice Al 0 cl, .slice Ar 0 cr] 27))
 have H1 := Lib.hid (And.intro hx (And.intro hbx hin2))
 clear hsc hb1 hk hl hr hin hx hbx hin2 C1
 go_wp2_with fail
 obtain ⟨v1, hv1⟩ : ∃ v, v = w1.alloc (.cells #[.int .i64 1, .slice Ak 1 ck, .slice Al 0 cl, .slice Ar 0 cr] 27) := ⟨_, rfl⟩
 have h1 := H1.out
 have h1 : Blk v1 w1.heap.size [.int .i64 1, .slice Ak 1 ck, .slice Al 0 cl, .slice Ar 0 cr] 27 ∧ Below W.heap.size W v1 ∧ ScIn v1 Sm.exSc [.int .i64 1, .slice Ak 1 ck, .slice Al 0 cl, .slice Ar 0 cr] := by rw [hv1]; exact h1
 rw [← hv1]
 obtain ⟨xb, hxb⟩ : ∃ n, n = w1.heap.size := ⟨_, rfl⟩
 rw [← hxb] at h1 ⊢
 clear hv1 hxb H1
 have H1 := Lib.hid h1
 clear h1
 refine (C2.out _ H1.out.2.1).mono ?_
 rintro e w2 ⟨c2, rfl, hsc, hb2⟩
 obtain ⟨p1, p2, p3, p4, p5, p6, hc, -⟩ := scs_in hsc
 obtain rfl : c2 = [.int .i64 0, .slice p1 0 p2, .slice p3 0 p4, .slice p5 0 p6] := hc
 have h2 : Blk w2 xb [.int .i64 1, .slice Ak 1 ck, .slice Al 0 cl, .slice Ar 0 cr] 27 ∧ Below W.heap.size W w2 ∧ ScIn w2 Sm.exSc [.int .i64 1, .slice Ak 1 ck, .slice Al 0 cl, .slice Ar 0 cr] := ⟨H1.out.1.below hb2 H1.out.1.lt, H1.out.2.1.trans (hb2.mono H1.out.2.1.size), H1.out.2.2.below hb2⟩
 have hal := alloc_belowS w2 (.cells #[.int .i64 0, .slice p1 0 p2, .slice p3 0 p4, .slice p5 0 p6] 27)
 have h3 : Blk (w2.alloc (.cells #[.int .i64 0, .slice p1 0 p2, .slice p3 0 p4, .slice p5 0 p6] 27)) xb [.int .i64 1, .slice Ak 1 ck, .slice Al 0 cl, .slice Ar 0 cr] 27 ∧ Below W.heap.size W (w2.alloc (.cells #[.int .i64 0, .slice p1 0 p2, .slice p3 0 p4, .slice p5 0 p6] 27)) ∧ ScIn (w2.alloc (.cells #[.int .i64 0, .slice p1 0 p2, .slice p3 0 p4, .slice p5 0 p6] 27)) Sm.exSc [.int .i64 1, .slice Ak 1 ck, .slice Al 0 cl, .slice Ar 0 cr] := ⟨h2.1.below hal h2.1.lt, h2.2.1.trans (hal.mono h2.2.1.size), h2.2.2.below hal⟩
 have H3 := Lib.hid h3
 clear hsc hb2 h2 hal h3 H1 C2
 go_wp2_with fail
 refine (C3.out _ H3.out.2.1).mono ?_
 rintro e w3 ⟨c3, rfl, hsc, hb3⟩
 obtain ⟨r1, r2, r3, r4, r5, r6, hc, -⟩ := scs_in hsc
 obtain rfl : c3 = [.int .i64 0, .slice r1 0 r2, .slice r3 0 r4, .slice r5 0 r6] := hc
 have h4 : Blk w3 xb [.int .i64 1, .slice Ak 1 ck, .slice Al 0 cl, .slice Ar 0 cr] 27 ∧ Below W.heap.size W w3 ∧ ScIn w3 Sm.exSc [.int .i64 1, .slice Ak 1 ck, .slice Al 0 cl, .slice Ar 0 cr] := ⟨H3.out.1.below hb3 H3.out.1.lt, H3.out.2.1.trans (hb3.mono H3.out.2.1.size), H3.out.2.2.below hb3⟩
 have hal := alloc_belowS w3 (.cells #[.int .i64 0, .slice r1 0 r2, .slice r3 0 r4, .slice r5 0 r6] 27)
 have h5 : Blk (w3.alloc (.cells #[.int .i64 0, .slice r1 0 r2, .slice r3 0 r4, .slice r5 0 r6] 27)) xb [.int .i64 1, .slice Ak 1 ck, .slice Al 0 cl, .slice Ar 0 cr] 27 ∧ Below W.heap.size W (w3.alloc (.cells #[.int .i64 0, .slice r1 0 r2, .slice r3 0 r4, .slice r5 0 r6] 27)) ∧ ScIn (w3.alloc (.cells #[.int .i64 0, .slice r1 0 r2, .slice r3 0 r4, .slice r5 0 r6] 27)) Sm.exSc [.int .i64 1, .slice Ak 1 ck, .slice Al 0 cl, .slice Ar 0 cr] := ⟨h4.1.below hal h4.1.lt, h4.2.1.trans (hal.mono h4.2.1.size), h4.2.2.below hal⟩
 have g0 := h5.1.cell 0 _ rfl
 have g1 := h5.1.cell 1 _ rfl
 have g2 := h5.1.cell 2 _ rfl
 have g3 := h5.1.cell 3 _ rfl
 have H5 := Lib.hid h5
 clear hsc hb3 h4 hal h5 H3 C3
 go_wp2_with fail
 refine (CV.out Ak ck Al cl Ar cr _ H5.out.2.1 H5.out.2.2).mono ?_
 rintro e w4 ⟨rfl, hb4⟩
 have h6 : Blk w4 xb [.int .i64 1, .slice Ak 1 ck, .slice Al 0 cl, .slice Ar 0 cr] 27 ∧ Below W.heap.size W w4 ∧ ScIn w4 Sm.exSc [.int .i64 1, .slice Ak 1 ck, .slice Al 0 cl, .slice Ar 0 cr] := ⟨H5.out.1.below hb4 H5.out.1.lt, H5.out.2.1.trans (hb4.mono H5.out.2.1.size), H5.out.2.2.below hb4⟩
 clear g0 g1 g2 g3 CV
 have H6 := Lib.hid h6
 have hk : Rows KdC w4 w4.heap.size Ak [Sm.kdA] := by
  obtain ⟨Ak', ck', Al', cl', Ar', cr', he, h2, h3, h4⟩ := h6.2.2
  have he : [Value.int .i64 1, .slice Ak 1 ck, .slice Al 0 cl, .slice Ar 0 cr] = [.int .i64 1, .slice Ak' 1 ck', .slice Al' 0 cl', .slice Ar' 0 cr'] := he
  simp only [List.cons.injEq, Value.slice.injEq, and_true, true_and] at he
  obtain ⟨⟨rfl, rfl⟩, -⟩ := he
  exact h2
 obtain ⟨bk, ok, cs, hAk, -, ⟨Af, cf, rfl, hrf, -⟩, hcell⟩ := hk.at (by decide) (fun _ _ => KdC.size) 0 _ rfl
 obtain ⟨bf, of, cs, hAf, -, ⟨Aw, cw, Ag, cg, rfl, -⟩, hcellf⟩ := hrf.at (by decide) (fun _ _ => FdC.size) 0 Sm.fdId rfl
 have k2 : w4.cell? ⟨bk, ok + 2, none⟩ = some (.int .i64 9) := hcell 2 _ rfl
 have k3 : w4.cell? ⟨bk, ok + 3, none⟩ = some (.slice Af 1 cf) := hcell 3 _ rfl
 have f0 : w4.cell? ⟨bf, of, none⟩ = some (.string ⟨#[105, 100]⟩) := hcellf 0 _ rfl
 have f4 : w4.cell? ⟨bf, of + 4, none⟩ = some (.int .i64 5) := hcellf 4 _ rfl
 have g0 := h6.1.cell 0 _ rfl
 have g1 := h6.1.cell 1 _ rfl
 have g2 := h6.1.cell 2 _ rfl
 have g3 := h6.1.cell 3 _ rfl
 rw [hAf] at k3
 have HAK := Lib.hid hAk
 rw [hAk] at g1
 rw [hAk]
 clear hb4 h6 H5 hk hrf hcell hcellf hAk hAf
 go_wp2_with fail
 rw [← HAK.out]
 refine (CP.out Ak ck Al cl Ar cr _ H6.out.2.1 H6.out.2.2).mono ?_
 rintro e w5 ⟨rfl, hb5⟩
 have H7 := Lib.hid (H6.out.2.1.trans (hb5.mono H6.out.2.1.size))
 clear hb5 CP k2 k3 f0 f4 g0 g1 g2 g3
 go_wp2_with fail
 go_ret
 exact ⟨rfl, H7.out⟩
end Go.Proofs.YtkgddcemocfgfaaGreatDoor
end

section
/- The laws' helpers: repeated; what Parse reads is small. -/



namespace Go.Proofs.YtkgddcemocfgfaaGreatDoor
open Go.RowKit
set_option linter.unusedVariables false
set_option linter.unusedSimpArgs false
set_option maxRecDepth 100000

namespace Sm
def rep (s : List UInt8) : Nat → List UInt8
 | 0 => []
 | n + 1 => rep s n ++ s
theorem rep_len (s : List UInt8) (n : Nat) : (rep s n).length = n * s.length := by
 induction n with
 | zero => simp [rep]
 | succ n ih => rw [rep, List.length_append, ih, Nat.succ_mul]
theorem parse_lax (s : ByteArray) : LaxS (parseR s).1 := by
 have hz : LaxS zeroSc := ⟨(by unfold num zeroSc; decide), fun k hk => (by cases hk), fun k hk => (by cases hk), fun k hk => (by cases hk), by decide, by decide, by decide⟩
 unfold parseR
 split
 ·exact hz
 ·dsimp only
  split
  ·exact hz
  ·split
   ·exact hz
   ·split
    ·exact hz
    ·rename_i h
     have h : validE _ = 0 := Decidable.byContradiction h
     exact (shaped_small (valid_shaped h).1).lax
end Sm
set_option maxHeartbeats 4000000 in
theorem gRep_any (s : ByteArray) (z : Int) (w : World) (hs : s.size ≤ 1000) (h0 : 0 ≤ z) (hz : z ≤ 20000) : Calls Tryz.prog 30 #[.string s, .int .i64 z] w fun e w' => ∃ r, e = .returned (.string r) ∧ r.size ≤ 20000000 ∧ Below w.heap.size w w' := by
 obtain ⟨i0, hi, hz0, hz1, hz2⟩ := info_parts info_u8
 have HI := Lib.hid (And.intro hi (And.intro hz0 (And.intro hz1 hz2)))
 clear hi hz0 hz1 hz2
 obtain ⟨n, rfl⟩ : ∃ n : Nat, z = (n : Int) := Int.eq_ofNat_of_zero_le h0
 have hn : n ≤ 20000 := by omega
 have hl : ∀ k, (Sm.rep (sb s) k).length = k * s.size := fun k => by rw [Sm.rep_len, sb_len]
 have HL := Lib.hid hl
 have hle : ∀ k, k ≤ n → k * s.size ≤ 20000000 := fun k hk => Nat.le_trans (Nat.mul_le_mul (Nat.le_trans hk hn) hs) (by decide)
 have HLE := Lib.hid hle
 clear hl hle h0 hz
 go_enter Tryz.func30, Tryz.ntmps30
 go_wp2_with fail
 go_loopw [5, 6] (fun u i wr => ∃ (v : Value) (k : Nat), u = v ∧ i = .int .i64 k ∧ k ≤ n ∧ wr.ownsRow w.heap.size 5 1 v (Sm.rep (sb s) k).length ((Sm.rep (sb s) k).map bv) ∧ Below w.heap.size w wr) (fun _ i _ => n - (intOf i).toNat)
 case atStart => exact ⟨_, 0, rfl, rfl, Nat.zero_le _, World.ownsRow_nil _ _ _ _, Below.refl _ _⟩
 case round =>
 obtain ⟨v, k, hv, rfl, hk, hown, hb⟩ := hrel
 replace hv := hv.symm
 subst hv
 by_cases hlt : k < n
 ·obtain ⟨W2, c2, hcv, hcell, hb2⟩ := conv_str wr s
  have hown2 := own_below hown hb2 (Nat.le_refl _)
  have hk1 := HLE.out (k + 1) hlt
  have hk2 := HL.out k
  have hb3 := hb.trans (hb2.mono hb.size)
  have hsz : (Sm.rep (sb s) k).length + s.size ≤ 20000000 := by rw [hk2]; rw [Nat.succ_mul] at hk1; exact hk1
  have HB := Lib.hid (And.intro hown2 (And.intro hcell (And.intro hb3 hsz)))
  have hcr := hb3.size
  clear hown hb hcell hb2 hown2 hk1 hk2 hb3
  have j1 : (k : Int) < n := by omega
  go_wp2_with (at_builtin; refine wpList_append_own _ rfl (.tmp 12) (.tmp 14) 35 rfl w.heap.size 5 i0 (.int .u8 0) 1 1 Tryz.underlying35 HI.out.1 HI.out.2.1 HI.out.2.2.1 HI.out.2.2.2 rfl (by decide) v _ _ rfl HB.out.1 ⟨wr.heap.size, 0, none⟩ s.size c2 ((sb s).map bv) rfl (by rw [List.length_map, sb_len, Nat.mul_one]) HB.out.2.1 (one_cells _) (by unfold maxLen; omega) (by omega) (by omega) ?_; intro v' w1 hown' hgrow _; have HA := Lib.hid (And.intro hown' hgrow); clear hown' hgrow)
  go_roundw
  case rel =>
   refine ⟨_, k + 1, rfl, by go_num, by omega, ?_, HB.out.2.2.1.grown HA.out.2 hcr (fun q hq => (HB.out.1.lt q hq).1)⟩
   have h := HA.out.1
   rw [Sm.rep, List.length_append, sb_len, List.map_append]
   exact h
  case measure => simp [intOf]; omega
 obtain rfl : k = n := by omega
 obtain ⟨A, c, rfl, hr, -, -⟩ := own_rd (B := 0) hown
 have hcv := conv_bytes wr wr.heap.size A (Sm.rep (sb s) k) c hr
 obtain ⟨r, hr2⟩ : ∃ r, r = bs (Sm.rep (sb s) k) := ⟨_, rfl⟩
 rw [← hr2] at hcv
 have hrs : r.size ≤ 20000000 := by rw [hr2, size_bs, HL.out]; exact HLE.out k (Nat.le_refl _)
 obtain ⟨m, hm⟩ : ∃ m, m = (Sm.rep (sb s) k).length := ⟨_, rfl⟩
 rw [← hm] at hcv ⊢
 have HB := Lib.hid hb
 have HRS := Lib.hid hrs
 clear hown hr hr2 hm hb hrs hlt hk
 go_wp2_with fail
 go_ret
 exact ⟨r, rfl, HRS.out, HB.out⟩
end Go.Proofs.YtkgddcemocfgfaaGreatDoor
end

section
/- The walk of the statement SchemaLimits. -/

namespace Go.Proofs.YtkgddcemocfgfaaGreatDoor
open Go.RowKit
set_option linter.unusedVariables false
set_option linter.unusedSimpArgs false
set_option maxRecDepth 100000

def numT : List ByteArray := [⟨#[49, 48, 52, 56, 53, 55, 54]⟩, ⟨#[49, 48, 52, 56, 53, 55, 55]⟩, ⟨#[45, 49, 48, 52, 56, 53, 55, 54]⟩, ⟨#[45, 49, 48, 52, 56, 53, 55, 55]⟩, ⟨#[54, 53, 53, 51, 54]⟩, ⟨#[54, 53, 53, 51, 55]⟩, ⟨#[51, 50]⟩, ⟨#[51, 51]⟩, ⟨#[45, 48]⟩, ⟨#[48, 48, 55]⟩]
theorem numT_le : ∀ s ∈ numT, s.size ≤ 8 := by decide
set_option maxHeartbeats 32000000 in
theorem limits_walk (n k : Int) (tail : ByteArray) (W : World) (hn : M.I64 n) (hk : M.I64 k) (hD : SDoor W) (hg : doorB ≤ W.heap.size) :
  Calls Tryz.prog 5 #[.int .i64 n, .int .i64 k, .string tail] W fun e w' => e = .returned (.bool true) ∧ Below W.heap.size W w' := by
 have l1 := around_lt n 15 (by decide)
 have l2 := around_lt k 14 (by decide)
 have l3 := around_lt n 10 (by decide)
 have cA := fun w => around_any n 15 w hn ⟨by decide, by decide⟩
 have cB := fun w => around_any k 14 w hk ⟨by decide, by decide⟩
 have cC := fun w => around_any n 10 w hn ⟨by decide, by decide⟩
 obtain ⟨a, ha⟩ : ∃ a, a = around n 15 := ⟨_, rfl⟩
 obtain ⟨c, hc⟩ : ∃ a, a = around k 14 := ⟨_, rfl⟩
 obtain ⟨i, hi⟩ : ∃ a : Nat, around n 10 = (a : Int) := Int.eq_ofNat_of_zero_le l3.1
 rw [← ha] at l1
 rw [← hc] at l2
 rw [hi] at l3
 simp only [← ha] at cA
 simp only [← hc] at cB
 simp only [hi] at cC
 obtain ⟨a1, a2⟩ := l1
 obtain ⟨c1, c2⟩ := l2
 have i9 : (i : Int) < 10 := l3.2
 have i0 : (0 : Int) ≤ i := l3.1
 obtain ⟨nb, hnb⟩ : ∃ s, numT[i]? = some s := ⟨_, List.getElem?_eq_getElem (by show i < 10; omega)⟩
 have nbs : nb.size ≤ 8 := numT_le nb (List.mem_of_getElem? hnb)
 have cS : ∀ w, Calls Tryz.prog 25 #[.string tail, .int .i64 20] w fun e w' => e = .returned (.string (shortAt 20 tail)) ∧ w' = w := fun w => shortAt_any 20 tail w (by decide)
 have tls := shortAt_size 20 tail
 obtain ⟨tl, htl⟩ : ∃ s, s = shortAt 20 tail := ⟨_, rfl⟩
 rw [← htl] at tls
 simp only [← htl] at cS
 have cL := fun w (hb : Below W.heap.size W w) => lives_any w (hD.below hb hg) (Nat.le_trans hg hb.size)
 have cG := fun s w (hb : Below W.heap.size W w) => gParse_all s w (hD.below hb hg) (Nat.le_trans hg hb.size)
 have hcell : ∀ w : World, (w.alloc (.cells #[.string ⟨#[49, 48, 52, 56, 53, 55, 54]⟩, .string ⟨#[49, 48, 52, 56, 53, 55, 55]⟩, .string ⟨#[45, 49, 48, 52, 56, 53, 55, 54]⟩, .string ⟨#[45, 49, 48, 52, 56, 53, 55, 55]⟩, .string ⟨#[54, 53, 53, 51, 54]⟩, .string ⟨#[54, 53, 53, 51, 55]⟩, .string ⟨#[51, 50]⟩, .string ⟨#[51, 51]⟩, .string ⟨#[45, 48]⟩, .string ⟨#[48, 48, 55]⟩] 9)).cell? ⟨w.heap.size, i, none⟩ = some (.string nb) := fun w => (Blk.new w (numT.map sv) 9).cell i (sv nb) (by rw [List.getElem?_map, hnb]; rfl)
 have q0 := hcell W
 have HB0 := Lib.hid (alloc_belowS W (.cells #[.string ⟨#[49, 48, 52, 56, 53, 55, 54]⟩, .string ⟨#[49, 48, 52, 56, 53, 55, 55]⟩, .string ⟨#[45, 49, 48, 52, 56, 53, 55, 54]⟩, .string ⟨#[45, 49, 48, 52, 56, 53, 55, 55]⟩, .string ⟨#[54, 53, 53, 51, 54]⟩, .string ⟨#[54, 53, 53, 51, 55]⟩, .string ⟨#[51, 50]⟩, .string ⟨#[51, 51]⟩, .string ⟨#[45, 48]⟩, .string ⟨#[48, 48, 55]⟩] 9))
 have CA := Lib.hid cA
 have CB := Lib.hid cB
 have CC := Lib.hid cC
 have CS := Lib.hid cS
 have CL := Lib.hid cL
 have CG := Lib.hid cG
 clear ha hc hi hnb htl cA cB cC cS cL cG hcell hD hg hn hk l3
 go_enter Tryz.func5, Tryz.ntmps5
 go_wp2_with fail
 refine (CA.out _).mono ?_
 rintro e x1 ⟨rfl, hq⟩
 obtain rfl := hq.symm
 clear hq
 go_wp2_with fail
 refine (CB.out _).mono ?_
 rintro e x1 ⟨rfl, hq⟩
 obtain rfl := hq.symm
 clear hq
 go_wp2_with fail
 refine (CC.out _).mono ?_
 rintro e x1 ⟨rfl, hq⟩
 obtain rfl := hq.symm
 clear hq
 go_upto_region 5 with fail
 clear q0 CA CB CC
 obtain ⟨w1, hw1⟩ : ∃ w, w = W.alloc (.cells #[.string ⟨#[49, 48, 52, 56, 53, 55, 54]⟩, .string ⟨#[49, 48, 52, 56, 53, 55, 55]⟩, .string ⟨#[45, 49, 48, 52, 56, 53, 55, 54]⟩, .string ⟨#[45, 49, 48, 52, 56, 53, 55, 55]⟩, .string ⟨#[54, 53, 53, 51, 54]⟩, .string ⟨#[54, 53, 53, 51, 55]⟩, .string ⟨#[51, 50]⟩, .string ⟨#[51, 51]⟩, .string ⟨#[45, 48]⟩, .string ⟨#[48, 48, 55]⟩] 9) := ⟨_, rfl⟩
 have hb0 := HB0.out
 rw [← hw1] at hb0 ⊢
 clear hw1 HB0
 have HBP := Lib.hid hb0
 clear hb0
 obtain ⟨hd, hhd⟩ : ∃ h : ByteArray, h = ⟨#[115, 99, 104, 101, 109, 97, 32, 49, 32, 107, 105, 110, 100, 32, 97, 32, 48, 32, 57, 32]⟩ := ⟨_, rfl⟩
 have hds : hd.size ≤ 20 := by rw [hhd]; decide
 rw [← hhd]
 clear hhd
 have hbz := HBP.out
 clear hbz
 go_cut [11] (fun u wx => ∃ (g : Nat) (T : List ByteArray), u = .slice (some ⟨g, 0, none⟩) 17 17 ∧ T.length = 17 ∧ Blk wx g (T.map sv) 9 ∧ Below W.heap.size W wx)
 case first =>
  go_wp2_with fail
  refine (gRep_any _ (8180 + c - 8) _ (by decide) (by omega) (by omega)).mono ?_
  rintro e w2 ⟨r1, rfl, r1s, hb⟩
  have HBx := Lib.hid (HBP.out.trans (hb.mono HBP.out.size))
  clear HBP hb
  have HBP := HBx
  clear HBx
  have e0 : ¬ 9223372036854775807 < 8 + r1.size := by omega
  have e1 : ¬ 9223372036854775807 < 7 + nb.size := by omega
  have e4 : ¬ 9223372036854775807 < hd.size + 6 := by omega
  have e5 : ¬ 9223372036854775807 < hd.size + 6 + nb.size := by omega
  have e6 : ¬ 9223372036854775807 < hd.size + 6 + nb.size + 8 := by omega
  have e7 : ¬ 9223372036854775807 < hd.size + 8 := by omega
  have e8 : ¬ 9223372036854775807 < hd.size + 8 + nb.size := by omega
  have e9 : ¬ 9223372036854775807 < hd.size + 8 + nb.size + 6 := by omega
  have e10 : ¬ 9223372036854775807 < hd.size + 10 := by omega
  have e11 : ¬ 9223372036854775807 < hd.size + 10 + nb.size := by omega
  have e12 : ¬ 9223372036854775807 < hd.size + 11 := by omega
  have e13 : ¬ 9223372036854775807 < hd.size + 11 + nb.size := by omega
  have e14 : ¬ 9223372036854775807 < hd.size + 14 := by omega
  have e15 : ¬ 9223372036854775807 < hd.size + 14 + nb.size := by omega
  have e16 : ¬ 9223372036854775807 < hd.size + 11 := by omega
  have e17 : ¬ 9223372036854775807 < hd.size + 11 + nb.size := by omega
  have e18 : ¬ 9223372036854775807 < hd.size + 7 := by omega
  have e19 : ¬ 9223372036854775807 < hd.size + 7 + nb.size := by omega
  have e20 : ¬ 9223372036854775807 < hd.size + 7 + nb.size + 4 := by omega
  have e21 : ¬ 9223372036854775807 < hd.size + 10 := by omega
  have e23 : ¬ 9223372036854775807 < hd.size + 20 := by omega
  have e24 : ¬ 9223372036854775807 < hd.size + 20 + nb.size := by omega
  have e26 : ¬ 9223372036854775807 < hd.size + 14 := by omega
  have e28 : ¬ 9223372036854775807 < hd.size + tl.size := by omega
  go_wp2_with fail
  refine (gRep_any _ (4 + a) _ (by decide) (by omega) (by omega)).mono ?_
  rintro e w3 ⟨r2, rfl, r2s, hb⟩
  have HBx := Lib.hid (HBP.out.trans (hb.mono HBP.out.size))
  clear HBP hb
  have HBP := HBx
  clear HBx
  have e2 : ¬ 9223372036854775807 < 8 + r2.size := by omega
  go_wp2_with fail
  refine (gRep_any _ (4 + a) _ (by decide) (by omega) (by omega)).mono ?_
  rintro e w4 ⟨r3, rfl, r3s, hb⟩
  have HBx := Lib.hid (HBP.out.trans (hb.mono HBP.out.size))
  clear HBP hb
  have HBP := HBx
  clear HBx
  have e3 : ¬ 9223372036854775807 < hd.size + r3.size := by omega
  go_wp2_with fail
  refine (gRep_any _ (2 * (4 + a)) _ (by decide) (by omega) (by omega)).mono ?_
  rintro e w5 ⟨r4, rfl, r4s, hb⟩
  have HBx := Lib.hid (HBP.out.trans (hb.mono HBP.out.size))
  clear HBP hb
  have HBP := HBx
  clear HBx
  have e22 : ¬ 9223372036854775807 < hd.size + 10 + r4.size := by omega
  go_wp2_with fail
  refine (gRep_any _ (4 + a) _ (by decide) (by omega) (by omega)).mono ?_
  rintro e w6 ⟨r5, rfl, r5s, hb⟩
  have HBx := Lib.hid (HBP.out.trans (hb.mono HBP.out.size))
  clear HBP hb
  have HBP := HBx
  clear HBx
  have e25 : ¬ 9223372036854775807 < 8 + r5.size := by omega
  go_wp2_with fail
  refine (gRep_any _ ((4 + a) / 3) _ (by decide) (by omega) (by omega)).mono ?_
  rintro e w7 ⟨r6, rfl, r6s, hb⟩
  have HBx := Lib.hid (HBP.out.trans (hb.mono HBP.out.size))
  clear HBP hb
  have HBP := HBx
  clear HBx
  have e27 : ¬ 9223372036854775807 < 9 + r6.size := by omega
  go_wp2_with fail
  refine (CS.out _).mono ?_
  rintro e x1 ⟨rfl, hq⟩
  obtain rfl := hq.symm
  clear hq
  skip
  go_wp2_with fail
  go_meet
  case rel => exact ⟨_, [_, _, _, _, _, _, _, _, _, _, _, _, _, _, _, _, _], rfl, rfl, Blk.new _ _ _, HBP.out.trans ((alloc_belowS _ _).mono HBP.out.size)⟩
 case rest =>
 obtain ⟨g, T, hv, hT, hgb, hb⟩ := hcut
 subst hv
 obtain ⟨wB, hwB⟩ : ∃ w, w = wc := ⟨_, rfl⟩
 rw [← hwB] at hgb hb ⊢
 clear hwB HBP CS
 have HT := Lib.hid hT
 have HG := Lib.hid (And.intro hgb hb)
 clear hT hgb hb a1 a2 c1 c2 i9 i0 nbs tls hds
 go_wp2_with fail
 go_loopw [12, 13, 14, 15, 16, 17, 18] (fun i b2 b3 b4 b5 b6 b7 wr => ∃ j : Nat, i = .int .i64 j ∧ j ≤ 17 ∧ Blk wr g (T.map sv) 9 ∧ Below W.heap.size W wr) (fun i _ _ _ _ _ _ _ => 17 - (intOf i).toNat)
 case atStart => exact ⟨0, rfl, Nat.zero_le _, HG.out.1, HG.out.2⟩
 case round =>
 clear HG
 obtain ⟨j, rfl, hj, hgb, hb⟩ := hrel
 by_cases hlt : j < 17
 ·obtain ⟨s, hs⟩ : ∃ s, T[j]? = some s := ⟨_, List.getElem?_eq_getElem (by rw [HT.out]; exact hlt)⟩
  have cs : wr.cell? ⟨g, j, none⟩ = some (.string s) := hgb.cell j (sv s) (by rw [List.getElem?_map, hs]; rfl)
  have hX := Sm.parse_lax s
  have cP := CG.out s wr hb
  have cR := fun w => paParse_any s w
  obtain ⟨X, at_, er, hXX⟩ : ∃ X at_ er, Sm.parseR s = (X, at_, er) := ⟨_, _, _, rfl⟩
  rw [hXX] at hX cP
  simp only [hXX] at cR
  unfold PrA at cP cR
  dsimp only at hX cP cR
  have CPq := Lib.hid cP
  have CRq := Lib.hid cR
  have HH := Lib.hid (And.intro hgb (And.intro hb hX))
  have j1 : (j : Int) < 17 := by omega
  clear hs hX cP cR hXX hgb hb
  go_wp2_with fail
  refine CPq.out.mono ?_
  rintro e w1 ⟨c, rfl, hsc, hb1⟩
  have hin := scs_in hsc
  obtain ⟨Ak, ck, Al, cl, Ar, cr, hc, hk, hl, hr⟩ := scs_in hsc
  have hg1 := HH.out.1.below hb1 HH.out.1.lt
  have hbb := HH.out.2.1.trans (hb1.mono HH.out.2.1.size)
  obtain ⟨nk, hnk⟩ : ∃ m, m = X.kinds.length := ⟨_, rfl⟩
  obtain ⟨nl, hnl⟩ : ∃ m, m = X.lives.length := ⟨_, rfl⟩
  obtain ⟨nr, hnr⟩ : ∃ m, m = X.rules.length := ⟨_, rfl⟩
  obtain ⟨ver, hver⟩ : ∃ m, m = X.version := ⟨_, rfl⟩
  rw [← hnk, ← hnl, ← hnr, ← hver] at hc
  subst hc
  have HV := Lib.hid (And.intro hnk (And.intro hnl (And.intro hnr hver)))
  have hal := alloc_belowS w1 (.cells #[.int .i64 ver, .slice Ak nk ck, .slice Al nl cl, .slice Ar nr cr] 27)
  have hx1 := Blk.new w1 [.int .i64 ver, .slice Ak nk ck, .slice Al nl cl, .slice Ar nr cr] 27
  have H1 := Lib.hid (And.intro hx1 (And.intro (hin.below hal) (And.intro (hg1.below hal hg1.lt) (hbb.trans (hal.mono hbb.size)))))
  have cs2 : (w1.alloc (.cells #[.int .i64 ver, .slice Ak nk ck, .slice Al nl cl, .slice Ar nr cr] 27)).cell? ⟨g, j, none⟩ = some (.string s) := by
   rw [hal.cell (p := ⟨g, j, none⟩) hg1.lt, hb1.cell (p := ⟨g, j, none⟩) HH.out.1.lt]; exact cs
  clear hin hk hl hr hsc hb1 hg1 hbb hnk hnl hnr hver hal hx1 CPq cs
  go_wp2_with fail
  obtain ⟨v1, hv1⟩ : ∃ v, v = w1.alloc (.cells #[.int .i64 ver, .slice Ak nk ck, .slice Al nl cl, .slice Ar nr cr] 27) := ⟨_, rfl⟩
  have h1 : Blk v1 w1.heap.size [.int .i64 ver, .slice Ak nk ck, .slice Al nl cl, .slice Ar nr cr] 27 ∧ ScIn v1 X [.int .i64 ver, .slice Ak nk ck, .slice Al nl cl, .slice Ar nr cr] ∧ Blk v1 g (T.map sv) 9 ∧ Below W.heap.size W v1 := by rw [hv1]; exact H1.out
  rw [← hv1]
  obtain ⟨xb, hxb⟩ : ∃ m, m = w1.heap.size := ⟨_, rfl⟩
  rw [← hxb] at h1 ⊢
  clear hv1 hxb H1 cs2
  have H1 := Lib.hid h1
  clear h1
  refine (CRq.out _).mono ?_
  rintro e w2 ⟨c, rfl, hsc, hb2⟩
  have hin := scs_in hsc
  obtain ⟨Bk, dk, Bl, dl, Br, dr, hc, -, -, -⟩ := scs_in hsc
  rw [← HV.out.1, ← HV.out.2.1, ← HV.out.2.2.1, ← HV.out.2.2.2] at hc
  subst hc
  have hal := alloc_belowS w2 (.cells #[.int .i64 ver, .slice Bk nk dk, .slice Bl nl dl, .slice Br nr dr] 27)
  have hy := Blk.new w2 [.int .i64 ver, .slice Bk nk dk, .slice Bl nl dl, .slice Br nr dr] 27
  have hx2 := (H1.out.1.below hb2 H1.out.1.lt).below hal (Nat.lt_of_lt_of_le H1.out.1.lt hb2.size)
  have hbb := H1.out.2.2.2.trans (hb2.mono H1.out.2.2.2.size)
  have hg2 := (H1.out.2.2.1.below hb2 H1.out.2.2.1.lt).below hal (Nat.lt_of_lt_of_le H1.out.2.2.1.lt hb2.size)
  have H2 := Lib.hid (And.intro ((H1.out.2.1.below hb2).below hal) (And.intro (hin.below hal) (And.intro hg2 (hbb.trans (hal.mono hbb.size)))))
  have x0 := hx2.cell 0 _ rfl
  have x1 := hx2.cell 1 _ rfl
  have x2 := hx2.cell 2 _ rfl
  have x3 := hx2.cell 3 _ rfl
  have y0 := hy.cell 0 _ rfl
  have y1 := hy.cell 1 _ rfl
  have y2 := hy.cell 2 _ rfl
  have y3 := hy.cell 3 _ rfl
  clear hin hsc hb2 hal hy hx2 hbb hg2 H1 CRq
  go_wp2_with fail
  refine (smSelf_any X [.int .i64 ver, .slice Ak nk ck, .slice Al nl cl, .slice Ar nr cr] [.int .i64 ver, .slice Bk nk dk, .slice Bl nl dl, .slice Br nr dr] _ H2.out.1 H2.out.2.1 HH.out.2.2).mono ?_
  rintro e w3 ⟨rfl, hb3⟩
  have H3 := Lib.hid (And.intro (H2.out.2.2.1.below hb3 H2.out.2.2.1.lt) (H2.out.2.2.2.trans (hb3.mono H2.out.2.2.2.size)))
  clear hb3 H2 x0 x1 x2 x3 y0 y1 y2 y3
  go_wp2_with fail
  go_roundw
  case rel => exact ⟨j + 1, by go_num, by omega, H3.out.1, H3.out.2⟩
  case measure => simp [intOf]; omega
 obtain rfl : j = 17 := by omega
 have HB := Lib.hid hb
 clear hgb hb hlt hj
 go_wp2_with fail
 refine (CL.out _ HB.out).mono ?_
 rintro e w9 ⟨rfl, hb9⟩
 have HB9 := Lib.hid (HB.out.trans (hb9.mono HB.out.size))
 clear hb9 CL
 go_wp2_with fail
 go_ret
 exact ⟨rfl, HB9.out⟩
end Go.Proofs.YtkgddcemocfgfaaGreatDoor
end

