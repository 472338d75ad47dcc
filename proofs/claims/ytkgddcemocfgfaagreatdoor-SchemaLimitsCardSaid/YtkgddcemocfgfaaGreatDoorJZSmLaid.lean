import Derived.Test.YtkgddcemocfgfaaGreatDoorRows
import Derived.Lib.LaidTab
import Derived.Lib.ItoaNum
import Derived.Stop.LaidErr
import Derived.ProofKit
import Derived.LaidMore
import Derived.OpenShut
import Derived.Test.YtkgddcemocfgfaaGreatDoorJZSmGi
import Derived.Test.YtkgddcemocfgfaaGreatDoorJZSmGq

section
/- The program: what is valid: words. -/

namespace Go.Proofs.YtkgddcemocfgfaaGreatDoor
open Go.RowKit
set_option linter.unusedVariables false
set_option linter.unusedSimpArgs false
set_option maxRecDepth 100000

set_option maxHeartbeats 8000000 in
theorem gWords_any (f : Sm.Fd) (x : Shp) (Aw Ag : Option Addr) (cw cg : Nat) (w : World) (hrw : RowAt SvC 1 w Aw f.words) (hrg : RowAt IvC 1 w Ag f.weights) (hlw : f.words.length ≤ 1000000000) (hlg : f.weights.length ≤ 1000000000) :
  Calls Tryz.prog 171 #[.agg #[.string f.name, .string f.of, .string f.up, .int .i64 f.kind, .int .i64 f.lo, .int .i64 f.hi, .slice Aw f.words.length cw, .slice Ag f.weights.length cg], .agg x.cells.toArray] w fun e w' => e = .returned (.bool (Sm.wordsOK f x)) ∧ Below w.heap.size w w' := by
 obtain ⟨z, hz⟩ : ∃ z, z = Sm.wordsOK f x := ⟨_, rfl⟩
 rw [← hz]
 unfold Sm.wordsOK at hz
 obtain ⟨xw, xu, xo, xn, xl, xm, xb⟩ := x
 dsimp only at hz
 obtain ⟨fn, fo, fu, fk, flo, fhi, fws, fgs⟩ := f
 dsimp only at hz hrw hrg hlw hlg ⊢
 have hbel : Below w.heap.size w ((w.alloc (.cells #[.string fn, .string fo, .string fu, .int .i64 fk, .int .i64 flo, .int .i64 fhi, .slice Aw fws.length cw, .slice Ag fgs.length cg] 74)).alloc (.cells #[.string xw, .int .i64 xu, .int .i64 xo, .int .i64 xn, .int .i64 xl, .int .i64 xm, .bool xb] 186)) := ((Below.refl _ _).alloc (Nat.le_refl _) _).alloc (by simp) _
 have cA := fun V (hb : Below w.heap.size w V) => gVlSv_any 134 Sm.isName Aw cw fws 12 V (hrw.below SvC.stays hb) hlw (fun _ _ => rfl) (fun a ha c V' hb' hc => by
  obtain rfl : c = _ := hc
  exact (gIsName_any a V').mono fun e w' h => ⟨h.1, by rw [h.2]; exact Below.refl _ _⟩)
 have cB := fun V (hb : Below w.heap.size w V) => gVlIv_any 191 (fun n => Sm.within n 0 1048576) Ag cg fgs 12 V (hrg.below IvC.stays hb) hlg (fun _ _ => rfl) (fun a ha c V' hb' hc => by
  obtain rfl : c = _ := hc
  exact (gWeight_any a V').mono fun e w' h => ⟨h.1, by rw [h.2]; exact Below.refl _ _⟩)
 have cM := fun (h0 : 0 < fgs.length) V (hb : Below w.heap.size w V) => gMax_any Ag cg fgs V (hrg.below IvC.stays hb) hlg h0
 obtain ⟨nw, hnw⟩ : ∃ n, n = fws.length := ⟨_, rfl⟩
 obtain ⟨ng, hng⟩ : ∃ n, n = fgs.length := ⟨_, rfl⟩
 obtain ⟨q1, hq1⟩ : ∃ q, q = (decide ((nw : Int) ≤ 12) && fws.all Sm.isName) := ⟨_, rfl⟩
 obtain ⟨q2, hq2⟩ : ∃ q, q = (decide ((ng : Int) ≤ 12) && fgs.all fun n => Sm.within n 0 1048576) := ⟨_, rfl⟩
 obtain ⟨q3, hq3⟩ : ∃ q, q = fgs.any pos := ⟨_, rfl⟩
 rw [← hnw, ← hng] at hz hbel
 rw [← hq1, ← hq2, ← hq3] at hz
 simp only [← hnw, ← hq1] at cA
 simp only [← hng, ← hq2] at cB
 simp only [← hng, ← hq3] at cM
 rw [← hnw, ← hng]
 have CA := Lib.hid cA
 have CB := Lib.hid cB
 have CM := Lib.hid cM
 have HZ := Lib.hid hz
 have HB := Lib.hid hbel
 clear cA cB cM hz hbel hnw hng hq1 hq2 hq3 hrw hrg hlw hlg
 show Calls Tryz.prog 171 #[.agg #[.string fn, .string fo, .string fu, .int .i64 fk, .int .i64 flo, .int .i64 fhi, .slice Aw nw cw, .slice Ag ng cg], .agg #[.string xw, .int .i64 xu, .int .i64 xo, .int .i64 xn, .int .i64 xl, .int .i64 xm, .bool xb]] w _
 cases xb with
 | false =>
  clear CA CB CM
  by_cases h1 : nw = 0
  ·subst h1
   by_cases h2 : ng = 0
   ·subst h2
    obtain rfl : z = true := by rw [HZ.out]; rfl
    go_enter Tryz.func171, Tryz.ntmps171
    go_wp2_with fail
    go_ret
    exact ⟨rfl, HB.out⟩
   ·obtain rfl : z = false := by rw [HZ.out, if_pos rfl, decide_eq_false (by omega)]
    have h2b : ((ng : Int) == 0) = false := by simpa using h2
    have h2c : ¬ (ng : Int) = 0 := by omega
    go_enter Tryz.func171, Tryz.ntmps171
    go_wp2_with fail
    go_ret
    exact ⟨rfl, HB.out⟩
  ·obtain rfl : z = false := by rw [HZ.out, if_pos rfl, decide_eq_false (by omega)]
   have h1b : ((nw : Int) == 0) = false := by simpa using h1
   have h1c : ¬ (nw : Int) = 0 := by omega
   go_enter Tryz.func171, Tryz.ntmps171
   go_wp2_with fail
   go_ret
   exact ⟨rfl, HB.out⟩
 | true =>
  by_cases h1 : 0 < nw
  ·by_cases h2 : nw = ng
   ·subst h2
    have h1i : (0 : Int) < nw := by omega
    have hz2 : z = (q1 && (q2 && q3)) := by rw [HZ.out, if_neg (by decide), decide_eq_true h1, decide_eq_true rfl]; rfl
    have HZ2 := Lib.hid hz2
    have HBX := Lib.hid (show Blk ((w.alloc (.cells #[.string fn, .string fo, .string fu, .int .i64 fk, .int .i64 flo, .int .i64 fhi, .slice Aw nw cw, .slice Ag nw cg] 74)).alloc (.cells #[.string xw, .int .i64 xu, .int .i64 xo, .int .i64 xn, .int .i64 xl, .int .i64 xm, .bool true] 186)) w.heap.size [.string fn, .string fo, .string fu, .int .i64 fk, .int .i64 flo, .int .i64 fhi, .slice Aw nw cw, .slice Ag nw cg] 74 from (Blk.new w [.string fn, .string fo, .string fu, .int .i64 fk, .int .i64 flo, .int .i64 fhi, .slice Aw nw cw, .slice Ag nw cg] _).alloc _)
    clear hz2 HZ
    go_enter Tryz.func171, Tryz.ntmps171
    go_wp2_with fail
    refine (CA.out _ HB.out).mono ?_
    rintro e w1 ⟨rfl, hb⟩
    have hbx := HBX.out.below hb HBX.out.lt
    have d7 := hbx.cell 7 _ rfl
    have H1 := Lib.hid (And.intro (HB.out.trans (hb.mono HB.out.size)) hbx)
    clear hb hbx CA HBX HB
    cases q1 with
    | false =>
     obtain rfl : z = false := by rw [HZ2.out]; rfl
     go_wp2_with fail
     go_ret
     exact ⟨rfl, H1.out.1⟩
    | true =>
     go_wp2_with fail
     refine (CB.out _ H1.out.1).mono ?_
     rintro e w3 ⟨rfl, hb⟩
     have hbx := H1.out.2.below hb H1.out.2.lt
     clear d7
     have d7 := hbx.cell 7 _ rfl
     have H2 := Lib.hid (H1.out.1.trans (hb.mono H1.out.1.size))
     clear hb hbx CB H1
     cases q2 with
     | false =>
      obtain rfl : z = false := by rw [HZ2.out]; rfl
      go_wp2_with fail
      go_ret
      exact ⟨rfl, H2.out⟩
     | true =>
      go_wp2_with fail
      refine (CM.out h1 _ H2.out).mono ?_
      rintro e w4 ⟨m, rfl, hm, rfl⟩
      have hz3 : z = decide (0 < m) := by rw [HZ2.out]; show q3 = _; rw [← hm]; rfl
      have HZ3 := Lib.hid hz3
      clear hm hz3 CM d7
      go_wp2_with fail
      go_ret
      exact ⟨by rw [HZ3.out]; rfl, H2.out⟩
   ·obtain rfl : z = false := by rw [HZ.out, if_neg (by decide), decide_eq_true h1, decide_eq_false h2]; rfl
    have h1i : (0 : Int) < nw := by omega
    have h2i : ¬ (nw : Int) = ng := by omega
    have h2b : ((nw : Int) == ng) = false := by simp; omega
    clear CA CB CM
    go_enter Tryz.func171, Tryz.ntmps171
    go_wp2_with fail
    go_ret
    exact ⟨rfl, HB.out⟩
  ·obtain rfl : nw = 0 := by omega
   obtain rfl : z = false := by rw [HZ.out, if_neg (by decide), decide_eq_false h1]; rfl
   clear CA CB CM
   go_enter Tryz.func171, Tryz.ntmps171
   go_wp2_with fail
   go_ret
   exact ⟨rfl, HB.out⟩
end Go.Proofs.YtkgddcemocfgfaaGreatDoor
end

section
/- The program: what is valid: a field. -/


namespace Go.Proofs.YtkgddcemocfgfaaGreatDoor
open Go.RowKit
set_option linter.unusedVariables false
set_option linter.unusedSimpArgs false
set_option maxRecDepth 100000

namespace Sm
def fieldOK (f : Fd) : Bool :=
 isName f.name && (within f.kind 0 8 && (useOK f.up (shpL.getD f.kind.toNat shpZ).up && (useOK f.of (shpL.getD f.kind.toNat shpZ).of && (numsOK f.lo f.hi (shpL.getD f.kind.toNat shpZ) && wordsOK f (shpL.getD f.kind.toNat shpZ)))))
end Sm
theorem shp_small (k : Nat) (x : Shp) (hx : shpL[k]? = some x) : (x.up = 0 ∨ x.up = 1 ∨ x.up = 2) ∧ (x.of = 0 ∨ x.of = 1 ∨ x.of = 2) ∧ (x.numbers = 0 ∨ x.numbers = 1 ∨ x.numbers = 2) := by
 have hm := List.mem_of_getElem? hx
 simp only [shpL, List.mem_cons, List.not_mem_nil, or_false] at hm
 rcases hm with rfl | rfl | rfl | rfl | rfl | rfl | rfl | rfl | rfl <;> decide
set_option maxHeartbeats 8000000 in
theorem gValidField_any (f : Sm.Fd) (Aw Ag : Option Addr) (cw cg : Nat) (w : World) (hD : SDoor w) (hC : FdC w w.heap.size f [.string f.name, .string f.of, .string f.up, .int .i64 f.kind, .int .i64 f.lo, .int .i64 f.hi, .slice Aw f.words.length cw, .slice Ag f.weights.length cg])
  (hlw : f.words.length ≤ 1000000000) (hlg : f.weights.length ≤ 1000000000) :
  Calls Tryz.prog 137 #[.agg #[.string f.name, .string f.of, .string f.up, .int .i64 f.kind, .int .i64 f.lo, .int .i64 f.hi, .slice Aw f.words.length cw, .slice Ag f.weights.length cg]] w fun e w' => e = .returned (.bool (Sm.fieldOK f)) ∧ Below w.heap.size w w' := by
 obtain ⟨Aw', cw', Ag', cg', he, hw, hgg, -⟩ := hC
 obtain ⟨⟨rfl, rfl⟩, rfl, rfl⟩ : (Aw = Aw' ∧ cw = cw') ∧ Ag = Ag' ∧ cg = cg' := by simpa using he
 have hrw := rowat_sv hw
 have hrg := rowat_iv hgg
 obtain ⟨rt, rfr, hrow⟩ := hD.row
 have hgs : 0 < w.heap.size := (Array.getElem?_eq_some_iff.1 hrow).1
 have cI := fun V => gIsName_any f.name V
 have cW := fun V => gWithin_any f.kind 0 8 V
 have cU := fun u hu V => gUse_any f.up u hu V
 have cO := fun u hu V => gUse_any f.of u hu V
 have cN := fun x hx V => gNumbers_any f.name f.of f.up f.kind f.lo f.hi undef undef x hx Aw Ag f.words.length cw f.weights.length cg V
 have cR := fun x V (hb : Below w.heap.size w V) => gWords_any f x Aw Ag cw cg V (hrw.below SvC.stays hb) (hrg.below IvC.stays hb) hlw hlg
 obtain ⟨z, hz⟩ : ∃ z, z = Sm.fieldOK f := ⟨_, rfl⟩
 rw [← hz]
 unfold Sm.fieldOK at hz
 obtain ⟨q1, hq1⟩ : ∃ q, q = Sm.isName f.name := ⟨_, rfl⟩
 obtain ⟨q2, hq2⟩ : ∃ q, q = Sm.within f.kind 0 8 := ⟨_, rfl⟩
 have hk : q2 = true → ∃ (k : Nat) (x : Shp), f.kind = (k : Int) ∧ k < 9 ∧ shpL[k]? = some x ∧ shpL.getD f.kind.toNat Sm.shpZ = x ∧ ∀ (i : Nat) (u : Value), x.cells[i]? = some u → shpAll[k * 7 + i]? = some u := by
  intro h
  have h2 : 0 ≤ f.kind ∧ f.kind ≤ 8 := of_decide_eq_true (hq2.symm.trans h)
  obtain ⟨k, hk⟩ : ∃ k : Nat, f.kind = (k : Int) := Int.eq_ofNat_of_zero_le h2.1
  have hk9 : k < 9 := by omega
  obtain ⟨x, hx⟩ : ∃ x, shpL[k]? = some x := ⟨_, List.getElem?_eq_getElem (by show k < 9; exact hk9)⟩
  refine ⟨k, x, hk, hk9, hx, ?_, ?_⟩
  ·rw [hk, show ((k : Int)).toNat = k by omega, List.getD_eq_getElem?_getD, hx]
   rfl
  ·intro i u hu
   exact flatten_at (shpL.map Shp.cells) k i x.cells u (by intro y hy; obtain ⟨a, _, rfl⟩ := List.mem_map.1 hy; rfl) (by rw [List.getElem?_map, hx]; rfl) hu
 simp only [← hq1] at cI
 simp only [← hq2] at cW
 rw [← hq1, ← hq2] at hz
 obtain ⟨fn, fo, fu, fk, flo, fhi, fws, fgs⟩ := f
 dsimp only at hz hk cI cW cU cO cN cR ⊢
 have hf : ∃ F : Sm.Fd, F = ⟨fn, fo, fu, fk, flo, fhi, fws, fgs⟩ := ⟨_, rfl⟩
 obtain ⟨F, hF⟩ := hf
 rw [← hF] at hz cR
 obtain ⟨nw, hnw⟩ : ∃ n, n = fws.length := ⟨_, rfl⟩
 obtain ⟨ng, hng⟩ : ∃ n, n = fgs.length := ⟨_, rfl⟩
 rw [← hnw, ← hng]
 simp only [← hnw, ← hng] at cN cR
 have hbx := Blk.new w [.string fn, .string fo, .string fu, .int .i64 fk, .int .i64 flo, .int .i64 fhi, .slice Aw nw cw, .slice Ag ng cg] 74
 have HBX := Lib.hid hbx
 have HROW := Lib.hid (show ∀ V, Below w.heap.size w V → V.heap[0]? = some (.cells shpAll.toArray rt rfr) from fun V hb => (hb.block _ hgs).trans hrow)
 have CI := Lib.hid cI
 have CW := Lib.hid cW
 have CU := Lib.hid cU
 have CO := Lib.hid cO
 have CN := Lib.hid cN
 have CR := Lib.hid cR
 have HK := Lib.hid hk
 have HZ := Lib.hid hz
 have HB1 := Lib.hid (show Below w.heap.size w (w.alloc (.cells #[.string fn, .string fo, .string fu, .int .i64 fk, .int .i64 flo, .int .i64 fhi, .slice Aw nw cw, .slice Ag ng cg] 74)) from (Below.refl _ _).alloc (Nat.le_refl _) _)
 clear hbx cI cW cU cO cN cR hk hz hq1 hq2 hF hnw hng hlw hlg hrw hrg hw hgg he hrow hgs hD
 go_enter Tryz.func137, Tryz.ntmps137
 go_wp2_with fail
 refine (CI.out _).mono ?_
 rintro e w1 ⟨rfl, rfl⟩
 clear CI
 cases q1 with
 | false =>
  obtain rfl : z = false := by rw [HZ.out]; rfl
  go_wp2_with fail
  go_ret
  exact ⟨rfl, HB1.out⟩
 | true =>
  go_wp2_with fail
  refine (CW.out _).mono ?_
  rintro e w1 ⟨rfl, rfl⟩
  clear CW
  cases q2 with
  | false =>
   obtain rfl : z = false := by rw [HZ.out]; rfl
   go_wp2_with fail
   go_ret
   exact ⟨rfl, HB1.out⟩
  | true =>
   obtain ⟨k, x, rfl, hk9, hx, hgd, hall⟩ := HK.out (by first | rfl | trivial)
   have hz2 : z = (Sm.useOK fu x.up && (Sm.useOK fo x.of && (Sm.numsOK flo fhi x && Sm.wordsOK F x))) := by rw [HZ.out, hgd]; rfl
   obtain ⟨s1, s2, s3⟩ := shp_small k x hx
   have hcell : ∀ (i : Nat) (u : Value), x.cells[i]? = some u → (w.alloc (.cells #[.string fn, .string fo, .string fu, .int .i64 (k : Int), .int .i64 flo, .int .i64 fhi, .slice Aw nw cw, .slice Ag ng cg] 74)).cell? ⟨0, k * 7 + i, none⟩ = some u := fun i u hu => by
    rw [cell_of_row _ _ _ _ _ _ (HROW.out _ HB1.out)]
    simpa using hall i u hu
   have e0 : (w.alloc (.cells #[.string fn, .string fo, .string fu, .int .i64 (k : Int), .int .i64 flo, .int .i64 fhi, .slice Aw nw cw, .slice Ag ng cg] 74)).cell? ⟨0, k * 7, none⟩ = some (.string x.word) := hcell 0 _ rfl
   have e1 := hcell 1 (.int .i64 x.up) rfl
   have e2 := hcell 2 (.int .i64 x.of) rfl
   have e3 := hcell 3 (.int .i64 x.numbers) rfl
   have e4 := hcell 4 (.int .i64 x.least) rfl
   have e5 := hcell 5 (.int .i64 x.most) rfl
   have e6 := hcell 6 (.bool x.words) rfl
   have j1 : (k : Int) < 9 := by omega
   have j0 : (0 : Int) ≤ k := by omega
   have cu := CU.out x.up s1
   have co := CO.out x.of s2
   have cn := CN.out x s3
   have cr := CR.out x
   obtain ⟨p1, hp1⟩ : ∃ q, q = Sm.useOK fu x.up := ⟨_, rfl⟩
   obtain ⟨p2, hp2⟩ : ∃ q, q = Sm.useOK fo x.of := ⟨_, rfl⟩
   obtain ⟨p3, hp3⟩ : ∃ q, q = Sm.numsOK flo fhi x := ⟨_, rfl⟩
   obtain ⟨p4, hp4⟩ : ∃ q, q = Sm.wordsOK F x := ⟨_, rfl⟩
   simp only [← hp1] at cu
   simp only [← hp2] at co
   simp only [← hp3] at cn
   simp only [← hp4] at cr
   rw [← hp1, ← hp2, ← hp3, ← hp4] at hz2
   have CUq := Lib.hid cu
   have COq := Lib.hid co
   have CNq := Lib.hid cn
   have CRq := Lib.hid cr
   have HZ2 := Lib.hid hz2
   clear cu co cn cr hz2 hp1 hp2 hp3 hp4 hcell hall hgd hx s1 s2 s3 HZ HK CU CO CN CR
   go_wp2_with fail
   have hb2 : Below w.heap.size w ((w.alloc (.cells #[.string fn, .string fo, .string fu, .int .i64 (k : Int), .int .i64 flo, .int .i64 fhi, .slice Aw nw cw, .slice Ag ng cg] 74)).alloc (.cells #[.string x.word, .int .i64 x.up, .int .i64 x.of, .int .i64 x.numbers, .int .i64 x.least, .int .i64 x.most, .bool x.words] 186)) := HB1.out.alloc HB1.out.size _
   have hf2 := (HBX.out).alloc (.cells #[.string x.word, .int .i64 x.up, .int .i64 x.of, .int .i64 x.numbers, .int .i64 x.least, .int .i64 x.most, .bool x.words] 186)
   have hs2 := Blk.new (w.alloc (.cells #[.string fn, .string fo, .string fu, .int .i64 (k : Int), .int .i64 flo, .int .i64 fhi, .slice Aw nw cw, .slice Ag ng cg] 74)) [.string x.word, .int .i64 x.up, .int .i64 x.of, .int .i64 x.numbers, .int .i64 x.least, .int .i64 x.most, .bool x.words] 186
   rw [World.size_alloc] at hs2
   have H2 := Lib.hid (And.intro hb2 (And.intro hf2 hs2))
   clear hb2 hf2 hs2 e0 e1 e2 e3 e4 e5 e6
   refine (CUq.out _).mono ?_
   rintro e w1 ⟨rfl, rfl⟩
   clear CUq
   cases p1 with
   | false =>
    obtain rfl : z = false := by rw [HZ2.out]; rfl
    go_wp2_with fail
    go_ret
    exact ⟨rfl, H2.out.1⟩
   | true =>
    go_wp2_with fail
    refine (COq.out _).mono ?_
    rintro e w1 ⟨rfl, rfl⟩
    clear COq
    cases p2 with
    | false =>
     obtain rfl : z = false := by rw [HZ2.out]; rfl
     go_wp2_with fail
     go_ret
     exact ⟨rfl, H2.out.1⟩
    | true =>
     go_wp2_with fail
     refine (CNq.out _).mono ?_
     rintro e w3 ⟨rfl, hb⟩
     have hf3 := H2.out.2.1.below hb H2.out.2.1.lt
     have hs3 := H2.out.2.2.below hb H2.out.2.2.lt
     obtain ⟨d0, d1, d2, d3, d4, d5, d6, d7⟩ := cells8 hf3
     have s0 := hs3.cell 0 _ rfl
     have s1 := hs3.cell 1 _ rfl
     have s2 := hs3.cell 2 _ rfl
     have s3 := hs3.cell 3 _ rfl
     have s4 := hs3.cell 4 _ rfl
     have s5 := hs3.cell 5 _ rfl
     have s6 := hs3.cell 6 _ rfl
     have H3 := Lib.hid (H2.out.1.trans (hb.mono H2.out.1.size))
     clear hb hf3 hs3 CNq H2
     cases p3 with
     | false =>
      obtain rfl : z = false := by rw [HZ2.out]; rfl
      go_wp2_with fail
      go_ret
      exact ⟨rfl, H3.out⟩
     | true =>
      obtain rfl : z = p4 := by rw [HZ2.out]; rfl
      go_wp2_with fail
      refine (CRq.out _ H3.out).mono ?_
      rintro e w4 ⟨rfl, hb⟩
      have H4 := Lib.hid (H3.out.trans (hb.mono H3.out.size))
      clear hb CRq d0 d1 d2 d3 d4 d5 d6 d7 s0 s1 s2 s3 s4 s5 s6
      go_wp2_with fail
      go_ret
      exact ⟨rfl, H4.out⟩
end Go.Proofs.YtkgddcemocfgfaaGreatDoor
end

section
/- What a row that lists the variables says of them: the program's table of kinds of fields, the library's table and error. -/









namespace Go.Proofs.YtkgddcemocfgfaaGreatDoor
open Go.RowKit
set_option linter.unusedVariables false
set_option linter.unusedSimpArgs false
set_option maxRecDepth 100000

def shpD (U : Type) (s : Shp) : DataW U := .agg [.lit (.string s.word.data.toList), .lit (.int .i64 s.up), .lit (.int .i64 s.of), .lit (.int .i64 s.numbers), .lit (.int .i64 s.least), .lit (.int .i64 s.most), .lit (.bool s.words)]
def shapesD (U : Type) : DataW U := .agg (shpL.map (shpD U))
theorem sdatumS : (Rows.laid_diorama_schema_shapes : DataW Unit) = shapesD Unit := by kernel_rfl
theorem stS : (Tryz.prog.globals[0]?).map (·.type) = some 187 := by kernel_rfl
theorem list7 {α : Type} (l : List α) (h : l.length = 7) : ∃ a b c d e f g, l = [a, b, c, d, e, f, g] := by
 match l, h with
 | [a, b, c, d, e, f, g], _ => exact ⟨a, b, c, d, e, f, g, rfl⟩
theorem shp_trod {U : Type} {enc : TypeId × Value → U} {w : World} {base fuel : Nat} {spare : Nat → Bool} {held : Bool} {c : List Value} {x : DataW U × List MemPlace} (h : DataW.trod enc Tryz.prog w base spare held fuel 186 c = some x) (s : Shp) (hx : x.1 = shpD U s) : c = s.cells := by
 obtain ⟨fs, hfs⟩ : ∃ fs, Tryz.prog.underlying 186 = some (.struct fs) := ⟨_, rfl⟩
 obtain ⟨xs, n, -, rfl, hl, hlen, hf⟩ := DataW.trod_struct rfl h
 have hc7 : c.length = 7 := hl.trans (by kernel_rfl)
 have hx7 : xs.length = 7 := hlen.trans (by kernel_rfl)
 obtain ⟨y0, y1, y2, y3, y4, y5, y6, rfl⟩ := list7 xs hx7
 obtain ⟨v0, v1, v2, v3, v4, v5, v6, rfl⟩ := list7 c hc7
 simp only [shpD, List.map_cons, List.map_nil, DataW.agg.injEq, List.cons.injEq, and_true] at hx
 obtain ⟨e0, e1, e2, e3, e4, e5, e6⟩ := hx
 have h0 := hf 0 _ rfl
 have h1 := hf 1 _ rfl
 have h2 := hf 2 _ rfl
 have h3 := hf 3 _ rfl
 have h4 := hf 4 _ rfl
 have h5 := hf 5 _ rfl
 have h6 := hf 6 _ rfl
 have c1 : Tryz.prog.cellsOf 3 = 1 := by kernel_rfl
 have c2 : Tryz.prog.cellsOf 9 = 1 := by kernel_rfl
 have c3 : Tryz.prog.cellsOf 4 = 1 := by kernel_rfl
 simp only [c1, c2, c3, List.getElem?_cons_zero, List.getElem?_cons_succ, List.drop_zero, List.drop_succ_cons, List.take_succ_cons, List.take_zero] at h0 h1 h2 h3 h4 h5 h6
 obtain ⟨r0, q0, p0, -⟩ := DataW.trod_string Tryz.underlying9 h0
 obtain ⟨r1, q1, p1, -⟩ := DataW.trod_int Tryz.underlying3 h1
 obtain ⟨r2, q2, p2, -⟩ := DataW.trod_int Tryz.underlying3 h2
 obtain ⟨r3, q3, p3, -⟩ := DataW.trod_int Tryz.underlying3 h3
 obtain ⟨r4, q4, p4, -⟩ := DataW.trod_int Tryz.underlying3 h4
 obtain ⟨r5, q5, p5, -⟩ := DataW.trod_int Tryz.underlying3 h5
 obtain ⟨r6, q6, p6⟩ := DataW.trod_bool Tryz.underlying4 h6
 rw [p0] at e0
 rw [p1] at e1
 rw [p2] at e2
 rw [p3] at e3
 rw [p4] at e4
 rw [p5] at e5
 rw [p6] at e6
 simp only [DataW.lit.injEq, Lit.int.injEq, Lit.bool.injEq, Lit.string.injEq, true_and] at e0 e1 e2 e3 e4 e5 e6
 replace q0 := (List.cons.inj q0).1
 replace q1 := (List.cons.inj q1).1
 replace q2 := (List.cons.inj q2).1
 replace q3 := (List.cons.inj q3).1
 replace q4 := (List.cons.inj q4).1
 replace q5 := (List.cons.inj q5).1
 replace q6 := (List.cons.inj q6).1
 have e0' : r0 = s.word := by
  cases r0
  obtain ⟨sw, _, _, _, _, _, _⟩ := s
  cases sw
  congr 1
  exact Array.toList_inj.1 e0
 rw [q0, q1, q2, q3, q4, q5, q6, e0', e1, e2, e3, e4, e5, e6]
 rfl
theorem shapes_trod {U : Type} {enc : TypeId × Value → U} {w : World} {base fuel : Nat} {spare : Nat → Bool} {held : Bool} {cs : List Value} {x : DataW U × List MemPlace} (h : DataW.trod enc Tryz.prog w base spare held fuel 187 cs = some x) (hx : x.1 = shapesD U) : cs = shpAll := by
 obtain ⟨xs, m, -, rfl, hl, hlen, hel⟩ := DataW.trod_array Tryz.underlying187 h
 have hc : Tryz.prog.cellsOf 186 = 7 := by kernel_rfl
 have hl63 : cs.length = 63 := hl.trans (by kernel_rfl)
 simp only [shapesD, DataW.agg.injEq] at hx
 have hrow : ∀ i, (hi : i < 9) → (cs.drop (i * 7)).take 7 = (shpL[i]'(by show i < 9; exact hi)).cells := by
  intro i hi
  have h1 := hel i hi
  rw [hc, List.getElem?_eq_getElem (by omega)] at h1
  refine shp_trod h1 _ ?_
  have h2 := congrArg (fun l => l[i]?) hx
  simp only [List.getElem?_map] at h2
  rw [List.getElem?_eq_getElem (by omega), List.getElem?_eq_getElem (show i < shpL.length from hi)] at h2
  simpa using h2
 apply List.ext_getElem?
 intro k
 by_cases hk : k < 63
 ·have hi : k / 7 < 9 := by omega
  have h1 : ((cs.drop (k / 7 * 7)).take 7)[k % 7]? = (shpL[k / 7]'(by show k / 7 < 9; exact hi)).cells[k % 7]? := congrArg (fun l => l[k % 7]?) (hrow (k / 7) hi)
  rw [List.getElem?_take_of_lt (by omega), List.getElem?_drop, show k / 7 * 7 + k % 7 = k by omega] at h1
  rw [h1]
  have hz : (shpL[k / 7]'(by show k / 7 < 9; exact hi)).cells.length = 7 := rfl
  obtain ⟨u, hu⟩ : ∃ u, (shpL[k / 7]'(by show k / 7 < 9; exact hi)).cells[k % 7]? = some u := by
   have hlt : k % 7 < (shpL[k / 7]'(by show k / 7 < 9; exact hi)).cells.length := by rw [hz]; omega
   exact ⟨_, List.getElem?_eq_getElem hlt⟩
  rw [hu]
  have := flatten_at (sz := 7) (shpL.map Shp.cells) (k / 7) (k % 7) _ u (by intro y hy; obtain ⟨a, _, rfl⟩ := List.mem_map.1 hy; rfl) (by rw [List.getElem?_map, List.getElem?_eq_getElem (show k / 7 < shpL.length from hi)]; rfl) hu
  rw [show k / 7 * 7 + k % 7 = k by omega] at this
  exact this.symm
 ·rw [List.getElem?_eq_none (by omega), List.getElem?_eq_none (by show 63 ≤ k; omega)]

theorem stT : (Tryz.prog.globals[4]?).map (·.type) = some 232 := by kernel_rfl
theorem stY : (Tryz.prog.globals[5]?).map (·.type) = some 141 := by kernel_rfl
theorem sstarE : "*" ++ "errors.errorString" = "*errors.errorString" := by decide
theorem srowE (u : TypeId) (h : Tryz.prog.typeName? 3 u = some "*errors.errorString") : u = 250 :=
 typeName_ptr_named (nm := "errors.errorString") (by rw [sstarE]; kernel_rfl) (by kernel_rfl) (by decide) u (by rw [sstarE]; exact h)
theorem sdatumT : (Rows.laid_internal_strconv_uint64pow10 : DataW Unit) = Lib.tabData .u64 Lib.pow10Tab := by kernel_rfl
abbrev sList : List (String × DataW Unit) := [("math/bits.deBruijn32tab", Rows.laid_math_bits_deBruijn32tab), ("math/bits.deBruijn64tab", Rows.laid_math_bits_deBruijn64tab), ("internal/strconv.uint64pow10", Rows.laid_internal_strconv_uint64pow10), ("strconv.ErrRange", Rows.laid_strconv_ErrRange), ("strconv.ErrSyntax", Rows.laid_strconv_ErrSyntax), ("diorama/schema.shapes", Rows.laid_diorama_schema_shapes)]
theorem var_lt {n : String} {g : Nat} {cs : Array Value} {w : World} (hg : Tryz.prog.globalNamed n = some g) (h : w.var? Tryz.prog n = some cs) : g < w.heap.size := by
 unfold World.var? at h
 rw [hg] at h
 simp only [Option.bind_some] at h
 apply Decidable.byContradiction
 intro hn
 rw [Array.getElem?_eq_none (by omega)] at h
 simp at h
theorem sof_laid {W : World} (h : laidMetH Tryz.prog sList W) : SDoor W ∧ doorB ≤ W.heap.size := by
 rw [MakeChecks.laidMetH_plain _ _ _ (by kernel_rfl)] at h
 have h3 := h.tail.tail
 rw [sdatumT] at h3
 have hP := Lib.tabIs_of_head gPow stT Tryz.underlying232 Tryz.underlying118 (by kernel_rfl) (by kernel_rfl) h3
 obtain ⟨a, s, hv, -, -, -⟩ := laid_sentinel h.tail.tail.tail.tail gESyn stY Tryz.underlying141 srowE Tryz.underlying250 Tryz.underlying252 rfl rfl Tryz.underlying9 (by kernel_rfl) (by kernel_rfl)
 obtain ⟨ps, ⟨g0, t0, cs0, f0, p0, q0, hg0, ht0, hv0, hd0, _, _⟩, _, _⟩ := h.tail.tail.tail.tail.tail
 obtain rfl := Option.some.inj (gShapes.symm.trans hg0)
 obtain rfl := Option.some.inj (stS.symm.trans ht0)
 have hcs := shapes_trod hd0 sdatumS
 have hS : W.var? Tryz.prog "diorama/schema.shapes" = some shpAll.toArray := by rw [hv0, ← hcs]
 have l1 := var_lt gPow hP
 have l2 := var_lt gESyn hv
 have l3 := var_lt gShapes hS
 exact ⟨⟨hP, ⟨_, _, hv⟩, hS⟩, by unfold doorB; omega⟩
theorem sdoor_met (os : Os) (args : Array Value) : laidMetH Tryz.prog sList ((World.doorLaid Tryz.prog 400 os).forCall (fun _ _ => 0) ⟨#[], args, []⟩).memory :=
 laidMetH_of_parts3 (fuel := 8) (laidMet_of_run' 8 (by kernel_rfl) (by kernel_rfl)) (by kernel_rfl) (by kernel_rfl)
theorem sdoor_shaped (os : Os) (args : Array Value) : ((World.doorLaid Tryz.prog 400 os).forCall (fun _ _ => 0) ⟨#[], args, []⟩).Shaped Tryz.prog := World.shaped_of_RefB (by kernel_rfl) (by kernel_rfl)
end Go.Proofs.YtkgddcemocfgfaaGreatDoor
end

