import Derived.Test.YtkgddcemocfgfaaGreatDoorJZSmLaid

section
/- The program: what is valid: a kind, a life cycle, a rule. -/

namespace Go.Proofs.YtkgddcemocfgfaaGreatDoor
open Go.RowKit
set_option linter.unusedVariables false
set_option linter.unusedSimpArgs false
set_option maxRecDepth 100000

namespace Sm
def kindOK (k : Kd) : Bool := isName k.name && (span k.lo k.hi 0 65536 && (decide ((k.fields.length : Int) ≤ 10) && k.fields.all fieldOK))
def moveOK (n : Nat) (m : Int × Int) : Bool := within m.1 0 ((n : Int) - 1) && within m.2 0 ((n : Int) - 1)
def lifeOK (x : Lf) : Bool := isName x.name && (decide (0 < x.states.length) && ((decide ((x.states.length : Int) ≤ 12) && x.states.all isName) && (decide ((x.moves.length : Int) ≤ 32) && x.moves.all (moveOK x.states.length))))
def ruleOK (r : Ru) : Bool := isName r.name && (isName r.kind && (useOK r.a 2 && (useOK r.b 2 && (!(decide (r.a.size = 0) && decide (r.b.size = 0)) && within r.n (-1048576) 1048576))))
end Sm
theorem rowat_mv {w : World} {A : Option Addr} {l : List (Int × Int)} (h : Rd w w.heap.size A (Sm.moveC l)) : RowAt MvC 2 w A l := by
 intro j a hj
 have hlt := (List.getElem?_eq_some_iff.1 hj).1
 have hl : ∀ l : List (Int × Int), (Sm.moveC l).length = 2 * l.length := fun l => by
  induction l with
  | nil => rfl
  | cons x t ih =>
   have e : (Sm.moveC (x :: t)).length = 2 + (Sm.moveC t).length := by unfold Sm.moveC; rw [List.flatMap_cons, List.length_append]; rfl
   rw [e, ih, List.length_cons]; omega
 obtain ⟨b, off, hA, hb, hc⟩ := h (by rw [hl]; omega)
 refine ⟨b, off, [.int .i64 a.1, .int .i64 a.2], hA, hb, rfl, fun i u hu => ?_⟩
 have e : Sm.moveC l = (l.map fun m => [iv m.1, iv m.2]).flatten := by unfold Sm.moveC; rw [List.flatMap_def]
 rw [Nat.add_assoc]
 refine hc (j * 2 + i) u ?_
 rw [e]
 exact flatten_at _ j i [iv a.1, iv a.2] u (by intro y hy; obtain ⟨m, _, rfl⟩ := List.mem_map.1 hy; rfl) (by rw [List.getElem?_map, hj]; rfl) hu

set_option maxHeartbeats 4000000 in
theorem gValidKind_any (k : Sm.Kd) (A : Option Addr) (cf : Nat) (w : World) (hD : SDoor w) (hB : doorB ≤ w.heap.size) (hr : Rows FdC w w.heap.size A k.fields) (hl : k.fields.length ≤ 1000000000) (hf : ∀ f ∈ k.fields, f.words.length ≤ 1000000000 ∧ f.weights.length ≤ 1000000000) :
  Calls Tryz.prog 84 #[.agg #[.string k.name, .int .i64 k.lo, .int .i64 k.hi, .slice A k.fields.length cf]] w fun e w' => e = .returned (.bool (Sm.kindOK k)) ∧ Below w.heap.size w w' := by
 have hra := rowat_rows hr (sz := 8) (by decide) fun _ _ h => h.size
 have cI := fun V => gIsName_any k.name V
 have cS := fun V => gBounds_any k.lo k.hi 0 65536 V
 have cL := fun V (hb : Below w.heap.size w V) => gVlFd_any 137 Sm.fieldOK A cf k.fields 10 V (hra.below FdC.stays hb) hl (fun _ _ => rfl) (fun a ha c V' hb' hc => by
  have hb2 : Below w.heap.size w V' := hb.trans (hb'.mono hb.size)
  have hc2 := hc
  obtain ⟨Aw, cw, Ag, cg, rfl, -⟩ := hc2
  exact gValidField_any a Aw Ag cw cg V' (hD.below hb2 hB) hc (hf a ha).1 (hf a ha).2)
 obtain ⟨z, hz⟩ : ∃ z, z = Sm.kindOK k := ⟨_, rfl⟩
 rw [← hz]
 unfold Sm.kindOK at hz
 obtain ⟨q1, hq1⟩ : ∃ q, q = Sm.isName k.name := ⟨_, rfl⟩
 obtain ⟨q2, hq2⟩ : ∃ q, q = Sm.span k.lo k.hi 0 65536 := ⟨_, rfl⟩
 obtain ⟨q3, hq3⟩ : ∃ q, q = (decide ((k.fields.length : Int) ≤ 10) && k.fields.all Sm.fieldOK) := ⟨_, rfl⟩
 rw [← hq1, ← hq2, ← hq3] at hz
 simp only [← hq1] at cI
 simp only [← hq2] at cS
 simp only [← hq3] at cL
 obtain ⟨kn, klo, khi, kf⟩ := k
 dsimp only at cI cS cL ⊢
 obtain ⟨nf, hnf⟩ : ∃ n, n = kf.length := ⟨_, rfl⟩
 rw [← hnf]
 simp only [← hnf] at cL
 have CI := Lib.hid cI
 have CS := Lib.hid cS
 have CL := Lib.hid cL
 have HZ := Lib.hid hz
 have HB := Lib.hid (show Below w.heap.size w (w.alloc (.cells #[.string kn, .int .i64 klo, .int .i64 khi, .slice A nf cf] 63)) from (Below.refl _ _).alloc (Nat.le_refl _) _)
 clear cI cS cL hz hq1 hq2 hq3 hra hr hl hf hD hB hnf
 go_enter Tryz.func84, Tryz.ntmps84
 go_wp2_with fail
 refine (CI.out _).mono ?_
 rintro e w1 ⟨rfl, rfl⟩
 cases q1 with
 | false =>
  obtain rfl : z = false := by rw [HZ.out]; rfl
  go_wp2_with fail
  go_ret
  exact ⟨rfl, HB.out⟩
 | true =>
  go_wp2_with fail
  refine (CS.out _).mono ?_
  rintro e w1 ⟨rfl, rfl⟩
  cases q2 with
  | false =>
   obtain rfl : z = false := by rw [HZ.out]; rfl
   go_wp2_with fail
   go_ret
   exact ⟨rfl, HB.out⟩
  | true =>
   obtain rfl : z = q3 := by rw [HZ.out]; rfl
   go_wp2_with fail
   refine (CL.out _ HB.out).mono ?_
   rintro e w2 ⟨rfl, hb⟩
   have H2 := Lib.hid (HB.out.trans (hb.mono HB.out.size))
   clear hb
   go_wp2_with fail
   go_ret
   exact ⟨rfl, H2.out⟩

set_option maxHeartbeats 4000000 in
theorem gMoveOK_any (m : Int × Int) (n cap : Nat) (As : Option Addr) (lb : Nat) (w : World) (hc : w.cell? ⟨lb, 1, none⟩ = some (.slice As n cap)) (hn : n ≤ 1000000000) :
  Calls Tryz.prog 140 #[.agg #[.int .i64 m.1, .int .i64 m.2], .pointer (some ⟨lb, 0, none⟩)] w fun e w' => e = .returned (.bool (Sm.moveOK n m)) ∧ Below w.heap.size w w' := by
 obtain ⟨m1, m2⟩ := m
 obtain ⟨z, hz⟩ : ∃ z, z = Sm.moveOK n (m1, m2) := ⟨_, rfl⟩
 rw [← hz]
 unfold Sm.moveOK at hz
 have hwr : wrap64 ((n : Int) - 1) = (n : Int) - 1 := by unfold wrap64; omega
 have c1 : ∀ V y, y = (n : Int) - 1 → Calls Tryz.prog 82 #[.int .i64 m1, .int .i64 0, .int .i64 y] V (Ans (.bool (Sm.within m1 0 ((n : Int) - 1))) V) := fun V y hy => by rw [hy]; exact gWithin_any m1 0 _ V
 have c2 : ∀ V y, y = (n : Int) - 1 → Calls Tryz.prog 82 #[.int .i64 m2, .int .i64 0, .int .i64 y] V (Ans (.bool (Sm.within m2 0 ((n : Int) - 1))) V) := fun V y hy => by rw [hy]; exact gWithin_any m2 0 _ V
 obtain ⟨q1, hq1⟩ : ∃ q, q = Sm.within m1 0 ((n : Int) - 1) := ⟨_, rfl⟩
 obtain ⟨q2, hq2⟩ : ∃ q, q = Sm.within m2 0 ((n : Int) - 1) := ⟨_, rfl⟩
 dsimp only at hz ⊢
 rw [← hq1, ← hq2] at hz
 simp only [← hq1] at c1
 simp only [← hq2] at c2
 have C1 := Lib.hid c1
 have C2 := Lib.hid c2
 have HZ := Lib.hid hz
 have HW := Lib.hid hwr
 have hlt : lb < w.heap.size := block_lt_of_cell hc
 have HB := Lib.hid (show Below w.heap.size w (w.alloc (.cells #[.int .i64 m1, .int .i64 m2] 68)) from (Below.refl _ _).alloc (Nat.le_refl _) _)
 clear c1 c2 hz hq1 hq2 hwr hn
 go_enter Tryz.func140, Tryz.ntmps140
 go_wp2_with fail
 refine (C1.out _ _ HW.out).mono ?_
 rintro e w1 ⟨rfl, rfl⟩
 cases q1 with
 | false =>
  obtain rfl : z = false := by rw [HZ.out]; rfl
  go_wp2_with fail
  go_ret
  exact ⟨rfl, HB.out⟩
 | true =>
  obtain rfl : z = q2 := by rw [HZ.out]; rfl
  go_wp2_with fail
  refine (C2.out _ _ HW.out).mono ?_
  rintro e w1 ⟨rfl, rfl⟩
  go_wp2_with fail
  go_ret
  exact ⟨rfl, HB.out⟩
end Go.Proofs.YtkgddcemocfgfaaGreatDoor
end

section
/- The program: what is valid: life cycles, rules, the parts of a schema. -/

namespace Go.Proofs.YtkgddcemocfgfaaGreatDoor
open Go.RowKit
set_option linter.unusedVariables false
set_option linter.unusedSimpArgs false
set_option maxRecDepth 100000

set_option maxHeartbeats 4000000 in
theorem gValidLife_any (x : Sm.Lf) (As Am : Option Addr) (cs cm : Nat) (w : World) (hs : Rd w w.heap.size As (x.states.map sv)) (hm : Rd w w.heap.size Am (Sm.moveC x.moves)) (hls : x.states.length ≤ 1000000000) (hlm : x.moves.length ≤ 1000000000) :
  Calls Tryz.prog 86 #[.agg #[.string x.name, .slice As x.states.length cs, .slice Am x.moves.length cm]] w fun e w' => e = .returned (.bool (Sm.lifeOK x)) ∧ Below w.heap.size w w' := by
 have hra := rowat_sv hs
 have hrm := rowat_mv hm
 have cI := fun V => gIsName_any x.name V
 have cA := fun V (hb : Below w.heap.size w V) => gVlSv_any 134 Sm.isName As cs x.states 12 V (hra.below SvC.stays hb) hls (fun _ _ => rfl) (fun a ha c V' hb' hc => by
  obtain rfl : c = _ := hc
  exact (gIsName_any a V').mono fun e w' h => ⟨h.1, by rw [h.2]; exact Below.refl _ _⟩)
 have hbx := Blk.new w [.string x.name, .slice As x.states.length cs, .slice Am x.moves.length cm] 67
 have hb0 : Below w.heap.size w (w.alloc (.cells #[.string x.name, .slice As x.states.length cs, .slice Am x.moves.length cm] 67)) := (Below.refl _ _).alloc (Nat.le_refl _) _
 obtain ⟨W0, hW0⟩ : ∃ v, v = w.alloc (.cells #[.string x.name, .slice As x.states.length cs, .slice Am x.moves.length cm] 67) := ⟨_, rfl⟩
 have hbx0 : Blk W0 w.heap.size [.string x.name, .slice As x.states.length cs, .slice Am x.moves.length cm] 67 := by rw [hW0]; exact hbx
 have hb00 : Below w.heap.size w W0 := by rw [hW0]; exact hb0
 have cB := fun V (hb : Below W0.heap.size W0 V) => gVlMv_any 140 (.pointer (some ⟨w.heap.size, 0, none⟩)) (Sm.moveOK x.states.length) Am cm x.moves 32 V (hrm.below MvC.stays (hb00.trans (hb.mono hb00.size))) hlm (fun _ _ => rfl) (fun a ha c V' hb' hc => by
  obtain rfl : c = _ := hc
  exact gMoveOK_any a x.states.length cs As w.heap.size V' (((hbx0.below hb hbx0.lt).below hb' (Nat.lt_of_lt_of_le hbx0.lt hb.size)).cell 1 _ rfl) hls)
 obtain ⟨z, hz⟩ : ∃ z, z = Sm.lifeOK x := ⟨_, rfl⟩
 rw [← hz]
 unfold Sm.lifeOK at hz
 obtain ⟨q1, hq1⟩ : ∃ q, q = Sm.isName x.name := ⟨_, rfl⟩
 obtain ⟨q2, hq2⟩ : ∃ q, q = (decide ((x.states.length : Int) ≤ 12) && x.states.all Sm.isName) := ⟨_, rfl⟩
 obtain ⟨q3, hq3⟩ : ∃ q, q = (decide ((x.moves.length : Int) ≤ 32) && x.moves.all (Sm.moveOK x.states.length)) := ⟨_, rfl⟩
 rw [← hq1, ← hq2, ← hq3] at hz
 simp only [← hq1] at cI
 simp only [← hq2] at cA
 simp only [← hq3] at cB
 obtain ⟨xn, xs, xm⟩ := x
 dsimp only at cI cA cB hz hbx0 hb0 hW0 ⊢
 obtain ⟨ns, hns⟩ : ∃ n, n = xs.length := ⟨_, rfl⟩
 obtain ⟨nm, hnm⟩ : ∃ n, n = xm.length := ⟨_, rfl⟩
 rw [← hns] at hz
 rw [← hns, ← hnm] at hbx0 hb0 hW0 ⊢
 simp only [← hns] at cA
 simp only [← hnm] at cB
 have CI := Lib.hid cI
 have CA := Lib.hid cA
 have CB := Lib.hid cB
 have HZ := Lib.hid hz
 have HB := Lib.hid hb0
 have HW0 := Lib.hid (And.intro hW0 hbx0)
 clear cI cA cB hz hq1 hq2 hq3 hra hrm hs hm hls hlm hb0 hb00 hbx hns hnm hW0 hbx0
 go_enter Tryz.func86, Tryz.ntmps86
 go_wp2_with fail
 refine (CI.out _).mono ?_
 rintro e w1 ⟨rfl, rfl⟩
 cases q1 with
 | false =>
  obtain rfl : z = false := by rw [HZ.out]; rfl
  go_wp2_with fail
  go_ret
  exact ⟨rfl, HB.out⟩
 | true =>
  by_cases h0 : 0 < ns
  ·have h0i : (0 : Int) < ns := by omega
   have hz2 : z = (q2 && q3) := by rw [HZ.out, decide_eq_true h0]; rfl
   have HZ2 := Lib.hid hz2
   clear hz2
   go_wp2_with fail
   refine (CA.out _ HB.out).mono ?_
   rintro e w2 ⟨rfl, hb⟩
   have hbe := hb
   rw [← HW0.out.1] at hbe
   have hbx2 := HW0.out.2.below hbe HW0.out.2.lt
   have d2 := hbx2.cell 2 _ rfl
   have H2 := Lib.hid (And.intro (HB.out.trans (hb.mono HB.out.size)) hbe)
   clear hb hbe hbx2
   cases q2 with
   | false =>
    obtain rfl : z = false := by rw [HZ2.out]; rfl
    go_wp2_with fail
    go_ret
    exact ⟨rfl, H2.out.1⟩
   | true =>
    obtain rfl : z = q3 := by rw [HZ2.out]; rfl
    go_wp2_with fail
    refine (CB.out _ H2.out.2).mono ?_
    rintro e w3 ⟨rfl, hb⟩
    have H3 := Lib.hid (H2.out.1.trans (hb.mono H2.out.1.size))
    clear hb d2
    go_wp2_with fail
    go_ret
    exact ⟨rfl, H3.out⟩
  ·obtain rfl : ns = 0 := by omega
   obtain rfl : z = false := by rw [HZ.out, decide_eq_false h0]; rfl
   go_wp2_with fail
   go_ret
   exact ⟨rfl, HB.out⟩

set_option maxHeartbeats 4000000 in
theorem gValidRule_any (r : Sm.Ru) (w : World) :
  Calls Tryz.prog 88 #[.agg #[.string r.name, .string r.kind, .string r.a, .string r.b, .int .i64 r.n]] w fun e w' => e = .returned (.bool (Sm.ruleOK r)) ∧ Below w.heap.size w w' := by
 have c1 := fun V => gIsName_any r.name V
 have c2 := fun V => gIsName_any r.kind V
 have c3 := fun V => gUse_any r.a 2 (by decide) V
 have c4 := fun V => gUse_any r.b 2 (by decide) V
 have c5 := fun V => gWithin_any r.n (-1048576) 1048576 V
 obtain ⟨z, hz⟩ : ∃ z, z = Sm.ruleOK r := ⟨_, rfl⟩
 rw [← hz]
 unfold Sm.ruleOK at hz
 obtain ⟨rn, rk, ra, rb, rr⟩ := r
 dsimp only at c1 c2 c3 c4 c5 hz ⊢
 obtain ⟨q1, hq1⟩ : ∃ q, q = Sm.isName rn := ⟨_, rfl⟩
 obtain ⟨q2, hq2⟩ : ∃ q, q = Sm.isName rk := ⟨_, rfl⟩
 obtain ⟨q3, hq3⟩ : ∃ q, q = Sm.useOK ra 2 := ⟨_, rfl⟩
 obtain ⟨q4, hq4⟩ : ∃ q, q = Sm.useOK rb 2 := ⟨_, rfl⟩
 obtain ⟨q5, hq5⟩ : ∃ q, q = Sm.within rr (-1048576) 1048576 := ⟨_, rfl⟩
 rw [← hq1, ← hq2, ← hq3, ← hq4, ← hq5] at hz
 simp only [← hq1] at c1
 simp only [← hq2] at c2
 simp only [← hq3] at c3
 simp only [← hq4] at c4
 simp only [← hq5] at c5
 have C1 := Lib.hid c1
 have C2 := Lib.hid c2
 have C3 := Lib.hid c3
 have C4 := Lib.hid c4
 have C5 := Lib.hid c5
 have HZ := Lib.hid hz
 have HB := Lib.hid (show Below w.heap.size w (w.alloc (.cells #[.string rn, .string rk, .string ra, .string rb, .int .i64 rr] 70)) from (Below.refl _ _).alloc (Nat.le_refl _) _)
 clear c1 c2 c3 c4 c5 hz hq1 hq2 hq3 hq4 hq5
 go_enter Tryz.func88, Tryz.ntmps88
 go_wp2_with fail
 refine (C1.out _).mono ?_
 rintro e w1 ⟨rfl, rfl⟩
 cases q1 with
 | false =>
  obtain rfl : z = false := by rw [HZ.out]; rfl
  go_wp2_with fail
  go_ret
  exact ⟨rfl, HB.out⟩
 | true =>
  go_wp2_with fail
  refine (C2.out _).mono ?_
  rintro e w1 ⟨rfl, rfl⟩
  cases q2 with
  | false =>
   obtain rfl : z = false := by rw [HZ.out]; rfl
   go_wp2_with fail
   go_ret
   exact ⟨rfl, HB.out⟩
  | true =>
   go_wp2_with fail
   refine (C3.out _).mono ?_
   rintro e w1 ⟨rfl, rfl⟩
   cases q3 with
   | false =>
    obtain rfl : z = false := by rw [HZ.out]; rfl
    go_wp2_with fail
    go_ret
    exact ⟨rfl, HB.out⟩
   | true =>
    go_wp2_with fail
    refine (C4.out _).mono ?_
    rintro e w1 ⟨rfl, rfl⟩
    cases q4 with
    | false =>
     obtain rfl : z = false := by rw [HZ.out]; rfl
     go_wp2_with fail
     go_ret
     exact ⟨rfl, HB.out⟩
    | true =>
     by_cases ha : ra.size = 0
     ·by_cases hb : rb.size = 0
      ·obtain rfl : z = false := by rw [HZ.out, decide_eq_true ha, decide_eq_true hb]; rfl
       obtain rfl := nil_of_size ha
       obtain rfl := nil_of_size hb
       go_wp2_with fail
       go_ret
       exact ⟨rfl, HB.out⟩
      ·obtain rfl : z = q5 := by rw [HZ.out, decide_eq_true ha, decide_eq_false hb]; rfl
       have hne : ¬ rb.toList = [] := fun x => hb ((empty_list rb).1 x)
       have hne2 : (rb.toList == []) = false := by simpa using hne
       have hne3 : (!rb.toList.isEmpty) = true := by simpa using hne
       obtain rfl := nil_of_size ha
       clear ha hb
       go_wp2_with fail
       refine (C5.out _).mono ?_
       rintro e w1 ⟨rfl, rfl⟩
       go_wp2_with fail
       go_ret
       exact ⟨rfl, HB.out⟩
     ·obtain rfl : z = q5 := by rw [HZ.out, decide_eq_false ha]; rfl
      have hne : ¬ ra.toList = [] := fun x => ha ((empty_list ra).1 x)
      have hne2 : (ra.toList == []) = false := by simpa using hne
      have hne3 : (!ra.toList.isEmpty) = true := by simpa using hne
      clear ha
      go_wp2_with fail
      refine (C5.out _).mono ?_
      rintro e w1 ⟨rfl, rfl⟩
      go_wp2_with fail
      go_ret
      exact ⟨rfl, HB.out⟩
end Go.Proofs.YtkgddcemocfgfaaGreatDoor
end

section
/- The program: what is valid: the parts of a schema. -/

namespace Go.Proofs.YtkgddcemocfgfaaGreatDoor
open Go.RowKit
set_option linter.unusedVariables false
set_option linter.unusedSimpArgs false
set_option maxRecDepth 100000

namespace Sm
def partsOK (x : Sc) : Bool := within x.version 0 1048576 && ((decide ((x.kinds.length : Int) ≤ 6) && x.kinds.all kindOK) && ((decide ((x.lives.length : Int) ≤ 6) && x.lives.all lifeOK) && (decide ((x.rules.length : Int) ≤ 16) && x.rules.all ruleOK)))
end Sm
set_option maxHeartbeats 8000000 in
theorem gParts_any (x : Sm.Sc) (Ak : Option Addr) (ck : Nat) (Al : Option Addr) (cl : Nat) (Ar : Option Addr) (cr : Nat) (w : World) (hD : SDoor w) (hB : doorB ≤ w.heap.size) (hK : Rows KdC w w.heap.size Ak x.kinds) (hL : Rows LfC w w.heap.size Al x.lives) (hR : Rows RuC w w.heap.size Ar x.rules) (hF : Sm.FewS x)
  (hk9 : x.kinds.length ≤ 1000000000) (hl9 : x.lives.length ≤ 1000000000) (hr9 : x.rules.length ≤ 1000000000) :
  Calls Tryz.prog 38 #[.agg #[.int .i64 x.version, .slice Ak x.kinds.length ck, .slice Al x.lives.length cl, .slice Ar x.rules.length cr]] w fun e w' => e = .returned (.bool (Sm.partsOK x)) ∧ Below w.heap.size w w' := by
 have rK := rowat_rows hK (sz := 4) (by decide) fun _ _ h => h.size
 have rL := rowat_rows hL (sz := 3) (by decide) fun _ _ h => h.size
 have rR := rowat_rows hR (sz := 5) (by decide) fun _ _ h => h.size
 have c0 := fun V => gWithin_any x.version 0 1048576 V
 have c1 := fun V (hb : Below w.heap.size w V) => gVlKd_any 84 Sm.kindOK Ak ck x.kinds 6 V (rK.below KdC.stays hb) hk9 (fun _ _ => rfl) (fun a ha c V' hb' hc => by
  have hb2 : Below w.heap.size w V' := hb.trans (hb'.mono hb.size)
  obtain ⟨A, cf, rfl, hrf, -⟩ := hc
  exact gValidKind_any a A cf V' (hD.below hb2 hB) (Nat.le_trans hB hb2.size) hrf (hF.kinds a ha).1 fun f hf => (hF.kinds a ha).2 f hf)
 have c2 := fun V (hb : Below w.heap.size w V) => gVlLf_any 86 Sm.lifeOK Al cl x.lives 6 V (rL.below LfC.stays hb) hl9 (fun _ _ => rfl) (fun a ha c V' hb' hc => by
  obtain ⟨As, cs, Am, cm, rfl, h1, h2, -⟩ := hc
  exact gValidLife_any a As Am cs cm V' h1 h2 (hF.lives a ha).1 (hF.lives a ha).2)
 have c3 := fun V (hb : Below w.heap.size w V) => gVlRu_any 88 Sm.ruleOK Ar cr x.rules 16 V (rR.below RuC.stays hb) hr9 (fun _ _ => rfl) (fun a ha c V' hb' hc => by
  obtain rfl : c = _ := hc
  exact gValidRule_any a V')
 obtain ⟨z, hz⟩ : ∃ z, z = Sm.partsOK x := ⟨_, rfl⟩
 rw [← hz]
 unfold Sm.partsOK at hz
 obtain ⟨q0, hq0⟩ : ∃ q, q = Sm.within x.version 0 1048576 := ⟨_, rfl⟩
 obtain ⟨q1, hq1⟩ : ∃ q, q = (decide ((x.kinds.length : Int) ≤ 6) && x.kinds.all Sm.kindOK) := ⟨_, rfl⟩
 obtain ⟨q2, hq2⟩ : ∃ q, q = (decide ((x.lives.length : Int) ≤ 6) && x.lives.all Sm.lifeOK) := ⟨_, rfl⟩
 obtain ⟨q3, hq3⟩ : ∃ q, q = (decide ((x.rules.length : Int) ≤ 16) && x.rules.all Sm.ruleOK) := ⟨_, rfl⟩
 rw [← hq0, ← hq1, ← hq2, ← hq3] at hz
 simp only [← hq0] at c0
 simp only [← hq1] at c1
 simp only [← hq2] at c2
 simp only [← hq3] at c3
 obtain ⟨ver, xk, xl, xr⟩ := x
 dsimp only at c0 c1 c2 c3 ⊢
 obtain ⟨nk, hnk⟩ : ∃ n, n = xk.length := ⟨_, rfl⟩
 obtain ⟨nl, hnl⟩ : ∃ n, n = xl.length := ⟨_, rfl⟩
 obtain ⟨nr, hnr⟩ : ∃ n, n = xr.length := ⟨_, rfl⟩
 rw [← hnk, ← hnl, ← hnr]
 simp only [← hnk] at c1
 simp only [← hnl] at c2
 simp only [← hnr] at c3
 have C0 := Lib.hid c0
 have C1 := Lib.hid c1
 have C2 := Lib.hid c2
 have C3 := Lib.hid c3
 have HZ := Lib.hid hz
 have HB := Lib.hid (show Below w.heap.size w (w.alloc (.cells #[.int .i64 ver, .slice Ak nk ck, .slice Al nl cl, .slice Ar nr cr] 27)) from (Below.refl _ _).alloc (Nat.le_refl _) _)
 have HBX := Lib.hid (Blk.new w [.int .i64 ver, .slice Ak nk ck, .slice Al nl cl, .slice Ar nr cr] 27)
 clear c0 c1 c2 c3 hz hq0 hq1 hq2 hq3 hnk hnl hnr rK rL rR hK hL hR hF hk9 hl9 hr9 hD hB
 go_enter Tryz.func38, Tryz.ntmps38
 go_wp2_with fail
 refine (C0.out _).mono ?_
 rintro e w1 ⟨rfl, rfl⟩
 cases q0 with
 | false =>
  obtain rfl : z = false := by rw [HZ.out]; rfl
  go_wp2_with fail
  go_ret
  exact ⟨rfl, HB.out⟩
 | true =>
  go_wp2_with fail
  refine (C1.out _ HB.out).mono ?_
  rintro e w2 ⟨rfl, hb⟩
  have hbx := HBX.out.below hb HBX.out.lt
  have d2 := hbx.cell 2 _ rfl
  have H2 := Lib.hid (And.intro (HB.out.trans (hb.mono HB.out.size)) hbx)
  clear hb hbx
  cases q1 with
  | false =>
   obtain rfl : z = false := by rw [HZ.out]; rfl
   go_wp2_with fail
   go_ret
   exact ⟨rfl, H2.out.1⟩
  | true =>
   go_wp2_with fail
   refine (C2.out _ H2.out.1).mono ?_
   rintro e w3 ⟨rfl, hb⟩
   have hbx := H2.out.2.below hb H2.out.2.lt
   have d3 := hbx.cell 3 _ rfl
   have H3 := Lib.hid (H2.out.1.trans (hb.mono H2.out.1.size))
   clear hb hbx d2
   cases q2 with
   | false =>
    obtain rfl : z = false := by rw [HZ.out]; rfl
    go_wp2_with fail
    go_ret
    exact ⟨rfl, H3.out⟩
   | true =>
    obtain rfl : z = q3 := by rw [HZ.out]; rfl
    go_wp2_with fail
    refine (C3.out _ H3.out).mono ?_
    rintro e w4 ⟨rfl, hb⟩
    have H4 := Lib.hid (H3.out.trans (hb.mono H3.out.size))
    clear hb d3
    go_wp2_with fail
    go_ret
    exact ⟨rfl, H4.out⟩
end Go.Proofs.YtkgddcemocfgfaaGreatDoor
end

section
/- The program: what it calls valid is what the document calls so. Plain mathematics. -/

namespace Go.Proofs.YtkgddcemocfgfaaGreatDoor
open Go.RowKit
set_option linter.unusedVariables false
set_option linter.unusedSimpArgs false

namespace Sm
theorem name_ne {s : ByteArray} (h : isName s = true) : ¬ s.size = 0 := by
 unfold isName named at h
 rw [Bool.and_eq_true, decide_eq_true_eq, sb_len] at h
 omega
theorem sum_pos : ∀ (l : List Int), (∀ x ∈ l, 0 ≤ x) → ∀ a : Int, 0 ≤ a → (0 < l.foldl (· + ·) a ↔ 0 < a ∨ ∃ x ∈ l, 0 < x) := by
 intro l
 induction l with
 | nil => intro _ a _; simp
 | cons x t ih =>
  intro h a ha
  have hx := h x (by simp)
  rw [List.foldl_cons, ih (fun y hy => h y (by simp [hy])) (a + x) (by omega)]
  constructor
  ·rintro (h1 | ⟨y, hy, h2⟩)
   ·by_cases hxp : 0 < x
    ·exact .inr ⟨x, by simp, hxp⟩
    ·exact .inl (by omega)
   ·exact .inr ⟨y, by simp [hy], h2⟩
  ·rintro (h1 | ⟨y, hy, h2⟩)
   ·exact .inl (by omega)
   ·rcases List.mem_cons.1 hy with rfl | hy
    ·exact .inl (by omega)
    ·exact .inr ⟨y, hy, h2⟩
theorem pick_ok (f : Fd) : isPick f = (decide (0 < f.words.length) && (decide (f.words.length = f.weights.length) && ((decide ((f.words.length : Int) ≤ 12) && f.words.all isName) && ((decide ((f.weights.length : Int) ≤ 12) && f.weights.all fun n => within n 0 1048576) && f.weights.any pos)))) := by
 rw [Bool.eq_iff_iff]
 unfold isPick names
 simp only [Bool.and_eq_true, decide_eq_true_eq]
 constructor
 ·rintro ⟨h1, h2, h3, h4, h5⟩
  have hw : 1 ≤ (f.words.length : Int) ∧ (f.words.length : Int) ≤ 12 := of_decide_eq_true h2
  refine ⟨by omega, h3, ⟨by omega, h5⟩, ⟨by omega, h1⟩, ?_⟩
  have hn : ∀ x ∈ f.weights, 0 ≤ x := fun x hx => (of_decide_eq_true (List.all_eq_true.1 h1 x hx) : 0 ≤ x ∧ x ≤ 1048576).1
  rcases (sum_pos f.weights hn 0 (Int.le_refl 0)).1 h4 with h | ⟨x, hx, hp⟩
  ·omega
  ·exact List.any_eq_true.2 ⟨x, hx, decide_eq_true hp⟩
 ·rintro ⟨h1, h2, ⟨h3, h4⟩, ⟨h5, h6⟩, h7⟩
  have hn : ∀ x ∈ f.weights, 0 ≤ x := fun x hx => (of_decide_eq_true (List.all_eq_true.1 h6 x hx) : 0 ≤ x ∧ x ≤ 1048576).1
  obtain ⟨x, hx, hp⟩ := List.any_eq_true.1 h7
  exact ⟨h6, decide_eq_true ⟨by omega, h3⟩, h2, (sum_pos f.weights hn 0 (Int.le_refl 0)).2 (.inr ⟨x, hx, of_decide_eq_true hp⟩), h4⟩
theorem words_no (f : Fd) (x : Shp) (h : x.words = false) : wordsOK f x = decide (f.words.length = 0 ∧ f.weights.length = 0) := by unfold wordsOK; rw [if_pos h]
theorem field_at (k : Nat) (x : Shp) (hx : shpL[k]? = some x) (f : Fd) (hk : f.kind = (k : Int)) : fieldOK f = isField f := by
 have hg : shpL.getD f.kind.toNat shpZ = x := by
  rw [hk, show ((k : Int)).toNat = k by omega, List.getD_eq_getElem?_getD, hx]
  rfl
 unfold fieldOK isField
 rw [hg]
 obtain ⟨fn, fo, fu, fk, flo, fhi, fws, fgs⟩ := f
 dsimp only at hk ⊢
 subst hk
 match k, hx with
 | 0, hx =>
  obtain rfl := Option.some.inj hx
  clear hg hx
  rw [words_no _ _ rfl]
  simp only [plainField, leads, fits, useOK, numsOK]
  simp only [show usesOf ((0 : Nat) : Int) = false from rfl, show usesUp ((0 : Nat) : Int) = false from rfl, show usesLo ((0 : Nat) : Int) = true from rfl, show usesHi ((0 : Nat) : Int) = false from rfl, show usesWords ((0 : Nat) : Int) = false from rfl, show within ((0 : Nat) : Int) 0 8 = true from rfl]
  generalize isName fn = a
  generalize isName fu = b
  generalize isName fo = c
  generalize hd : decide (fu.size = 0) = d
  generalize he : decide (fo.size = 0) = e
  generalize decide (fws.length = 0 ∧ fgs.length = 0) = g
  generalize within flo (-1048576) 1048576 = w1
  generalize span flo fhi 0 65536 = s1
  generalize span flo fhi (-1048576) 1048576 = s2
  generalize span flo fhi 0 32 = s3
  generalize span flo fhi 0 1048576 = s4
  simp [he, hd]
  try generalize decide (flo = 0) = l0
  try generalize decide (fhi = 0) = h0
  try (revert a b c d e g w1 s1 s2 s3 s4; decide)
  try (cases a <;> cases b <;> cases c <;> cases d <;> cases e <;> cases g <;> simp_all [Bool.and_comm])
 | 1, hx =>
  obtain rfl := Option.some.inj hx
  clear hg hx
  rw [words_no _ _ rfl]
  simp only [plainField, leads, fits, useOK, numsOK]
  simp only [show usesOf ((1 : Nat) : Int) = true from rfl, show usesUp ((1 : Nat) : Int) = false from rfl, show usesLo ((1 : Nat) : Int) = true from rfl, show usesHi ((1 : Nat) : Int) = true from rfl, show usesWords ((1 : Nat) : Int) = false from rfl, show within ((1 : Nat) : Int) 0 8 = true from rfl]
  generalize isName fn = a
  generalize isName fu = b
  generalize isName fo = c
  generalize hd : decide (fu.size = 0) = d
  generalize he : decide (fo.size = 0) = e
  generalize decide (fws.length = 0 ∧ fgs.length = 0) = g
  generalize within flo (-1048576) 1048576 = w1
  generalize span flo fhi 0 65536 = s1
  generalize span flo fhi (-1048576) 1048576 = s2
  generalize span flo fhi 0 32 = s3
  generalize span flo fhi 0 1048576 = s4
  simp [he, hd]
  try generalize decide (flo = 0) = l0
  try generalize decide (fhi = 0) = h0
  try (revert a b c d e g w1 s1 s2 s3 s4; decide)
  try (cases a <;> cases b <;> cases c <;> cases d <;> cases e <;> cases g <;> simp_all [Bool.and_comm])
 | 2, hx =>
  obtain rfl := Option.some.inj hx
  clear hg hx
  rw [words_no _ _ rfl]
  simp only [plainField, leads, fits, useOK, numsOK]
  simp only [show usesOf ((2 : Nat) : Int) = false from rfl, show usesUp ((2 : Nat) : Int) = false from rfl, show usesLo ((2 : Nat) : Int) = true from rfl, show usesHi ((2 : Nat) : Int) = true from rfl, show usesWords ((2 : Nat) : Int) = false from rfl, show within ((2 : Nat) : Int) 0 8 = true from rfl]
  generalize isName fn = a
  generalize isName fu = b
  generalize isName fo = c
  generalize hd : decide (fu.size = 0) = d
  generalize he : decide (fo.size = 0) = e
  generalize decide (fws.length = 0 ∧ fgs.length = 0) = g
  generalize within flo (-1048576) 1048576 = w1
  generalize span flo fhi 0 65536 = s1
  generalize span flo fhi (-1048576) 1048576 = s2
  generalize span flo fhi 0 32 = s3
  generalize span flo fhi 0 1048576 = s4
  simp [he, hd]
  try generalize decide (flo = 0) = l0
  try generalize decide (fhi = 0) = h0
  try (revert a b c d e g w1 s1 s2 s3 s4; decide)
  try (cases a <;> cases b <;> cases c <;> cases d <;> cases e <;> cases g <;> simp_all [Bool.and_comm])
 | 3, hx =>
  obtain rfl := Option.some.inj hx
  clear hg hx
  have hp : wordsOK (⟨fn, fo, fu, ((3 : Nat) : Int), flo, fhi, fws, fgs⟩ : Fd) ⟨⟨#[112, 105, 99, 107]⟩, 0, 0, 0, 0, 0, true⟩ = isPick ⟨fn, fo, fu, ((3 : Nat) : Int), flo, fhi, fws, fgs⟩ := by
   rw [pick_ok]
   unfold wordsOK
   rw [if_neg (by decide)]
  rw [hp]
  obtain ⟨pk, hpk⟩ : ∃ b, b = isPick ⟨fn, fo, fu, ((3 : Nat) : Int), flo, fhi, fws, fgs⟩ := ⟨_, rfl⟩
  have hfit : fits ⟨fn, fo, fu, ((3 : Nat) : Int), flo, fhi, fws, fgs⟩ = pk := by rw [hpk]; rfl
  rw [hfit, ← hpk]
  clear hp hpk hfit
  simp only [plainField, leads, useOK, numsOK]
  simp only [show usesOf ((3 : Nat) : Int) = false from rfl, show usesUp ((3 : Nat) : Int) = false from rfl, show usesLo ((3 : Nat) : Int) = false from rfl, show usesHi ((3 : Nat) : Int) = false from rfl, show usesWords ((3 : Nat) : Int) = true from rfl, show within ((3 : Nat) : Int) 0 8 = true from rfl]
  generalize isName fn = a
  generalize isName fu = b
  generalize isName fo = c
  generalize hd : decide (fu.size = 0) = d
  generalize he : decide (fo.size = 0) = e
  generalize decide (fws.length = 0 ∧ fgs.length = 0) = g
  generalize within flo (-1048576) 1048576 = w1
  generalize span flo fhi 0 65536 = s1
  generalize span flo fhi (-1048576) 1048576 = s2
  generalize span flo fhi 0 32 = s3
  generalize span flo fhi 0 1048576 = s4
  simp [he, hd]
  try generalize decide (flo = 0) = l0
  try generalize decide (fhi = 0) = h0
  try (revert a b c d e g w1 s1 s2 s3 s4; decide)
  try (cases a <;> cases b <;> cases c <;> cases d <;> cases e <;> cases g <;> simp_all [Bool.and_comm])
 | 4, hx =>
  obtain rfl := Option.some.inj hx
  clear hg hx
  rw [words_no _ _ rfl]
  simp only [plainField, leads, fits, useOK, numsOK]
  simp only [show usesOf ((4 : Nat) : Int) = true from rfl, show usesUp ((4 : Nat) : Int) = false from rfl, show usesLo ((4 : Nat) : Int) = true from rfl, show usesHi ((4 : Nat) : Int) = true from rfl, show usesWords ((4 : Nat) : Int) = false from rfl, show within ((4 : Nat) : Int) 0 8 = true from rfl]
  generalize isName fn = a
  generalize isName fu = b
  generalize isName fo = c
  generalize hd : decide (fu.size = 0) = d
  generalize he : decide (fo.size = 0) = e
  generalize decide (fws.length = 0 ∧ fgs.length = 0) = g
  generalize within flo (-1048576) 1048576 = w1
  generalize span flo fhi 0 65536 = s1
  generalize span flo fhi (-1048576) 1048576 = s2
  generalize span flo fhi 0 32 = s3
  generalize span flo fhi 0 1048576 = s4
  simp [he, hd]
  try generalize decide (flo = 0) = l0
  try generalize decide (fhi = 0) = h0
  try (revert a b c d e g w1 s1 s2 s3 s4; decide)
  try (cases a <;> cases b <;> cases c <;> cases d <;> cases e <;> cases g <;> simp_all [Bool.and_comm])
 | 5, hx =>
  obtain rfl := Option.some.inj hx
  clear hg hx
  rw [words_no _ _ rfl]
  simp only [plainField, leads, fits, useOK, numsOK]
  simp only [show usesOf ((5 : Nat) : Int) = true from rfl, show usesUp ((5 : Nat) : Int) = false from rfl, show usesLo ((5 : Nat) : Int) = true from rfl, show usesHi ((5 : Nat) : Int) = true from rfl, show usesWords ((5 : Nat) : Int) = false from rfl, show within ((5 : Nat) : Int) 0 8 = true from rfl]
  generalize isName fn = a
  generalize isName fu = b
  generalize isName fo = c
  generalize hd : decide (fu.size = 0) = d
  generalize he : decide (fo.size = 0) = e
  generalize decide (fws.length = 0 ∧ fgs.length = 0) = g
  generalize within flo (-1048576) 1048576 = w1
  generalize span flo fhi 0 65536 = s1
  generalize span flo fhi (-1048576) 1048576 = s2
  generalize span flo fhi 0 32 = s3
  generalize span flo fhi 0 1048576 = s4
  simp [he, hd]
  try generalize decide (flo = 0) = l0
  try generalize decide (fhi = 0) = h0
  try (revert a b c d e g w1 s1 s2 s3 s4; decide)
  try (cases a <;> cases b <;> cases c <;> cases d <;> cases e <;> cases g <;> simp_all [Bool.and_comm])
 | 6, hx =>
  obtain rfl := Option.some.inj hx
  clear hg hx
  rw [words_no _ _ rfl]
  simp only [plainField, leads, fits, useOK, numsOK]
  simp only [show usesOf ((6 : Nat) : Int) = true from rfl, show usesUp ((6 : Nat) : Int) = false from rfl, show usesLo ((6 : Nat) : Int) = false from rfl, show usesHi ((6 : Nat) : Int) = false from rfl, show usesWords ((6 : Nat) : Int) = false from rfl, show within ((6 : Nat) : Int) 0 8 = true from rfl]
  generalize isName fn = a
  generalize isName fu = b
  generalize isName fo = c
  generalize hd : decide (fu.size = 0) = d
  generalize he : decide (fo.size = 0) = e
  generalize decide (fws.length = 0 ∧ fgs.length = 0) = g
  generalize within flo (-1048576) 1048576 = w1
  generalize span flo fhi 0 65536 = s1
  generalize span flo fhi (-1048576) 1048576 = s2
  generalize span flo fhi 0 32 = s3
  generalize span flo fhi 0 1048576 = s4
  simp [he, hd]
  try generalize decide (flo = 0) = l0
  try generalize decide (fhi = 0) = h0
  try (revert a b c d e g w1 s1 s2 s3 s4; decide)
  try (cases a <;> cases b <;> cases c <;> cases d <;> cases e <;> cases g <;> simp_all [Bool.and_comm])
 | 7, hx =>
  obtain rfl := Option.some.inj hx
  clear hg hx
  rw [words_no _ _ rfl]
  simp only [plainField, leads, fits, useOK, numsOK]
  simp only [show usesOf ((7 : Nat) : Int) = true from rfl, show usesUp ((7 : Nat) : Int) = true from rfl, show usesLo ((7 : Nat) : Int) = true from rfl, show usesHi ((7 : Nat) : Int) = true from rfl, show usesWords ((7 : Nat) : Int) = false from rfl, show within ((7 : Nat) : Int) 0 8 = true from rfl]
  generalize isName fn = a
  generalize isName fu = b
  generalize isName fo = c
  generalize hd : decide (fu.size = 0) = d
  generalize he : decide (fo.size = 0) = e
  generalize decide (fws.length = 0 ∧ fgs.length = 0) = g
  generalize within flo (-1048576) 1048576 = w1
  generalize span flo fhi 0 65536 = s1
  generalize span flo fhi (-1048576) 1048576 = s2
  generalize span flo fhi 0 32 = s3
  generalize span flo fhi 0 1048576 = s4
  simp [he, hd]
  try generalize decide (flo = 0) = l0
  try generalize decide (fhi = 0) = h0
  try (revert a b c d e g w1 s1 s2 s3 s4; decide)
  try (cases a <;> cases b <;> cases c <;> cases d <;> cases e <;> cases g <;> simp_all [Bool.and_comm])
 | 8, hx =>
  obtain rfl := Option.some.inj hx
  clear hg hx
  rw [words_no _ _ rfl]
  simp only [plainField, leads, fits, useOK, numsOK]
  simp only [show usesOf ((8 : Nat) : Int) = true from rfl, show usesUp ((8 : Nat) : Int) = true from rfl, show usesLo ((8 : Nat) : Int) = false from rfl, show usesHi ((8 : Nat) : Int) = false from rfl, show usesWords ((8 : Nat) : Int) = false from rfl, show within ((8 : Nat) : Int) 0 8 = true from rfl]
  generalize isName fn = a
  generalize isName fu = b
  generalize isName fo = c
  generalize hd : decide (fu.size = 0) = d
  generalize he : decide (fo.size = 0) = e
  generalize decide (fws.length = 0 ∧ fgs.length = 0) = g
  generalize within flo (-1048576) 1048576 = w1
  generalize span flo fhi 0 65536 = s1
  generalize span flo fhi (-1048576) 1048576 = s2
  generalize span flo fhi 0 32 = s3
  generalize span flo fhi 0 1048576 = s4
  simp [he, hd]
  try generalize decide (flo = 0) = l0
  try generalize decide (fhi = 0) = h0
  try (revert a b c d e g w1 s1 s2 s3 s4; decide)
  try (cases a <;> cases b <;> cases c <;> cases d <;> cases e <;> cases g <;> simp_all [Bool.and_comm])
 | k + 9, hx => simp [shpL] at hx
theorem field_ok (f : Fd) : fieldOK f = isField f := by
 by_cases h : 0 ≤ f.kind ∧ f.kind ≤ 8
 ·obtain ⟨k, hk⟩ : ∃ k : Nat, f.kind = (k : Int) := Int.eq_ofNat_of_zero_le h.1
  obtain ⟨x, hx⟩ : ∃ x, shpL[k]? = some x := ⟨_, List.getElem?_eq_getElem (by show k < 9; omega)⟩
  exact field_at k x hx f hk
 ·unfold fieldOK isField plainField
  rw [show within f.kind 0 8 = false from decide_eq_false h, decide_eq_false (show ¬ (0 ≤ f.kind ∧ f.kind < 9) by omega)]
  simp
theorem kind_ok (k : Kd) : kindOK k = isKind k := by
 have e : (k.fields.all fieldOK) = k.fields.all isField := by congr 1; funext f; exact field_ok f
 unfold kindOK isKind
 rw [e]
 congr 3
 rw [Bool.eq_iff_iff]
 simp only [decide_eq_true_eq]
 omega
theorem life_ok (x : Lf) : lifeOK x = isLife x := by
 unfold lifeOK isLife names
 rw [Bool.eq_iff_iff]
 simp only [Bool.and_eq_true, decide_eq_true_eq]
 constructor
 ·rintro ⟨h1, h2, ⟨h3, h4⟩, h5, h6⟩
  exact ⟨h1, decide_eq_true ⟨by omega, h3⟩, h4, by omega, h6⟩
 ·rintro ⟨h1, h2, h3, h4, h5⟩
  have hw : 1 ≤ (x.states.length : Int) ∧ (x.states.length : Int) ≤ 12 := of_decide_eq_true h2
  exact ⟨h1, by omega, ⟨hw.2, h3⟩, by omega, h5⟩
theorem use2 (s : ByteArray) : useOK s 2 = (decide (s.size = 0) || isName s) := by
 unfold useOK
 cases isName s <;> cases decide (s.size = 0) <;> rfl
theorem rule_ok (r : Ru) : ruleOK r = isRule r := by
 unfold ruleOK isRule
 rw [use2, use2, Bool.decide_and]
 cases isName r.name <;> cases isName r.kind <;> cases isName r.a <;> cases isName r.b <;> cases decide (r.a.size = 0) <;> cases decide (r.b.size = 0) <;> cases within r.n (-1048576) 1048576 <;> rfl
theorem parts_ok (x : Sc) : partsOK x = shaped x := by
 have e1 : (x.kinds.all kindOK) = x.kinds.all isKind := by congr 1; funext f; exact kind_ok f
 have e2 : (x.lives.all lifeOK) = x.lives.all isLife := by congr 1; funext f; exact life_ok f
 have e3 : (x.rules.all ruleOK) = x.rules.all isRule := by congr 1; funext f; exact rule_ok f
 unfold partsOK shaped
 rw [e1, e2, e3, Bool.eq_iff_iff]
 simp only [Bool.and_eq_true, decide_eq_true_eq]
 constructor
 ·rintro ⟨h1, ⟨h2, h3⟩, ⟨h4, h5⟩, h6, h7⟩
  exact ⟨h1, ⟨by omega, by omega, by omega⟩, h3, h5, h7⟩
 ·rintro ⟨h1, ⟨h2, h4, h6⟩, h3, h5, h7⟩
  exact ⟨h1, ⟨by omega, h3⟩, ⟨by omega, h5⟩, by omega, h7⟩
end Sm
end Go.Proofs.YtkgddcemocfgfaaGreatDoor
end

