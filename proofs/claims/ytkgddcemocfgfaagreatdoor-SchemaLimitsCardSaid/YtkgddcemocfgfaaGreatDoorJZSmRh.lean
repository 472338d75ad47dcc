import Derived.Deep.QuietTactic
import Derived.BigQuiet
import Derived.Test.YtkgddcemocfgfaaGreatDoorJZBase
import Derived.Test.YtkgddcemocfgfaaGreatDoorJZSmRd

section
/- The reference of schemas: isKind, isLife, isRule. -/

namespace Go.Proofs.YtkgddcemocfgfaaGreatDoor
open Go.RowKit
set_option linter.unusedVariables false
set_option maxRecDepth 100000

/-- Rows are not too long. -/
def fewF (f : Sm.Fd) : Prop := f.words.length ≤ 1000000000 ∧ f.weights.length ≤ 1000000000

set_option maxHeartbeats 4000000 in
theorem smIsKind_any (k : Sm.Kd) (A : Option Addr) (cf : Nat) (w : World) (hr : Rows FdC w w.heap.size A k.fields) (hl : ∀ f ∈ k.fields, fewF f) (hn : k.fields.length ≤ 1000000000) :
  Calls Tryz.prog 41 #[.agg #[.string k.name, .int .i64 k.lo, .int .i64 k.hi, .slice A k.fields.length cf]] w fun e w' => e = .returned (.bool (Sm.isKind k)) ∧ Below w.heap.size w w' := by
 obtain ⟨name, lo, hi, fields⟩ := k
 dsimp only at hr hl hn ⊢
 obtain ⟨z, hz⟩ : ∃ z, z = Sm.isKind ⟨name, lo, hi, fields⟩ := ⟨_, rfl⟩
 rw [← hz]
 have hz2 : z = (Sm.isName name && (Sm.span lo hi 0 65536 && (decide (fields.length ≤ 10) && fields.all Sm.isField))) := hz
 have cI := fun W => smIsName_any name W
 have cS := fun W => smSpan_any lo hi 0 65536 W
 obtain ⟨p, hp⟩ : ∃ p, p = Sm.isName name := ⟨_, rfl⟩
 obtain ⟨q, hq⟩ : ∃ q, q = Sm.span lo hi 0 65536 := ⟨_, rfl⟩
 obtain ⟨N, hN⟩ : ∃ N, N = fields.length := ⟨_, rfl⟩
 rw [← hp, ← hq, ← hN] at hz2
 simp only [← hp] at cI
 simp only [← hq] at cS
 rw [← hN] at hn ⊢
 have HZ := Lib.hid (And.intro hz2 (And.intro hN hl))
 have HR := Lib.hid hr
 have CI := Lib.hid cI
 have CS := Lib.hid cS
 clear hz hz2 cI cS hp hq hN hr hl
 go_enter Tryz.func41, Tryz.ntmps41
 go_wp2_with fail
 refine (CI.out _).mono ?_
 rintro e w1 ⟨rfl, rfl⟩
 clear CI
 cases p with
 | false =>
  obtain rfl : z = false := by rw [HZ.out.1]; rfl
  go_wp2_with fail
  go_ret
  exact ⟨rfl, (Below.refl _ _).alloc (Nat.le_refl _) _⟩
 | true =>
  go_wp2_with fail
  refine (CS.out _).mono ?_
  rintro e w1 ⟨rfl, rfl⟩
  clear CS
  cases q with
  | false =>
   obtain rfl : z = false := by rw [HZ.out.1]; rfl
   go_wp2_with fail
   go_ret
   exact ⟨rfl, (Below.refl _ _).alloc (Nat.le_refl _) _⟩
  | true =>
   by_cases h10 : N ≤ 10
   ·have h11 : ¬ (N : Int) > 10 := by omega
    have hz3 : z = fields.all Sm.isField := by rw [HZ.out.1, decide_eq_true h10]; simp
    have HZ3 := Lib.hid hz3
    clear hz3
    go_wp2_with fail
    obtain ⟨W, hW⟩ : ∃ W, W = w.alloc (.cells #[.string name, .int .i64 lo, .int .i64 hi, .slice A N cf] 63) := ⟨_, rfl⟩
    have hk : Blk W w.heap.size [.string name, .int .i64 lo, .int .i64 hi, .slice A N cf] 63 := by rw [hW]; exact Blk.new w _ _
    have hb : Below w.heap.size w W := by rw [hW]; exact (Below.refl _ _).alloc (Nat.le_refl _) _
    rw [← hW]
    have HB := Lib.hid (And.intro hk hb)
    clear hW hk hb
    go_loopw [3] (fun i wr => ∃ j : Nat, j ≤ N ∧ i = .int .i64 j ∧ (fields.take j).all Sm.isField = true ∧ Blk wr w.heap.size [.string name, .int .i64 lo, .int .i64 hi, .slice A N cf] 63 ∧ Below w.heap.size w wr) (fun i _ => N - (intOf i).toNat)
    case atStart => exact ⟨0, by omega, rfl, rfl, HB.out.1, HB.out.2⟩
    case round =>
     clear HB
     obtain ⟨j, hj, rfl, ha, hk, hb⟩ := hrel
     have HA := Lib.hid ha
     have c3 := hk.cell 3 _ rfl
     clear ha
     by_cases hlt : j < N
     ·have hlt2 : j < fields.length := by rw [← HZ.out.2.1]; exact hlt
      have hg : fields[j]? = some fields[j] := List.getElem?_eq_getElem hlt2
      have hs := all_take_succ Sm.isField fields j _ hg
      have hf := all_false Sm.isField fields j _ hg
      have hmem := HZ.out.2.2 _ (List.getElem_mem hlt2)
      obtain ⟨f, hfx⟩ : ∃ f, f = fields[j] := ⟨_, rfl⟩
      rw [← hfx] at hg hs hf hmem
      obtain ⟨b, off, cs, rfl, hbl, ⟨Aw, cw, Ag, cg, rfl, r1, r2, -⟩, hcell⟩ := (HR.out.keep (Keep.of hb) fun _ _ k => FdC.keep k (Keep.of hb)).at (by decide) (fun _ _ => FdC.size) j f hg
      have d0 : wr.cell? ⟨b, off + j * 8, none⟩ = some (.string f.name) := hcell 0 _ rfl
      have d1 := hcell 1 _ rfl
      have d2 := hcell 2 _ rfl
      have d3 := hcell 3 _ rfl
      have d4 := hcell 4 _ rfl
      have d5 := hcell 5 _ rfl
      have d6 := hcell 6 _ rfl
      have d7 := hcell 7 _ rfl
      have cF := smIsField_any f Aw cw Ag cg wr (r1.more hb.size) (r2.more hb.size) hmem.2 hmem.1
      unfold fdV at cF
      have CF := Lib.hid cF
      have HQ := Lib.hid (And.intro hs hf)
      have j1 : (j : Int) < N := by omega
      have HK := Lib.hid (And.intro hk hb)
      clear hs hf hg hfx cF hcell r1 r2 hmem hk hb hlt2
      go_wp2_with fail
      refine CF.out.mono ?_
      rintro e w2 ⟨rfl, hb2⟩
      have HK2 := Lib.hid (And.intro (HK.out.1.below hb2 HK.out.1.lt) (HK.out.2.trans (hb2.mono HK.out.2.size)))
      clear hb2 CF d0 d1 d2 d3 d4 d5 d6 d7 c3
      by_cases hq : Sm.isField f = true
      ·go_wp2_with fail
       go_roundw
       case rel => exact ⟨j + 1, by omega, by go_num, by rw [HQ.out.1, HA.out, hq]; rfl, HK2.out.1, HK2.out.2⟩
       case measure => simp [intOf]; omega
      ·have hq2 : Sm.isField f = false := by simpa using hq
       obtain rfl : z = false := by rw [HZ3.out]; exact HQ.out.2 hq2
       go_wp2_with fail
       go_ret
       exact ⟨rfl, HK2.out.2⟩
     ·obtain rfl : j = N := by omega
      obtain rfl : z = true := by rw [HZ3.out, ← HA.out, List.take_of_length_le (by rw [← HZ.out.2.1]; omega)]
      have HB := Lib.hid hb
      clear hk hb
      go_wp2_with fail
      go_ret
      exact ⟨rfl, HB.out⟩
   ·have h11 : (N : Int) > 10 := by omega
    obtain rfl : z = false := by rw [HZ.out.1, decide_eq_false h10]; rfl
    go_wp2_with fail
    go_ret
    exact ⟨rfl, (Below.refl _ _).alloc (Nat.le_refl _) _⟩
end Go.Proofs.YtkgddcemocfgfaaGreatDoor
end

section
/- The reference of schemas: isRule. -/



namespace Go.Proofs.YtkgddcemocfgfaaGreatDoor
open Go.RowKit
set_option linter.unusedVariables false
set_option linter.unusedSimpArgs false
set_option maxRecDepth 100000

set_option maxHeartbeats 4000000 in
theorem smIsRule_any (r : Sm.Ru) (w : World) : Calls Tryz.prog 43 #[.agg #[.string r.name, .string r.kind, .string r.a, .string r.b, .int .i64 r.n]] w fun e w' => e = .returned (.bool (Sm.isRule r)) ∧ Below w.heap.size w w' := by
 obtain ⟨name, kind, a, b, n⟩ := r
 dsimp only
 obtain ⟨z, hz⟩ : ∃ z, z = Sm.isRule ⟨name, kind, a, b, n⟩ := ⟨_, rfl⟩
 rw [← hz]
 simp only [Sm.isRule, sizeE] at hz
 have HZ := Lib.hid hz
 have CI := Lib.hid (fun s W => smIsName_any s W)
 have CW := Lib.hid (fun W => smWithin_any n (-1048576) 1048576 W)
 clear hz
 go_enter Tryz.func43, Tryz.ntmps43
 go_wp2_with fail
 all_goals first | (show bodyPost _ _ _ _ _ _; go_ret; refine ⟨?_, (Below.refl _ _).alloc (Nat.le_refl _) _⟩; show Ending.returned (Value.bool _) = Ending.returned (Value.bool z); rw [HZ.out]; (try simp only [List.isEmpty_iff, Bool.not_eq_true', Bool.not_eq_false'] at *); first | (simp [*]; done) | (exfalso; simp_all; done)) | (go_at_call 96; refine (CI.out _ _).mono ?_; rintro e w1 ⟨rfl, rfl⟩; go_wp2_with fail) | (go_at_call 40; refine (CW.out _).mono ?_; rintro e w1 ⟨rfl, rfl⟩; go_wp2_with fail)
 all_goals first | (show bodyPost _ _ _ _ _ _; go_ret; refine ⟨?_, (Below.refl _ _).alloc (Nat.le_refl _) _⟩; show Ending.returned (Value.bool _) = Ending.returned (Value.bool z); rw [HZ.out]; (try simp only [List.isEmpty_iff, Bool.not_eq_true', Bool.not_eq_false'] at *); first | (simp [*]; done) | (exfalso; simp_all; done)) | (go_at_call 96; refine (CI.out _ _).mono ?_; rintro e w1 ⟨rfl, rfl⟩; go_wp2_with fail) | (go_at_call 40; refine (CW.out _).mono ?_; rintro e w1 ⟨rfl, rfl⟩; go_wp2_with fail)
 all_goals first | (show bodyPost _ _ _ _ _ _; go_ret; refine ⟨?_, (Below.refl _ _).alloc (Nat.le_refl _) _⟩; show Ending.returned (Value.bool _) = Ending.returned (Value.bool z); rw [HZ.out]; (try simp only [List.isEmpty_iff, Bool.not_eq_true', Bool.not_eq_false'] at *); first | (simp [*]; done) | (exfalso; simp_all; done)) | (go_at_call 96; refine (CI.out _ _).mono ?_; rintro e w1 ⟨rfl, rfl⟩; go_wp2_with fail) | (go_at_call 40; refine (CW.out _).mono ?_; rintro e w1 ⟨rfl, rfl⟩; go_wp2_with fail)
 all_goals first | (show bodyPost _ _ _ _ _ _; go_ret; refine ⟨?_, (Below.refl _ _).alloc (Nat.le_refl _) _⟩; show Ending.returned (Value.bool _) = Ending.returned (Value.bool z); rw [HZ.out]; (try simp only [List.isEmpty_iff, Bool.not_eq_true', Bool.not_eq_false'] at *); first | (simp [*]; done) | (exfalso; simp_all; done)) | (go_at_call 96; refine (CI.out _ _).mono ?_; rintro e w1 ⟨rfl, rfl⟩; go_wp2_with fail) | (go_at_call 40; refine (CW.out _).mono ?_; rintro e w1 ⟨rfl, rfl⟩; go_wp2_with fail)
 all_goals first | (show bodyPost _ _ _ _ _ _; go_ret; refine ⟨?_, (Below.refl _ _).alloc (Nat.le_refl _) _⟩; show Ending.returned (Value.bool _) = Ending.returned (Value.bool z); rw [HZ.out]; (try simp only [List.isEmpty_iff, Bool.not_eq_true', Bool.not_eq_false'] at *); first | (simp [*]; done) | (exfalso; simp_all; done)) | (go_at_call 96; refine (CI.out _ _).mono ?_; rintro e w1 ⟨rfl, rfl⟩; go_wp2_with fail) | (go_at_call 40; refine (CW.out _).mono ?_; rintro e w1 ⟨rfl, rfl⟩; go_wp2_with fail)
 all_goals first | (show bodyPost _ _ _ _ _ _; go_ret; refine ⟨?_, (Below.refl _ _).alloc (Nat.le_refl _) _⟩; show Ending.returned (Value.bool _) = Ending.returned (Value.bool z); rw [HZ.out]; (try simp only [List.isEmpty_iff, Bool.not_eq_true', Bool.not_eq_false'] at *); first | (simp [*]; done) | (exfalso; simp_all; done)) | (go_at_call 96; refine (CI.out _ _).mono ?_; rintro e w1 ⟨rfl, rfl⟩; go_wp2_with fail) | (go_at_call 40; refine (CW.out _).mono ?_; rintro e w1 ⟨rfl, rfl⟩; go_wp2_with fail)
end Go.Proofs.YtkgddcemocfgfaaGreatDoor
end

section
/- The reference of schemas: isLife. -/



namespace Go.Proofs.YtkgddcemocfgfaaGreatDoor
open Go.RowKit
set_option linter.unusedVariables false
set_option linter.unusedSimpArgs false
set_option maxRecDepth 100000

theorem moveC_at (l : List (Int × Int)) (i : Nat) (m : Int × Int) (h : l[i]? = some m) : (Sm.moveC l)[i * 2]? = some (iv m.1) ∧ (Sm.moveC l)[i * 2 + 1]? = some (iv m.2) := by
 induction l generalizing i with
 | nil => simp at h
 | cons x t ih =>
  have e : Sm.moveC (x :: t) = iv x.1 :: iv x.2 :: Sm.moveC t := rfl
  rw [e]
  cases i with
  | zero =>
   simp only [List.getElem?_cons_zero, Option.some.injEq] at h
   subst h
   exact ⟨rfl, rfl⟩
  | succ i =>
   rw [List.getElem?_cons_succ] at h
   have := ih i h
   rw [show (i + 1) * 2 = i * 2 + 1 + 1 by omega]
   exact this
theorem moveC_len (l : List (Int × Int)) : (Sm.moveC l).length = l.length * 2 := by
 induction l with
 | nil => rfl
 | cons x t ih => rw [show Sm.moveC (x :: t) = iv x.1 :: iv x.2 :: Sm.moveC t from rfl]; simp [ih]; omega

set_option maxHeartbeats 4000000 in
theorem smIsLife_any (x : Sm.Lf) (As : Option Addr) (cs : Nat) (Am : Option Addr) (cm : Nat) (w : World) (h1 : Rd w w.heap.size As (x.states.map sv)) (h2 : Rd w w.heap.size Am (Sm.moveC x.moves)) (hn : x.states.length ≤ 1000000000) (hm : x.moves.length ≤ 1000000000) :
  Calls Tryz.prog 42 #[.agg #[.string x.name, .slice As x.states.length cs, .slice Am x.moves.length cm]] w fun e w' => e = .returned (.bool (Sm.isLife x)) ∧ Below w.heap.size w w' := by
 obtain ⟨name, states, moves⟩ := x
 dsimp only at h1 h2 hn hm ⊢
 obtain ⟨z, hz⟩ : ∃ z, z = Sm.isLife ⟨name, states, moves⟩ := ⟨_, rfl⟩
 rw [← hz]
 have hz2 : z = (Sm.isName name && (Sm.within states.length 1 12 && (Sm.names states && (decide (moves.length ≤ 32) && moves.all fun m => Sm.within m.1 0 (states.length - 1) && Sm.within m.2 0 (states.length - 1))))) := hz
 have cI := fun W => smIsName_any name W
 have cW := fun W => smWithin_any states.length 1 12 W
 have cN := fun W (hb : Below w.heap.size w W) => smNames_any As cs states W ((h1.below hb).more hb.size) hn
 obtain ⟨p, hp⟩ : ∃ p, p = Sm.isName name := ⟨_, rfl⟩
 obtain ⟨q, hq⟩ : ∃ q, q = Sm.within states.length 1 12 := ⟨_, rfl⟩
 obtain ⟨r, hr⟩ : ∃ r, r = Sm.names states := ⟨_, rfl⟩
 obtain ⟨N, hN⟩ : ∃ N, N = states.length := ⟨_, rfl⟩
 obtain ⟨M, hM⟩ : ∃ M, M = moves.length := ⟨_, rfl⟩
 rw [← hp, ← hq, ← hr, ← hN, ← hM] at hz2
 simp only [← hp] at cI
 simp only [← hq] at cW
 simp only [← hr] at cN
 rw [← hN] at cW cN hn ⊢
 rw [← hM] at hm ⊢
 have HZ := Lib.hid (And.intro hz2 (And.intro hN hM))
 have HR := Lib.hid h2
 have CI := Lib.hid cI
 have CW := Lib.hid cW
 have CN := Lib.hid cN
 clear hz hz2 cI cW cN hp hq hr hN hM h1 h2
 go_enter Tryz.func42, Tryz.ntmps42
 go_wp2_with fail
 refine (CI.out _).mono ?_
 rintro e w1 ⟨rfl, rfl⟩
 clear CI
 cases p with
 | false =>
  obtain rfl : z = false := by rw [HZ.out.1]; rfl
  go_wp2_with fail
  go_ret
  exact ⟨rfl, (Below.refl _ _).alloc (Nat.le_refl _) _⟩
 | true =>
  go_wp2_with fail
  refine (CW.out _).mono ?_
  rintro e w1 ⟨rfl, rfl⟩
  clear CW
  cases q with
  | false =>
   obtain rfl : z = false := by rw [HZ.out.1]; rfl
   go_wp2_with fail
   go_ret
   exact ⟨rfl, (Below.refl _ _).alloc (Nat.le_refl _) _⟩
  | true =>
   go_wp2_with fail
   refine (CN.out _ ((Below.refl _ _).alloc (Nat.le_refl _) _)).mono ?_
   rintro e w1 ⟨rfl, rfl⟩
   clear CN
   cases r with
   | false =>
    obtain rfl : z = false := by rw [HZ.out.1]; rfl
    go_wp2_with fail
    go_ret
    exact ⟨rfl, (Below.refl _ _).alloc (Nat.le_refl _) _⟩
   | true =>
    by_cases h10 : M ≤ 32
    ·have h11 : ¬ (M : Int) > 32 := by omega
     have hz3 : z = moves.all fun m => Sm.within m.1 0 ((N : Int) - 1) && Sm.within m.2 0 ((N : Int) - 1) := by rw [HZ.out.1, decide_eq_true h10]; simp
     have HZ3 := Lib.hid hz3
     clear hz3
     go_wp2_with fail
     obtain ⟨W, hW⟩ : ∃ W, W = w.alloc (.cells #[.string name, .slice As N cs, .slice Am M cm] 67) := ⟨_, rfl⟩
     have hk : Blk W w.heap.size [.string name, .slice As N cs, .slice Am M cm] 67 := by rw [hW]; exact Blk.new w _ _
     have hb : Below w.heap.size w W := by rw [hW]; exact (Below.refl _ _).alloc (Nat.le_refl _) _
     rw [← hW]
     have HB := Lib.hid (And.intro hk hb)
     clear hW hk hb
     go_loopw [3] (fun i wr => ∃ j : Nat, j ≤ M ∧ i = .int .i64 j ∧ ((moves.take j).all fun m => Sm.within m.1 0 ((N : Int) - 1) && Sm.within m.2 0 ((N : Int) - 1)) = true ∧ Blk wr w.heap.size [.string name, .slice As N cs, .slice Am M cm] 67 ∧ Below w.heap.size w wr) (fun i _ => M - (intOf i).toNat)
     case atStart => exact ⟨0, by omega, rfl, rfl, HB.out.1, HB.out.2⟩
     case round =>
      clear HB
      obtain ⟨j, hj, rfl, ha, hk, hb⟩ := hrel
      have HA := Lib.hid ha
      have c1 := hk.cell 1 _ rfl
      have c2 := hk.cell 2 _ rfl
      clear ha
      by_cases hlt : j < M
      ·have hlt2 : j < moves.length := by rw [← HZ.out.2.2]; exact hlt
       have hg : moves[j]? = some moves[j] := List.getElem?_eq_getElem hlt2
       have hs := all_take_succ (fun m : Int × Int => Sm.within m.1 0 ((N : Int) - 1) && Sm.within m.2 0 ((N : Int) - 1)) moves j _ hg
       have hf := all_false (fun m : Int × Int => Sm.within m.1 0 ((N : Int) - 1) && Sm.within m.2 0 ((N : Int) - 1)) moves j _ hg
       obtain ⟨m, hmx⟩ : ∃ m, m = moves[j] := ⟨_, rfl⟩
       rw [← hmx] at hg hs hf
       obtain ⟨m1, m2⟩ := m
       obtain ⟨b, off, rfl, hbl, hcell⟩ := (HR.out.below hb) (by rw [moveC_len]; omega)
       have d1 : wr.cell? ⟨b, off + j * 2, none⟩ = some (.int .i64 m1) := hcell _ _ (moveC_at moves j _ hg).1
       have d2 : wr.cell? ⟨b, off + j * 2 + 1, none⟩ = some (.int .i64 m2) := by
        have := hcell _ _ (moveC_at moves j _ hg).2
        rwa [← Nat.add_assoc] at this
       have CA := Lib.hid (fun n W => smWithin_any n 0 ((N : Int) - 1) W)
       dsimp only at hs hf
       have HQ := Lib.hid (And.intro hs hf)
       have hw1 : wrap64 ((N : Int) - 1) = N - 1 := by unfold wrap64; omega
       have j1 : (j : Int) < M := by omega
       have HK := Lib.hid (And.intro hk hb)
       have hblw : b < wr.heap.size := Nat.lt_of_lt_of_le hbl hb.size
       have q1 : ∀ q : BelT wr.heap.size wr, q.at.cell? ⟨b, off + j * 2, none⟩ = some (.int .i64 m1) := fun q => (q.out.cell hblw).trans d1
       have q2 : ∀ q : BelT wr.heap.size wr, q.at.cell? ⟨b, off + j * 2 + 1, none⟩ = some (.int .i64 m2) := fun q => (q.out.cell hblw).trans d2
       have q3 : ∀ q : BelT wr.heap.size wr, q.at.cell? ⟨w.heap.size, 1, none⟩ = some (.slice As N cs) := fun q => (hk.below q.out hk.lt).cell 1 _ rfl
       have q4 : ∀ q : BelT wr.heap.size wr, q.at.cell? ⟨w.heap.size, 2, none⟩ = some (.slice (some ⟨b, off, none⟩) M cm) := fun q => (hk.below q.out hk.lt).cell 2 _ rfl
       clear hs hf hg hmx hcell hk hb hlt2 d1 d2 hbl hblw
       by_cases hp : Sm.within m1 0 ((N : Int) - 1) = true
       ·by_cases hq : Sm.within m2 0 ((N : Int) - 1) = true
        ·go_wp2_with fail
         refine wp_region_below wr.heap.size (by kernel_rfl) (by kernel_rfl) ?_
         repeat (go_big_quiet_step (exact (CA.out _ _).mono fun e w' h => ⟨h.1, _, h.2⟩))
         refine wpQuiet_nil ?_
         intro w' hw'
         obtain ⟨y, rfl⟩ := hw'
         have HY := Lib.hid (And.intro (HK.out.1.below y.out HK.out.1.lt) (HK.out.2.trans (y.out.mono HK.out.2.size)))
         clear q1 q2 q3 q4 c1 c2
         go_wp2_with fail
         go_roundw
         case rel => exact ⟨j + 1, by omega, by go_num, by rw [HQ.out.1, HA.out, hp, hq]; rfl, HY.out.1, HY.out.2⟩
         case measure => simp [intOf]; omega
        ·have hq2 : Sm.within m2 0 ((N : Int) - 1) = false := by simpa using hq
         obtain rfl : z = false := by rw [HZ3.out]; exact HQ.out.2 (by rw [hq2, Bool.and_false])
         clear hq
         go_wp2_with fail
         refine wp_region_below wr.heap.size (by kernel_rfl) (by kernel_rfl) ?_
         repeat (go_big_quiet_step (exact (CA.out _ _).mono fun e w' h => ⟨h.1, _, h.2⟩))
         refine wpQuiet_nil ?_
         intro w' hw'
         obtain ⟨y, rfl⟩ := hw'
         have HY := Lib.hid (HK.out.2.trans (y.out.mono HK.out.2.size))
         clear q1 q2 q3 q4 c1 c2
         go_wp2_with fail
         go_ret
         exact ⟨rfl, HY.out⟩
       ·have hp2 : Sm.within m1 0 ((N : Int) - 1) = false := by simpa using hp
        obtain rfl : z = false := by rw [HZ3.out]; exact HQ.out.2 (by rw [hp2, Bool.false_and])
        clear hp
        go_wp2_with fail
        refine wp_region_below wr.heap.size (by kernel_rfl) (by kernel_rfl) ?_
        repeat (go_big_quiet_step (exact (CA.out _ _).mono fun e w' h => ⟨h.1, _, h.2⟩))
        refine wpQuiet_nil ?_
        intro w' hw'
        obtain ⟨y, rfl⟩ := hw'
        have HY := Lib.hid (HK.out.2.trans (y.out.mono HK.out.2.size))
        clear q1 q2 q3 q4 c1 c2
        go_wp2_with fail
        go_ret
        exact ⟨rfl, HY.out⟩
      ·obtain rfl : j = M := by omega
       obtain rfl : z = true := by rw [HZ3.out, ← HA.out, List.take_of_length_le (by rw [← HZ.out.2.2]; omega)]
       have HB := Lib.hid hb
       clear hk hb
       go_wp2_with fail
       go_ret
       exact ⟨rfl, HB.out⟩
    ·have h11 : (M : Int) > 32 := by omega
     obtain rfl : z = false := by rw [HZ.out.1, decide_eq_false h10]; rfl
     go_wp2_with fail
     go_ret
     exact ⟨rfl, (Below.refl _ _).alloc (Nat.le_refl _) _⟩
end Go.Proofs.YtkgddcemocfgfaaGreatDoor
end

section
/- The reference of schemas: Decimal, and, named. -/



namespace Go.Proofs.YtkgddcemocfgfaaGreatDoor
open Go.RowKit
set_option linter.unusedVariables false
set_option maxRecDepth 100000

set_option maxHeartbeats 4000000 in
theorem smDigits_any : ∀ (n : Nat) (w : World), n < 9223372036854775808 → Calls Tryz.prog 107 #[.int .i64 n] w fun e w' => e = .returned (.string (bs (Lib.decDigits n))) ∧ Below w.heap.size w w' := by
 intro n
 induction n using Nat.strongRecOn with
 | _ n ih =>
  intro w hn
  obtain ⟨t, ht⟩ : ∃ t, t = Lib.decDigits n := ⟨_, rfl⟩
  rw [← ht]
  rw [Lib.decDigits] at ht
  by_cases h : n < 10
  ·rw [dif_pos h] at ht
   have c8 := fun W => run_conv8 n W h
   have hi : (n : Int) < 10 := by omega
   have h0 : (0 : Int) ≤ n := by omega
   have HT := Lib.hid ht
   have h1 : wrap64 (48 + (n : Int)) = 48 + (n : Int) := IntWalk.wrap64_in _ (by omega)
   generalize UInt8.ofNat (48 + n) = x at *
   unfold bv at c8
   have hcv : (convert 35 9 (.slice (some ⟨w.heap.size, 0, none⟩) 1 1)).run Tryz.prog (w.alloc (.cells #[.int .u8 (x.toNat : Int)] 5)) = .ok (.string (bs [x])) (w.alloc (.cells #[.int .u8 (x.toNat : Int)] 5)) :=
    conv_bytes (w.alloc (.cells #[.int .u8 (x.toNat : Int)] 5)) _ (some ⟨w.heap.size, 0, none⟩) [x] 1 (rd_new w [bv x] _)
   clear ih ht
   go_enter Tryz.func107, Tryz.ntmps107
   go_wp2_with fail
   go_ret
   exact ⟨by rw [HT.out]; rfl, (Below.refl _ _).alloc (Nat.le_refl _) _⟩
  ·rw [dif_neg h] at ht
   obtain ⟨p, hp⟩ : ∃ p, p = Lib.decDigits (n / 10) := ⟨_, rfl⟩
   have hpl := dec_len21 (n / 10) (by omega)
   have hI := fun W => ih (n / 10) (by omega) W (by omega)
   rw [← hp] at hI hpl ht
   have c8 := fun W => run_conv8 (n % 10) W (Nat.mod_lt _ (by decide))
   obtain ⟨x, hx⟩ : ∃ x, x = UInt8.ofNat (48 + n % 10) := ⟨_, rfl⟩
   rw [← hx] at ht c8
   have hi : ¬ ((n : Int) < 10) := by omega
   have HI := Lib.hid hI
   have HN := Lib.hid hn
   have HP := Lib.hid hpl
   have C8 := Lib.hid c8
   have HT := Lib.hid ht
   clear ih ht hp hpl hI hx hn c8 h
   go_enter Tryz.func107, Tryz.ntmps107
   go_wp2_with fail
   refine wp_region_list [16, 17, 18, 19, 20, 21, 22, 23, 24, 25] [.is (.int .i64 n), .is (.int .i64 ((n / 10 : Nat) : Int)), .is (.string (bs p)), .is (.int .i64 n), .is (.int .i64 ((n % 10 : Nat) : Int)), .is (.int .i64 (48 + ((n % 10 : Nat) : Int))), .is (bv x), .rowB [x], .is (.string (bs [x])), .is (.string (bs (p ++ [x])))] (by kernel_rfl) (by kernel_rfl) ?_ ?_
   ·intro i hi fb w' hb hd hx o ho
    match i, hi with
    | 0, _ => obtain rfl := Option.some.inj ho; exact ⟨hx 0 rfl, Below.refl _ _⟩
    | 1, _ =>
     obtain rfl := Option.some.inj ho
     have e : fb.tmps.getD 16 undef = .int .i64 n := hd 0 (by kernel_rfl) (by decide)
     refine runs_value rfl ?_ ⟨rfl, Below.refl _ _⟩
     rw [show fb.eval (.tmp 16) = _ from e]
     exact run_quo10 n _ _ w' HN.out
    | 2, _ =>
     obtain rfl := Option.some.inj ho
     have e : fb.tmps.getD 17 undef = .int .i64 ((n / 10 : Nat) : Int) := hd 1 (by kernel_rfl) (by decide)
     refine runs_call rfl (fun _ _ => rfl) ?_
     show Calls _ _ #[fb.tmps.getD 17 undef] w' _
     rw [e]
     exact (HI.out w').mono fun e w'' h => ⟨_, h.1, rfl, h.2⟩
    | 3, _ => obtain rfl := Option.some.inj ho; exact ⟨hx 0 rfl, Below.refl _ _⟩
    | 4, _ =>
     obtain rfl := Option.some.inj ho
     have e : fb.tmps.getD 19 undef = .int .i64 n := hd 3 (by kernel_rfl) (by decide)
     refine runs_value rfl ?_ ⟨rfl, Below.refl _ _⟩
     rw [show fb.eval (.tmp 19) = _ from e]
     exact run_rem10 n _ _ w'
    | 5, _ =>
     obtain rfl := Option.some.inj ho
     have e : fb.tmps.getD 20 undef = .int .i64 ((n % 10 : Nat) : Int) := hd 4 (by kernel_rfl) (by decide)
     refine runs_value rfl ?_ ⟨rfl, Below.refl _ _⟩
     rw [show fb.eval (.tmp 20) = _ from e]
     exact run_add48 (n % 10) _ _ w' (Nat.mod_lt _ (by decide))
    | 6, _ =>
     obtain rfl := Option.some.inj ho
     have e : fb.tmps.getD 21 undef = .int .i64 (48 + ((n % 10 : Nat) : Int)) := hd 5 (by kernel_rfl) (by decide)
     refine runs_value rfl ?_ ⟨rfl, Below.refl _ _⟩
     rw [show fb.eval (.tmp 21) = _ from e]
     exact C8.out w'
    | 7, _ =>
     obtain rfl := Option.some.inj ho
     have e : fb.tmps.getD 22 undef = bv x := hd 6 (by kernel_rfl) (by decide)
     have hbs := build_u8 w' x
     refine runs_value (X := Instr.buildSlice 35 1 #[(0, fb.tmps.getD 22 undef)]) (by unfold execOp; simp [Act.eval]) (by rw [e]; exact hbs) ⟨⟨some ⟨w'.heap.size, 0, none⟩, 1, rfl, rd_new w' [bv x] _, by simp, by decide⟩, (Below.refl _ _).alloc (Nat.le_refl _) _⟩
    | 8, _ =>
     obtain rfl := Option.some.inj ho
     obtain ⟨A, c, e, h1, h2, h3⟩ := hd 7 (by kernel_rfl) (by decide)
     have hcv := conv_bytes w' _ A [x] c h1
     rw [← show fb.tmps.getD 23 undef = _ from e] at hcv
     exact runs_value rfl hcv ⟨rfl, Below.refl _ _⟩
    | 9, _ =>
     obtain rfl := Option.some.inj ho
     have e1 : fb.tmps.getD 18 undef = .string (bs p) := hd 2 (by kernel_rfl) (by decide)
     have e2 : fb.tmps.getD 24 undef = .string (bs [x]) := hd 8 (by kernel_rfl) (by decide)
     refine runs_value rfl ?_ ⟨rfl, Below.refl _ _⟩
     rw [show fb.eval (.tmp 18) = _ from e1, show fb.eval (.tmp 24) = _ from e2]
     exact run_add_str _ _ w' p [x] (by have := HP.out; omega) (by simp)
   ·intro vals w' hb hf
    have e9 : vals 9 = .string (bs (p ++ [x])) := hf 9 (by decide)
    rw [← HT.out] at e9
    simp only [puts, List.length_cons, List.length_nil, Nat.zero_add, Nat.reduceAdd, List.drop_succ_cons, List.drop_zero, e9]
    have B := Lib.hid hb
    clear e9 hf hb HT
    go_frame
    go_wp2_with fail
    go_ret
    exact ⟨rfl, B.out⟩


namespace Sm
/-- Decimal digits, with a sign. -/
def dec (n : Int) : List UInt8 := if n < 0 then 45 :: Lib.decDigits n.natAbs else Lib.decDigits n.natAbs
end Sm
theorem smDec_len (n : Int) (h1 : -4611686018427387904 < n) (h2 : n < 4611686018427387904) : (Sm.dec n).length ≤ 22 := by
 have := dec_len21 n.natAbs (by omega)
 unfold Sm.dec
 split <;> simp <;> omega
set_option maxHeartbeats 4000000 in
theorem smDecimal_any (n : Int) (w : World) (h1 : -4611686018427387904 < n) (h2 : n < 4611686018427387904) :
  Calls Tryz.prog 107 #[.int .i64 n] w fun e w' => e = .returned (.string (bs (Sm.dec n))) ∧ Below w.heap.size w w' := by
 by_cases h0 : n < 0
 ·have cD := fun W => smDigits_any n.natAbs W (by omega)
  have hd : Sm.dec n = 45 :: Lib.decDigits n.natAbs := by unfold Sm.dec; rw [if_pos h0]
  have hl := dec_len21 n.natAbs (by omega)
  obtain ⟨x, hx⟩ : ∃ x, x = Lib.decDigits n.natAbs := ⟨_, rfl⟩
  rw [← hx] at hd hl
  simp only [← hx] at cD
  rw [hd]
  have hneg : (n.natAbs : Int) = -n := by omega
  rw [hneg] at cD
  have hw : wrap64 (-n) = -n := by unfold wrap64; omega
  have CD := Lib.hid cD
  have ha := fun X Y W => run_add_str X Y W [45] x (by decide) (by omega)
  clear cD hx hd hneg
  go_enter Tryz.func107, Tryz.ntmps107
  go_wp2_with fail
  refine (CD.out _).mono ?_
  rintro e w1 ⟨rfl, hb⟩
  have HB := Lib.hid hb
  clear hb
  go_wp2_with fail
  all_goals first | (exfalso; go_light; rw [size_bs] at *; omega) | skip
  go_ret
  exact ⟨rfl, HB.out⟩
 ·have hd : Sm.dec n = Lib.decDigits n.natAbs := by unfold Sm.dec; rw [if_neg h0]
  have := smDigits_any n.natAbs w (by omega)
  rw [hd]
  rwa [show (n.natAbs : Int) = n by omega] at this

namespace Sm
def B (l : List UInt8) : ByteArray := ⟨l.toArray⟩
/-- A text with a blank and a number after it. -/
def and (s : ByteArray) (n : Int) : ByteArray := s ++ ⟨#[32]⟩ ++ bs (dec n)
/-- The token of a name that may be empty. -/
def tok (s : ByteArray) : ByteArray := if s.toList = [] then ⟨#[45]⟩ else s
theorem and_size (s : ByteArray) (n : Int) (h1 : -4611686018427387904 < n) (h2 : n < 4611686018427387904) : (and s n).size ≤ s.size + 23 := by
 unfold and
 rw [ByteArray.size_append, ByteArray.size_append, size_bs, show (ByteArray.mk #[32]).size = 1 from rfl]
 have := smDec_len n h1 h2
 omega
end Sm
set_option maxHeartbeats 4000000 in
theorem smAnd_any (s : ByteArray) (n : Int) (w : World) (hs : s.size ≤ 8000000) (h1 : -4611686018427387904 < n) (h2 : n < 4611686018427387904) :
  Calls Tryz.prog 56 #[.string s, .int .i64 n] w fun e w' => e = .returned (.string (Sm.and s n)) ∧ Below w.heap.size w w' := by
 have cD := fun W => smDecimal_any n W h1 h2
 have hl := smDec_len n h1 h2
 unfold Sm.and
 obtain ⟨x, hx⟩ : ∃ x, x = bs (Sm.dec n) := ⟨_, rfl⟩
 have hxs : x.size ≤ 22 := by rw [hx, size_bs]; exact hl
 simp only [← hx] at cD
 rw [← hx]
 have CD := Lib.hid cD
 clear cD hx hl
 go_enter Tryz.func56, Tryz.ntmps56
 go_wp2_with fail
 all_goals first | (exfalso; go_light; omega) | skip
 refine (CD.out _).mono ?_
 rintro e w1 ⟨rfl, hb⟩
 have HB := Lib.hid hb
 clear hb
 go_wp2_with fail
 all_goals first | (exfalso; go_light; omega) | skip
 go_ret
 exact ⟨rfl, HB.out⟩
theorem smNamed_any (s : ByteArray) (w : World) : Calls Tryz.prog 58 #[.string s] w (Ans (.string (Sm.tok s)) w) := by
 unfold Ans
 by_cases h : s.toList = []
 ·rw [show Sm.tok s = ⟨#[45]⟩ by unfold Sm.tok; rw [if_pos h]]
  go_enter Tryz.func58, Tryz.ntmps58
  go_wp2_with fail
  go_ret
  exact ⟨rfl, rfl⟩
 ·rw [show Sm.tok s = s by unfold Sm.tok; rw [if_neg h]]
  have h2 : s.toList.isEmpty = false := by simpa using h
  go_enter Tryz.func58, Tryz.ntmps58
  go_wp2_with fail
  go_ret
  exact ⟨rfl, rfl⟩
end Go.Proofs.YtkgddcemocfgfaaGreatDoor
end

