import Derived.Test.YtkgddcemocfgfaaGreatDoorJZSmGc
import Derived.Test.YtkgddcemocfgfaaGreatDoorJZSmGp
import Derived.Test.YtkgddcemocfgfaaGreatDoorJZSmRi
import Derived.Test.YtkgddcemocfgfaaGreatDoorJZSmSb

section
/- The reference's parser: want, number, count, name, names. -/

namespace Go.Proofs.YtkgddcemocfgfaaGreatDoor
open Go.RowKit
set_option linter.unusedVariables false
set_option linter.unusedSimpArgs false
set_option maxRecDepth 100000

section
variable (pb : Nat) (s : ByteArray) (A : Option Addr) (cap : Nat) (ts : List (Nat × Nat)) (p : Sm.PS) (W : World) (h : PaAt pb s A cap ts p W) (hi : p.i ≤ 1000000)
include h hi

set_option maxHeartbeats 2000000 in
theorem paNumber_any : Calls Tryz.prog 64 #[.pointer (some ⟨pb, 0, none⟩)] W (Pas pb s A cap ts (.int .i64 (Sm.numV (tokT s ts) p)) (Sm.numP (tokT s ts) p) W) := by
 have cL := paLook_any pb s A cap ts p W h hi
 have cV := fun V => paValue_any (Sm.look (tokT s ts) p) V
 have cT := fun V (hV : PaAt pb s A cap ts p V) => paTake_any pb s A cap ts p (Sm.valW (sb (Sm.look (tokT s ts) p))).2 V hV hi
 unfold Sm.numV Sm.numP
 generalize Sm.takeP (tokT s ts) (Sm.valW (sb (Sm.look (tokT s ts) p))).2 p = P2 at *
 generalize Sm.takeW (tokT s ts) (Sm.valW (sb (Sm.look (tokT s ts) p))).2 p = W2 at *
 generalize (Sm.valW (sb (Sm.look (tokT s ts) p))).1 = n at *
 generalize (Sm.valW (sb (Sm.look (tokT s ts) p))).2 = z at *
 generalize Sm.look (tokT s ts) p = l at *
 unfold Ans at cV
 have CL := Lib.hid cL
 have CV := Lib.hid cV
 have CT := Lib.hid cT
 have HH := Lib.hid h
 clear cL cV cT h hi
 go_enter Tryz.func64, Tryz.ntmps64
 go_wp2_with fail
 refine CL.out.mono ?_
 rintro e w1 ⟨rfl, hb1⟩
 have H1 := Lib.hid (And.intro (HH.out.below hb1) hb1)
 clear hb1 CL
 go_wp2_with fail
 refine (CV.out _).mono ?_
 rintro e w2 ⟨rfl, hw2⟩
 obtain rfl := hw2.symm
 clear hw2 CV
 go_wp2_with fail
 refine (CT.out _ H1.out.1).mono ?_
 rintro e w3 ⟨rfl, ha, hb⟩
 have H3 := Lib.hid (And.intro ha ((But.of H1.out.2).trans hb))
 clear ha hb CT H1
 go_wp2_with fail
 go_ret
 exact ⟨rfl, H3.out.1, H3.out.2⟩

set_option maxHeartbeats 2000000 in
theorem paCount_any : Calls Tryz.prog 124 #[.pointer (some ⟨pb, 0, none⟩)] W (Pas pb s A cap ts (.int .i64 (Sm.numV (tokT s ts) p)) (Sm.cntP (tokT s ts) p) W) := by
 have cL := paLook_any pb s A cap ts p W h hi
 have cV := fun V => paValue_any (Sm.look (tokT s ts) p) V
 have cT := fun r V (hV : PaAt pb s A cap ts p V) => paTake_any pb s A cap ts p r V hV hi
 have hP : Sm.cntP (tokT s ts) p = Sm.takeP (tokT s ts) ((Sm.valW (sb (Sm.look (tokT s ts) p))).2 && Sm.within (Sm.valW (sb (Sm.look (tokT s ts) p))).1 1 12) p := rfl
 rw [hP]
 unfold Sm.numV
 generalize (Sm.valW (sb (Sm.look (tokT s ts) p))).1 = n at *
 generalize (Sm.valW (sb (Sm.look (tokT s ts) p))).2 = z at *
 generalize Sm.look (tokT s ts) p = l at *
 have ct := cT (z && Sm.within n 1 12)
 generalize Sm.takeP (tokT s ts) (z && Sm.within n 1 12) p = P2 at *
 generalize Sm.takeW (tokT s ts) (z && Sm.within n 1 12) p = W2 at *
 unfold Ans at cV
 have CL := Lib.hid cL
 have CV := Lib.hid cV
 have HH := Lib.hid h
 have hz : (z && Sm.within n 1 12) = (if z = true then (if 1 ≤ n then (if n ≤ 12 then true else false) else false) else false) := by
  unfold Sm.within
  cases z
  ·rfl
  ·rw [if_pos rfl, Bool.true_and]
   split
   ·rename_i a
    split
    ·rename_i b; exact decide_eq_true ⟨a, b⟩
    ·rename_i b; exact decide_eq_false (fun x => b x.2)
   ·rename_i a; exact decide_eq_false (fun x => a x.1)
 rw [hz] at ct
 clear cL cV cT h hi hP hz
 cases z with
 | false =>
  rw [if_neg (by decide)] at ct
  have CT := Lib.hid ct
  clear ct
  go_enter Tryz.func124, Tryz.ntmps124
  go_wp2_with fail
  refine CL.out.mono ?_
  rintro e w1 ⟨rfl, hb1⟩
  have H1 := Lib.hid (And.intro (HH.out.below hb1) hb1)
  clear hb1 CL
  go_wp2_with fail
  refine (CV.out _).mono ?_
  rintro e w2 ⟨rfl, hw2⟩
  obtain rfl := hw2.symm
  clear hw2 CV
  go_wp2_with fail
  refine (CT.out _ H1.out.1).mono ?_
  rintro e w3 ⟨rfl, ha, hb⟩
  have H3 := Lib.hid (And.intro ha ((But.of H1.out.2).trans hb))
  clear ha hb CT H1
  go_wp2_with fail
  go_ret
  exact ⟨rfl, H3.out.1, H3.out.2⟩
 | true =>
  rw [if_pos rfl] at ct
  by_cases q1 : 1 ≤ n
  ·rw [if_pos q1] at ct
   by_cases q2 : n ≤ 12
   ·rw [if_pos q2] at ct
    have CT := Lib.hid ct
    clear ct
    go_enter Tryz.func124, Tryz.ntmps124
    go_wp2_with fail
    refine CL.out.mono ?_
    rintro e w1 ⟨rfl, hb1⟩
    have H1 := Lib.hid (And.intro (HH.out.below hb1) hb1)
    clear hb1 CL
    go_wp2_with fail
    refine (CV.out _).mono ?_
    rintro e w2 ⟨rfl, hw2⟩
    obtain rfl := hw2.symm
    clear hw2 CV
    go_wp2_with fail
    refine (CT.out _ H1.out.1).mono ?_
    rintro e w3 ⟨rfl, ha, hb⟩
    have H3 := Lib.hid (And.intro ha ((But.of H1.out.2).trans hb))
    clear ha hb CT H1
    go_wp2_with fail
    go_ret
    exact ⟨rfl, H3.out.1, H3.out.2⟩
   ·rw [if_neg q2] at ct
    have CT := Lib.hid ct
    have q3 : decide (n ≤ 12) = false := decide_eq_false q2
    clear ct
    go_enter Tryz.func124, Tryz.ntmps124
    go_wp2_with fail
    refine CL.out.mono ?_
    rintro e w1 ⟨rfl, hb1⟩
    have H1 := Lib.hid (And.intro (HH.out.below hb1) hb1)
    clear hb1 CL
    go_wp2_with fail
    refine (CV.out _).mono ?_
    rintro e w2 ⟨rfl, hw2⟩
    obtain rfl := hw2.symm
    clear hw2 CV
    go_wp2_with fail
    refine (CT.out _ H1.out.1).mono ?_
    rintro e w3 ⟨rfl, ha, hb⟩
    have H3 := Lib.hid (And.intro ha ((But.of H1.out.2).trans hb))
    clear ha hb CT H1
    go_wp2_with fail
    go_ret
    exact ⟨rfl, H3.out.1, H3.out.2⟩
  ·rw [if_neg q1] at ct
   have CT := Lib.hid ct
   have q3 : decide (1 ≤ n) = false := decide_eq_false q1
   clear ct
   go_enter Tryz.func124, Tryz.ntmps124
   go_wp2_with fail
   refine CL.out.mono ?_
   rintro e w1 ⟨rfl, hb1⟩
   have H1 := Lib.hid (And.intro (HH.out.below hb1) hb1)
   clear hb1 CL
   go_wp2_with fail
   refine (CV.out _).mono ?_
   rintro e w2 ⟨rfl, hw2⟩
   obtain rfl := hw2.symm
   clear hw2 CV
   go_wp2_with fail
   refine (CT.out _ H1.out.1).mono ?_
   rintro e w3 ⟨rfl, ha, hb⟩
   have H3 := Lib.hid (And.intro ha ((But.of H1.out.2).trans hb))
   clear ha hb CT H1
   go_wp2_with fail
   go_ret
   exact ⟨rfl, H3.out.1, H3.out.2⟩

set_option maxHeartbeats 2000000 in
theorem paName_any : Calls Tryz.prog 121 #[.pointer (some ⟨pb, 0, none⟩)] W (Pas pb s A cap ts (.string (Sm.nameW (tokT s ts) p)) (Sm.nameP (tokT s ts) p) W) := by
 have cL := paLook_any pb s A cap ts p W h hi
 have cV := fun V => smIsName_any (Sm.look (tokT s ts) p) V
 have cT := fun V (hV : PaAt pb s A cap ts p V) => paTake_any pb s A cap ts p (Sm.isName (Sm.look (tokT s ts) p)) V hV hi
 unfold Sm.nameW Sm.nameP
 generalize Sm.takeP (tokT s ts) (Sm.isName (Sm.look (tokT s ts) p)) p = P2 at *
 generalize Sm.takeW (tokT s ts) (Sm.isName (Sm.look (tokT s ts) p)) p = W2 at *
 generalize Sm.isName (Sm.look (tokT s ts) p) = z at *
 generalize Sm.look (tokT s ts) p = l at *
 unfold Ans at cV
 have CL := Lib.hid cL
 have CV := Lib.hid cV
 have CT := Lib.hid cT
 have HH := Lib.hid h
 clear cL cV cT h hi
 go_enter Tryz.func121, Tryz.ntmps121
 go_wp2_with fail
 refine CL.out.mono ?_
 rintro e w1 ⟨rfl, hb1⟩
 have H1 := Lib.hid (And.intro (HH.out.below hb1) hb1)
 clear hb1 CL
 go_wp2_with fail
 refine (CV.out _).mono ?_
 rintro e w2 ⟨rfl, hw2⟩
 obtain rfl := hw2.symm
 clear hw2 CV
 go_wp2_with fail
 refine (CT.out _ H1.out.1).mono ?_
 rintro e w3 ⟨rfl, ha, hb⟩
 have H3 := Lib.hid (And.intro ha ((But.of H1.out.2).trans hb))
 clear ha hb CT H1
 go_wp2_with fail
 go_ret
 exact ⟨rfl, H3.out.1, H3.out.2⟩

set_option maxHeartbeats 2000000 in
theorem paWant_any (x : ByteArray) : Calls Tryz.prog 63 #[.pointer (some ⟨pb, 0, none⟩), .string x] W (Pas pb s A cap ts (.tuple #[]) (Sm.wantP (tokT s ts) x p) W) := by
 have cL := paLook_any pb s A cap ts p W h hi
 have cT := fun V (hV : PaAt pb s A cap ts p V) => paTake_any pb s A cap ts p (Sm.eqW (Sm.look (tokT s ts) p) x) V hV hi
 unfold Sm.wantP
 generalize Sm.takeP (tokT s ts) (Sm.eqW (Sm.look (tokT s ts) p) x) p = P2 at *
 generalize Sm.takeW (tokT s ts) (Sm.eqW (Sm.look (tokT s ts) p) x) p = W2 at *
 generalize Sm.look (tokT s ts) p = l at *
 unfold Sm.eqW at cT
 have CL := Lib.hid cL
 have CT := Lib.hid cT
 have HH := Lib.hid h
 clear cL cT h hi
 go_enter Tryz.func63, Tryz.ntmps63
 go_wp2_with fail
 refine CL.out.mono ?_
 rintro e w1 ⟨rfl, hb1⟩
 have H1 := Lib.hid (And.intro (HH.out.below hb1) hb1)
 clear hb1 CL
 go_wp2_with fail
 refine (CT.out _ H1.out.1).mono ?_
 rintro e w3 ⟨rfl, ha, hb⟩
 have H3 := Lib.hid (And.intro ha ((But.of H1.out.2).trans hb))
 clear ha hb CT H1
 go_wp2_with fail
 exact bodyPost_ret (results_none rfl _ _ _) rfl ⟨rfl, H3.out.1, H3.out.2⟩

set_option maxHeartbeats 2000000 in
theorem paNames_any : Calls Tryz.prog 125 #[.pointer (some ⟨pb, 0, none⟩)] W (Pas pb s A cap ts (.string (Sm.namesW (tokT s ts) p)) (Sm.namesP (tokT s ts) p) W) := by
 have cL := fun V (hV : PaAt pb s A cap ts p V) => paLook_any pb s A cap ts p V hV hi
 have cV := fun V => smIsName_any (Sm.look (tokT s ts) p) V
 have cT := fun V (hV : PaAt pb s A cap ts p V) => paTake_any pb s A cap ts p (Sm.namesR (tokT s ts) p) V hV hi
 unfold Sm.namesW Sm.namesP
 generalize Sm.takeP (tokT s ts) (Sm.namesR (tokT s ts) p) p = P2 at *
 generalize Sm.takeW (tokT s ts) (Sm.namesR (tokT s ts) p) p = W2 at *
 unfold Sm.namesR Sm.eqW Sm.dash at cT
 unfold Sm.eqW Sm.dash Sm.nil
 generalize Sm.isName (Sm.look (tokT s ts) p) = z at *
 generalize Sm.look (tokT s ts) p = l at *
 unfold Ans at cV
 have CL := Lib.hid cL
 have CV := Lib.hid cV
 have CT := Lib.hid cT
 have HH := Lib.hid h
 have hdash : (⟨#[45]⟩ : ByteArray).toList = [45] := by rw [Lib.toList_data]
 obtain ⟨R, hR⟩ : ∃ R, R = (if (W2.toList == (⟨#[45]⟩ : ByteArray).toList) = true then (⟨#[]⟩ : ByteArray) else W2) := ⟨_, rfl⟩
 rw [← hR]
 rw [hdash] at hR
 have HR := Lib.hid (show (W2.toList = [45] → R = ⟨#[]⟩) ∧ (¬ W2.toList = [45] → R = W2) from ⟨fun h => by rw [hR, if_pos (by simpa using h)], fun h => by rw [hR, if_neg (by simpa using h)]⟩)
 clear cL cV cT h hi hR
 cases z with
 | true =>
  have ct := CT.out
  simp only [Bool.true_or] at ct
  have CT2 := Lib.hid ct
  clear ct CT hdash
  go_enter Tryz.func125, Tryz.ntmps125
  go_wp2_with fail
  refine (CL.out _ HH.out).mono ?_
  rintro e w1 ⟨rfl, hb1⟩
  have H1 := Lib.hid (And.intro (HH.out.below hb1) hb1)
  clear hb1
  go_wp2_with fail
  refine (CV.out _).mono ?_
  rintro e w2 ⟨rfl, hw2⟩
  obtain rfl := hw2.symm
  clear hw2 CV
  go_wp2_with fail
  refine (CT2.out _ H1.out.1).mono ?_
  rintro e w3 ⟨rfl, ha, hb⟩
  have H3 := Lib.hid (And.intro ha ((But.of H1.out.2).trans hb))
  clear ha hb CT2 H1 CL
  by_cases hd : W2.toList = [45]
  ·have HRR := Lib.hid (HR.out.1 hd)
   clear HR
   go_wp2_with fail
   go_ret
   exact ⟨by rw [HRR.out]; rfl, H3.out.1, H3.out.2⟩
  ·have HRR := Lib.hid (HR.out.2 hd)
   have hd2 : (W2.toList == [45]) = false := by simpa using hd
   clear HR
   go_wp2_with fail
   go_ret
   exact ⟨by rw [HRR.out]; rfl, H3.out.1, H3.out.2⟩
 | false =>
  by_cases hl : l.toList = [45]
  ·have ct := CT.out
   rw [hdash] at ct
   rw [show (l.toList == [45]) = true by simpa using hl, Bool.false_or] at ct
   have CT2 := Lib.hid ct
   clear ct CT hdash
   go_enter Tryz.func125, Tryz.ntmps125
   go_wp2_with fail
   refine (CL.out _ HH.out).mono ?_
   rintro e w1 ⟨rfl, hb1⟩
   have H1 := Lib.hid (And.intro (HH.out.below hb1) hb1)
   clear hb1
   go_wp2_with fail
   refine (CV.out _).mono ?_
   rintro e w2 ⟨rfl, hw2⟩
   obtain rfl := hw2.symm
   clear hw2 CV
   go_wp2_with fail
   refine (CL.out _ H1.out.1).mono ?_
   rintro e w1b ⟨rfl, hb1⟩
   have H1 := Lib.hid (And.intro (H1.out.1.below hb1) (H1.out.2.trans (hb1.mono H1.out.2.size)))
   clear hb1
   go_wp2_with fail
   refine (CT2.out _ H1.out.1).mono ?_
   rintro e w3 ⟨rfl, ha, hb⟩
   have H3 := Lib.hid (And.intro ha ((But.of H1.out.2).trans hb))
   clear ha hb CT2 H1 CL
   by_cases hd : W2.toList = [45]
   ·have HRR := Lib.hid (HR.out.1 hd)
    clear HR
    go_wp2_with fail
    go_ret
    exact ⟨by rw [HRR.out]; rfl, H3.out.1, H3.out.2⟩
   ·have HRR := Lib.hid (HR.out.2 hd)
    have hd2 : (W2.toList == [45]) = false := by simpa using hd
    clear HR
    go_wp2_with fail
    go_ret
    exact ⟨by rw [HRR.out]; rfl, H3.out.1, H3.out.2⟩
  ·have ct := CT.out
   rw [hdash] at ct
   rw [show (l.toList == [45]) = false by simpa using hl, Bool.false_or] at ct
   have hl2 : (l.toList == [45]) = false := by simpa using hl
   have CT2 := Lib.hid ct
   clear ct CT hdash
   go_enter Tryz.func125, Tryz.ntmps125
   go_wp2_with fail
   refine (CL.out _ HH.out).mono ?_
   rintro e w1 ⟨rfl, hb1⟩
   have H1 := Lib.hid (And.intro (HH.out.below hb1) hb1)
   clear hb1
   go_wp2_with fail
   refine (CV.out _).mono ?_
   rintro e w2 ⟨rfl, hw2⟩
   obtain rfl := hw2.symm
   clear hw2 CV
   go_wp2_with fail
   refine (CL.out _ H1.out.1).mono ?_
   rintro e w1b ⟨rfl, hb1⟩
   have H1 := Lib.hid (And.intro (H1.out.1.below hb1) (H1.out.2.trans (hb1.mono H1.out.2.size)))
   clear hb1
   go_wp2_with fail
   refine (CT2.out _ H1.out.1).mono ?_
   rintro e w3 ⟨rfl, ha, hb⟩
   have H3 := Lib.hid (And.intro ha ((But.of H1.out.2).trans hb))
   clear ha hb CT2 H1 CL
   by_cases hd : W2.toList = [45]
   ·have HRR := Lib.hid (HR.out.1 hd)
    clear HR
    go_wp2_with fail
    go_ret
    exact ⟨by rw [HRR.out]; rfl, H3.out.1, H3.out.2⟩
   ·have HRR := Lib.hid (HR.out.2 hd)
    have hd2 : (W2.toList == [45]) = false := by simpa using hd
    clear HR
    go_wp2_with fail
    go_ret
    exact ⟨by rw [HRR.out]; rfl, H3.out.1, H3.out.2⟩
end
end Go.Proofs.YtkgddcemocfgfaaGreatDoor
end

section
/- The reference's parser: word. -/


namespace Go.Proofs.YtkgddcemocfgfaaGreatDoor
open Go.RowKit
set_option linter.unusedVariables false
set_option linter.unusedSimpArgs false
set_option maxRecDepth 100000

set_option maxHeartbeats 4000000 in
theorem paWord_any (pb : Nat) (s : ByteArray) (A : Option Addr) (cap : Nat) (ts : List (Nat × Nat)) (p : Sm.PS) (W : World) (h : PaAt pb s A cap ts p W) (hi : p.i ≤ 1000000) :
  Calls Tryz.prog 122 #[.pointer (some ⟨pb, 0, none⟩)] W fun e w' => e = .returned (.int .i64 (Sm.wordV (tokT s ts) p)) ∧ Below W.heap.size W w' := by
 have cL := fun V (hV : PaAt pb s A cap ts p V) => paLook_any pb s A cap ts p V hV hi
 unfold Sm.wordV
 obtain ⟨l, hl⟩ : ∃ l, l = Sm.look (tokT s ts) p := ⟨_, rfl⟩
 simp only [← hl] at cL
 rw [← hl]
 obtain ⟨z, hz⟩ : ∃ z, z = Sm.wordOf l := ⟨_, rfl⟩
 rw [← hz]
 have h1 : ∀ k x, Sm.wordsL[k]? = some x → l.toList = x.toList → (∀ y ∈ Sm.wordsL.take k, ¬ l.toList = y.toList) → z = (k : Int) := fun k x hx hp hb => by
  rw [hz]
  exact Sm.first_at _ Sm.wordsL k x hx (by unfold Sm.eqW; simpa using hp) (fun y hy => by unfold Sm.eqW; simpa using hb y hy)
 have h2 : (∀ y ∈ Sm.wordsL, ¬ l.toList = y.toList) → z = -1 := fun hb => by
  rw [hz]
  exact Sm.first_none _ Sm.wordsL (fun y hy => by unfold Sm.eqW; simpa using hb y hy)
 have CL := Lib.hid cL
 have HH := Lib.hid h
 have HZ := Lib.hid (And.intro h1 h2)
 clear cL h hi hl hz h1 h2
 go_enter Tryz.func122, Tryz.ntmps122
 go_wp2_with fail
 refine (smWords_any _).mono ?_
 rintro e w1 ⟨g, rfl, hk, hb⟩
 have H1 := Lib.hid (And.intro hk (And.intro (HH.out.below hb) hb))
 clear hk hb
 go_wp2_with fail
 go_loopw [4] (fun i wr => ∃ k : Nat, k ≤ 9 ∧ i = .int .i64 k ∧ (∀ y ∈ Sm.wordsL.take k, ¬ l.toList = y.toList) ∧ Below w1.heap.size w1 wr) (fun i _ => 9 - (intOf i).toNat)
 case atStart => exact ⟨0, Nat.zero_le _, rfl, by simp, Below.refl _ _⟩
 case round =>
  obtain ⟨k, hk, rfl, ha, hb⟩ := hrel
  obtain ⟨wo, rfl⟩ : ∃ wo : World, wo = wr := ⟨_, rfl⟩
  by_cases hlt : k < 9
  ·have hkw : Blk wo g (Sm.wordsL.map sv) 9 := H1.out.1.below hb H1.out.1.lt
   have hpa : PaAt pb s A cap ts p wo := H1.out.2.1.below hb
   have hlen : Sm.wordsL.length = 9 := rfl
   have hx : Sm.wordsL[k]? = some (Sm.wordsL[k]'(by rw [hlen]; exact hlt)) := List.getElem?_eq_getElem _
   obtain ⟨x, hxx⟩ : ∃ x, x = Sm.wordsL[k]'(by rw [hlen]; exact hlt) := ⟨_, rfl⟩
   rw [← hxx] at hx
   have cQ : ∀ q : BelT wo.heap.size wo, q.at.cell? ⟨g, k, none⟩ = some (.string x) := fun q => (hkw.below q.out hkw.lt).cell k (sv x) (by rw [List.getElem?_map, hx]; rfl)
   have j1 : (k : Int) < 9 := by omega
   have HA := Lib.hid (And.intro ha (And.intro hx (And.intro hb hpa)))
   clear ha hx hb hpa hkw hxx hlen
   by_cases hq : l.toList = x.toList
   ·obtain rfl : z = (k : Int) := HZ.out.1 k x HA.out.2.1 hq HA.out.1
    have hq2 : (l.toList == x.toList) = true := by simpa using hq
    have HQ := Lib.hid hq
    clear hq
    go_wp2_with fail
    refine wp_region_below wo.heap.size (by kernel_rfl) (by kernel_rfl) ?_
    repeat (go_big_quiet_step (exact (CL.out _ (HA.out.2.2.2.below (BelT.out _))).mono fun e w' h => ⟨h.1, BelT.of ((BelT.out _).trans (h.2.mono (BelT.out _).size))⟩))
    refine wpQuiet_nil ?_
    intro w' hw'
    obtain ⟨q, rfl⟩ := hw'
    have HB := Lib.hid (HA.out.2.2.1.trans (q.out.mono HA.out.2.2.1.size))
    clear cQ
    have HE := Lib.hid (H1.out.2.2.trans (HB.out.mono H1.out.2.2.size))
    clear HA HB
    go_wp2_with fail
    go_ret
    exact ⟨rfl, HE.out⟩
   ·have hq2 : (l.toList == x.toList) = false := by simpa using hq
    have HQ := Lib.hid hq
    clear hq
    go_wp2_with fail
    refine wp_region_below wo.heap.size (by kernel_rfl) (by kernel_rfl) ?_
    repeat (go_big_quiet_step (exact (CL.out _ (HA.out.2.2.2.below (BelT.out _))).mono fun e w' h => ⟨h.1, BelT.of ((BelT.out _).trans (h.2.mono (BelT.out _).size))⟩))
    refine wpQuiet_nil ?_
    intro w' hw'
    obtain ⟨q, rfl⟩ := hw'
    have HB := Lib.hid (HA.out.2.2.1.trans (q.out.mono HA.out.2.2.1.size))
    clear cQ
    go_wp2_with fail
    exact ⟨⟨k + 1, by omega, by go_num, fun y hy => by
     rcases mem_take_succ HA.out.2.1 hy with h | rfl
     ·exact HA.out.1 y h
     ·exact HQ.out, HB.out⟩, by simp [intOf]; omega⟩
  ·obtain rfl : k = 9 := by omega
   obtain rfl : z = -1 := HZ.out.2 (by have h := ha; rwa [show Sm.wordsL.take 9 = Sm.wordsL from rfl] at h)
   have HE := Lib.hid (H1.out.2.2.trans (hb.mono H1.out.2.2.size))
   clear ha hb
   go_wp2_with fail
   go_ret
   exact ⟨rfl, HE.out⟩
end Go.Proofs.YtkgddcemocfgfaaGreatDoor
end

section
/- The reference's parser: a field under way. -/



namespace Go.Proofs.YtkgddcemocfgfaaGreatDoor
open Go.RowKit
set_option linter.unusedVariables false
set_option linter.unusedSimpArgs false
set_option maxRecDepth 100000

namespace Sm
theorem takeP_i (T : List ByteArray) (r : Bool) (p : PS) : (takeP T r p).i ≤ p.i + 1 ∧ p.i ≤ (takeP T r p).i := by
 unfold takeP; split
 ·exact ⟨Nat.le_refl _, Nat.le_succ _⟩
 ·exact ⟨Nat.le_succ _, Nat.le_refl _⟩
theorem nameP_i (T : List ByteArray) (p : PS) : (nameP T p).i ≤ p.i + 1 := (takeP_i T _ p).1
theorem namesP_i (T : List ByteArray) (p : PS) : (namesP T p).i ≤ p.i + 1 := (takeP_i T _ p).1
theorem numP_i (T : List ByteArray) (p : PS) : (numP T p).i ≤ p.i + 1 := (takeP_i T _ p).1
theorem cntP_i (T : List ByteArray) (p : PS) : (cntP T p).i ≤ p.i + 1 := (takeP_i T _ p).1
end Sm
theorem But.other {b : Nat} {w w' : World} (h : But b w w') (a : Addr) (v : Value) (ha : w.heap.size ≤ a.block) : But b w (w'.setCell a v) :=
 ⟨h.os, h.tape, h.output, by rw [size_setCell]; exact h.size, fun k hk hb => (heap_setCell_other w' a k v (by omega)).trans (h.block k hk hb)⟩
theorem PaAt.set {pb : Nat} {s : ByteArray} {A : Option Addr} {cap : Nat} {ts : List (Nat × Nat)} {p : Sm.PS} {W : World} (h : PaAt pb s A cap ts p W) (a : Addr) (v : Value) (ha : pb < a.block) : PaAt pb s A cap ts p (W.setCell a v) :=
 ⟨h.blk.other a v (by omega), h.rd.keep fun q hq => World.cell?_setCell_other _ _ _ _ (fun x => by rw [← x] at hq; omega), h.ok, h.sz⟩
theorem PaAt.alloc {pb : Nat} {s : ByteArray} {A : Option Addr} {cap : Nat} {ts : List (Nat × Nat)} {p : Sm.PS} {W : World} (h : PaAt pb s A cap ts p W) (o : Obj) : PaAt pb s A cap ts p (W.alloc o) :=
 h.below ((Below.refl _ _).alloc (Nat.le_refl _) _)
theorem PaAt.step {pb : Nat} {s : ByteArray} {A : Option Addr} {cap : Nat} {ts : List (Nat × Nat)} {p : Sm.PS} {W : World} (h : PaAt pb s A cap ts p W) : PaAt pb s A cap ts ⟨p.i + 1, p.f⟩ (W.setCell ⟨pb, 2, none⟩ (.int .i64 ((p.i : Int) + 1))) :=
 ⟨by have := h.blk.set 2 (.int .i64 ((p.i : Int) + 1)); rwa [show (p.i : Int) + 1 = ((p.i + 1 : Nat) : Int) by omega] at this ⊢,
  h.rd.keep fun q hq => World.cell?_setCell_other _ _ _ _ (fun x => by rw [← x] at hq; exact absurd hq (Nat.lt_irrefl _)), h.ok, h.sz⟩

/-- The cells of the zero field; of a field without words. -/
def fdZ : List Value := [.string ⟨#[]⟩, .string ⟨#[]⟩, .string ⟨#[]⟩, .int .i64 0, .int .i64 0, .int .i64 0, .slice none 0 0, .slice none 0 0]
def fdCs (name of up : ByteArray) (k lo hi : Int) (vw vg : Value) : List Value := [.string name, .string of, .string up, .int .i64 k, .int .i64 lo, .int .i64 hi, vw, vg]
/-- The parser in field: its variable, the field's, the result's. -/
structure FdSt (pb : Nat) (s : ByteArray) (A : Option Addr) (cap : Nat) (ts : List (Nat × Nat)) (W : World) (rb fb : Nat) (p : Sm.PS) (cs : List Value) (w : World) : Prop where
 pa : PaAt pb s A cap ts p w
 but : But pb W w
 fld : Blk w fb cs 74
 res : Blk w rb fdZ 74
 news : pb < W.heap.size ∧ W.heap.size ≤ rb ∧ rb < fb
section
variable {pb : Nat} {s : ByteArray} {A : Option Addr} {cap : Nat} {ts : List (Nat × Nat)} {W : World} {rb fb : Nat} {p p' : Sm.PS} {cs : List Value} {w w' : World}
theorem FdSt.call (h : FdSt pb s A cap ts W rb fb p cs w) (ha : PaAt pb s A cap ts p' w') (hb : But pb w w') : FdSt pb s A cap ts W rb fb p' cs w' :=
 ⟨ha, h.but.trans hb, h.fld.but hb (by have := h.news; omega), h.res.but hb (by have := h.news; omega), h.news⟩
theorem FdSt.set (h : FdSt pb s A cap ts W rb fb p cs w) (j : Nat) (v : Value) : FdSt pb s A cap ts W rb fb p (cs.set j v) (w.setCell ⟨fb, j, none⟩ v) :=
 ⟨h.pa.set _ _ (by have := h.news; show pb < fb; omega), h.but.other _ _ (by have := h.news; show W.heap.size ≤ fb; omega), h.fld.set j v, h.res.other _ _ (by have := h.news; show rb ≠ fb; omega), h.news⟩
theorem FdSt.step (h : FdSt pb s A cap ts W rb fb p cs w) : FdSt pb s A cap ts W rb fb ⟨p.i + 1, p.f⟩ cs (w.setCell ⟨pb, 2, none⟩ (.int .i64 ((p.i : Int) + 1))) :=
 ⟨h.pa.step, h.but.setCell _ _ rfl, h.fld.other _ _ (by have := h.news; show fb ≠ pb; omega), h.res.other _ _ (by have := h.news; show rb ≠ pb; omega), h.news⟩
end
/-- The blocks made between two worlds. -/
def Fresh (W w : World) (k : Nat) : Prop := W.heap.size ≤ k ∧ k < w.heap.size
/-- What field answers. -/
def FdA (pb : Nat) (s : ByteArray) (A : Option Addr) (cap : Nat) (ts : List (Nat × Nat)) (f : Sm.Fd) (p : Sm.PS) (W : World) (e : Ending) (w' : World) : Prop :=
 ∃ c, e = .returned (.agg c.toArray) ∧ FdS (Fresh W w') w' f c ∧ PaAt pb s A cap ts p w' ∧ But pb W w'

/-- The field laid into the result. -/
def put8 (w : World) (b : Nat) (a0 a1 a2 a3 a4 a5 a6 a7 : Value) : World :=
 (((((((w.setCell ⟨b, 0, none⟩ a0).setCell ⟨b, 1, none⟩ a1).setCell ⟨b, 2, none⟩ a2).setCell ⟨b, 3, none⟩ a3).setCell ⟨b, 4, none⟩ a4).setCell ⟨b, 5, none⟩ a5).setCell ⟨b, 6, none⟩ a6).setCell ⟨b, 7, none⟩ a7
theorem put8_end {pb : Nat} {s : ByteArray} {A : Option Addr} {cap : Nat} {ts : List (Nat × Nat)} {W : World} {rb fb : Nat} {p : Sm.PS} {cs : List Value} {w : World} (h : FdSt pb s A cap ts W rb fb p cs w) (a0 a1 a2 a3 a4 a5 a6 a7 : Value) :
  Blk (put8 w rb a0 a1 a2 a3 a4 a5 a6 a7) rb [a0, a1, a2, a3, a4, a5, a6, a7] 74 ∧ PaAt pb s A cap ts p (put8 w rb a0 a1 a2 a3 a4 a5 a6 a7) ∧ But pb W (put8 w rb a0 a1 a2 a3 a4 a5 a6 a7) ∧ (∀ k, k ≠ rb → k < w.heap.size → (put8 w rb a0 a1 a2 a3 a4 a5 a6 a7).heap[k]? = w.heap[k]?) ∧ (put8 w rb a0 a1 a2 a3 a4 a5 a6 a7).heap.size = w.heap.size := by
 have h1 := h.news
 have hp : ∀ j : Nat, pb < (⟨rb, j, none⟩ : Addr).block := fun j => by show pb < rb; omega
 have hb : ∀ j : Nat, W.heap.size ≤ (⟨rb, j, none⟩ : Addr).block := fun j => by show W.heap.size ≤ rb; omega
 refine ⟨?_, ?_, ?_, ?_, ?_⟩
 ·exact (((((((h.res.set 0 a0).set 1 a1).set 2 a2).set 3 a3).set 4 a4).set 5 a5).set 6 a6).set 7 a7
 ·exact (((((((h.pa.set _ _ (hp 0)).set _ _ (hp 1)).set _ _ (hp 2)).set _ _ (hp 3)).set _ _ (hp 4)).set _ _ (hp 5)).set _ _ (hp 6)).set _ _ (hp 7)
 ·exact (((((((h.but.other _ _ (hb 0)).other _ _ (hb 1)).other _ _ (hb 2)).other _ _ (hb 3)).other _ _ (hb 4)).other _ _ (hb 5)).other _ _ (hb 6)).other _ _ (hb 7)
 ·intro k hk _
  unfold put8
  rw [heap_setCell_other _ ⟨rb, 7, none⟩ k _ hk, heap_setCell_other _ ⟨rb, 6, none⟩ k _ hk, heap_setCell_other _ ⟨rb, 5, none⟩ k _ hk, heap_setCell_other _ ⟨rb, 4, none⟩ k _ hk, heap_setCell_other _ ⟨rb, 3, none⟩ k _ hk, heap_setCell_other _ ⟨rb, 2, none⟩ k _ hk, heap_setCell_other _ ⟨rb, 1, none⟩ k _ hk, heap_setCell_other _ ⟨rb, 0, none⟩ k _ hk]
 ·unfold put8
  simp only [size_setCell]
theorem cells8 {W : World} {b : Nat} {a0 a1 a2 a3 a4 a5 a6 a7 : Value} {t : TypeId} (h : Blk W b [a0, a1, a2, a3, a4, a5, a6, a7] t) : W.cell? ⟨b, 0, none⟩ = some a0 ∧ W.cell? ⟨b, 1, none⟩ = some a1 ∧ W.cell? ⟨b, 2, none⟩ = some a2 ∧ W.cell? ⟨b, 3, none⟩ = some a3 ∧ W.cell? ⟨b, 4, none⟩ = some a4 ∧ W.cell? ⟨b, 5, none⟩ = some a5 ∧ W.cell? ⟨b, 6, none⟩ = some a6 ∧ W.cell? ⟨b, 7, none⟩ = some a7 :=
 ⟨h.cell 0 _ rfl, h.cell 1 _ rfl, h.cell 2 _ rfl, h.cell 3 _ rfl, h.cell 4 _ rfl, h.cell 5 _ rfl, h.cell 6 _ rfl, h.cell 7 _ rfl⟩
theorem cells8z {W : World} {b : Nat} {t : TypeId} (h : Blk W b fdZ t) : W.cell? ⟨b, 0, none⟩ = some (.string ⟨#[]⟩) ∧ W.cell? ⟨b, 1, none⟩ = some (.string ⟨#[]⟩) ∧ W.cell? ⟨b, 2, none⟩ = some (.string ⟨#[]⟩) ∧ W.cell? ⟨b, 3, none⟩ = some (.int .i64 0) ∧ W.cell? ⟨b, 4, none⟩ = some (.int .i64 0) ∧ W.cell? ⟨b, 5, none⟩ = some (.int .i64 0) ∧ W.cell? ⟨b, 6, none⟩ = some (.slice none 0 0) ∧ W.cell? ⟨b, 7, none⟩ = some (.slice none 0 0) := cells8 h
theorem frozen8 {W : World} {b : Nat} {vs : List Value} {t : TypeId} (h : Blk W b vs t) : W.frozen? ⟨b, 0, none⟩ = false ∧ W.frozen? ⟨b, 1, none⟩ = false ∧ W.frozen? ⟨b, 2, none⟩ = false ∧ W.frozen? ⟨b, 3, none⟩ = false ∧ W.frozen? ⟨b, 4, none⟩ = false ∧ W.frozen? ⟨b, 5, none⟩ = false ∧ W.frozen? ⟨b, 6, none⟩ = false ∧ W.frozen? ⟨b, 7, none⟩ = false :=
 ⟨h.frozen 0, h.frozen 1, h.frozen 2, h.frozen 3, h.frozen 4, h.frozen 5, h.frozen 6, h.frozen 7⟩
end Go.Proofs.YtkgddcemocfgfaaGreatDoor
end

