import Derived.Test.YtkgddcemocfgfaaGreatDoorJZSmGb
import Derived.Test.YtkgddcemocfgfaaGreatDoorJZSmGd
import Derived.Test.YtkgddcemocfgfaaGreatDoorJZSmGp

section
/- The program's reader: take, and what is read by it. -/


namespace Go.Proofs.YtkgddcemocfgfaaGreatDoor
open Go.RowKit
set_option linter.unusedVariables false
set_option linter.unusedSimpArgs false
set_option maxRecDepth 100000

/-- A reader's call: what it answers; how the reader stands then. -/
def Rds (rb : Nat) (s : ByteArray) (ts : List (Nat × Nat)) (stop : Nat) (v : Value) (p : Sm.PS) (W : World) (e : Ending) (w' : World) : Prop :=
 e = .returned v ∧ RdAt rb s ts stop p w' ∧ But rb W w'
section
variable {rb : Nat} {s : ByteArray} {ts : List (Nat × Nat)} {stop : Nat} {p : Sm.PS} {W : World}
/-- A reader that fails. -/
theorem RdAt.fail (h : RdAt rb s ts stop p W) : RdAt rb s ts stop ⟨p.i, true⟩ ((W.setCell ⟨rb, 2, none⟩ (.string Sm.nil)).setCell ⟨rb, 3, none⟩ (.bool true)) :=
 ⟨by rw [look_out (.inl rfl)]; exact (h.blk.set 2 (.string Sm.nil)).set 3 (.bool true), h.chain, h.sz, h.le⟩
end
set_option maxHeartbeats 4000000 in
theorem gTake_any (rb : Nat) (s : ByteArray) (ts : List (Nat × Nat)) (stop : Nat) (p : Sm.PS) (W : World) (h : RdAt rb s ts stop p W) (G : FuncId) (hcf : ∀ (args : Array Value) (V : World), (callFunc G args).run Tryz.prog V = .ok (.enter G args) V) (r : Bool)
  (hG : ∀ V, Below W.heap.size W V → Calls Tryz.prog G #[.string (Sm.look (tokT s ts) p)] V fun e w' => e = .returned (.bool r) ∧ Below V.heap.size V w') :
  Calls Tryz.prog 110 #[.pointer (some ⟨rb, 0, none⟩), .func (.func G) #[] #[]] W (Rds rb s ts stop (.string (Sm.takeW (tokT s ts) r p)) (Sm.takeP (tokT s ts) r p) W) := by
 have cN := fun V hV => gNext_at rb s ts stop p V hV
 have c2 := h.blk.cell 2 _ rfl
 obtain ⟨lw, hlw⟩ : ∃ w, w = Sm.look (tokT s ts) p := ⟨_, rfl⟩
 have hW : Sm.takeW (tokT s ts) r p = if r = true then lw else ⟨#[]⟩ := by unfold Sm.takeW; rw [← hlw]; rfl
 have hP : Sm.takeP (tokT s ts) r p = if r = true ∧ lw.size ≠ 0 then ⟨p.i + 1, p.f⟩ else ⟨p.i, true⟩ := by unfold Sm.takeP; rw [← hlw]
 rw [hW, hP]
 rw [← hlw] at c2 cN hG
 have CN := Lib.hid cN
 have HH := Lib.hid h
 have HG := Lib.hid hG
 have HCF := Lib.hid hcf
 clear cN h hlw hW hP hG hcf
 by_cases hn : lw.size = 0
 ·have e0 : lw = ⟨#[]⟩ := by
   apply ByteArray.ext
   exact Array.eq_empty_of_size_eq_zero hn
  rw [show (if r = true then lw else ⟨#[]⟩) = (⟨#[]⟩ : ByteArray) by rw [e0]; split <;> rfl, if_neg (show ¬ (r = true ∧ lw.size ≠ 0) from fun x => x.2 hn)]
  subst e0
  have f2 := HH.out.blk.frozen 2
  have f3 := HH.out.blk.frozen 3
  have c3 := HH.out.blk.cell 3 _ rfl
  clear hn CN HG HCF
  go_enter Tryz.func110, Tryz.ntmps110
  go_wp2_with fail
  go_ret
  exact ⟨rfl, HH.out.fail, ((But.refl rb W).setCell _ _ rfl).setCell _ _ rfl⟩
 ·have hne : ¬ lw.toList = [] := fun x => hn ((empty_list lw).1 x)
  have hne2 : (lw.toList == []) = false := by simpa using hne
  have hne3 : (!lw.toList.isEmpty) = true := by simpa using hne
  have HN := Lib.hid hn
  have hc0 := HCF.out #[.string lw] W
  obtain ⟨aw, haw⟩ : ∃ a, a = (if r = true then lw else ⟨#[]⟩) := ⟨_, rfl⟩
  obtain ⟨ap, hap⟩ : ∃ a, a = (if r = true ∧ lw.size ≠ 0 then (⟨p.i + 1, p.f⟩ : Sm.PS) else ⟨p.i, true⟩) := ⟨_, rfl⟩
  rw [← haw, ← hap]
  have HA := Lib.hid (And.intro haw hap)
  clear hn haw hap
  go_enter Tryz.func110, Tryz.ntmps110
  go_wp2_with fail
  refine (HG.out _ (Below.refl _ _)).mono ?_
  rintro e w1 ⟨rfl, hb⟩
  have HB := Lib.hid (And.intro (HH.out.below hb) (But.of (b := rb) hb))
  clear hb c2 hc0 HG
  cases r with
  | true =>
   have ha1 : aw = lw := by rw [HA.out.1, if_pos rfl]
   have ha2 : ap = ⟨p.i + 1, p.f⟩ := by rw [HA.out.2, if_pos ⟨rfl, HN.out⟩]
   have HQ := Lib.hid (And.intro ha1 ha2)
   clear ha1 ha2
   go_wp2_with fail
   refine (CN.out _ HB.out.1 HN.out).mono ?_
   rintro e w2 ⟨rfl, ha, hb⟩
   have H2 := Lib.hid (And.intro ha (HB.out.2.trans hb))
   clear ha hb CN
   go_wp2_with fail
   go_ret
   exact ⟨by rw [HQ.out.1]; rfl, by rw [HQ.out.2]; exact H2.out.1, H2.out.2⟩
  | false =>
   have ha1 : aw = ⟨#[]⟩ := by rw [HA.out.1, if_neg (by decide)]
   have ha2 : ap = ⟨p.i, true⟩ := by rw [HA.out.2, if_neg (fun x => absurd x.1 (by decide))]
   have HQ := Lib.hid (And.intro ha1 ha2)
   clear ha1 ha2
   have c2 := HB.out.1.blk.cell 2 _ rfl
   have c3 := HB.out.1.blk.cell 3 _ rfl
   have f2 := HB.out.1.blk.frozen 2
   have f3 := HB.out.1.blk.frozen 3
   clear CN
   go_wp2_with fail
   go_ret
   exact ⟨by rw [HQ.out.1]; rfl, by rw [HQ.out.2]; exact HB.out.1.fail, (HB.out.2.setCell _ _ rfl).setCell _ _ rfl⟩

section
variable (rb : Nat) (s : ByteArray) (ts : List (Nat × Nat)) (stop : Nat) (p : Sm.PS) (W : World) (h : RdAt rb s ts stop p W)
theorem look_le {s : ByteArray} {ts : List (Nat × Nat)} (p : Sm.PS) : (Sm.look (tokT s ts) p).size ≤ s.size := by
 by_cases hn : (Sm.look (tokT s ts) p).size = 0
 ·omega
 ·obtain ⟨hf, hlt⟩ := look_some hn
  rw [look_at hf _ (List.getElem?_eq_getElem hlt), ByteArray.size_extract]
  omega
include h
set_option maxHeartbeats 2000000 in
theorem gName_any : Calls Tryz.prog 156 #[.pointer (some ⟨rb, 0, none⟩)] W (Rds rb s ts stop (.string (Sm.nameW (tokT s ts) p)) (Sm.nameP (tokT s ts) p) W) := by
 have cT := gTake_any rb s ts stop p W h 134 (fun _ _ => rfl) (Sm.isName (Sm.look (tokT s ts) p)) fun V _ => (gIsName_any _ V).mono fun e w' h => ⟨h.1, by rw [h.2]; exact Below.refl _ _⟩
 have e1 : Sm.takeW (tokT s ts) (Sm.isName (Sm.look (tokT s ts) p)) p = Sm.nameW (tokT s ts) p := rfl
 have e2 : Sm.takeP (tokT s ts) (Sm.isName (Sm.look (tokT s ts) p)) p = Sm.nameP (tokT s ts) p := rfl
 rw [e1, e2] at cT
 obtain ⟨nw, hnw⟩ : ∃ n, n = Sm.nameW (tokT s ts) p := ⟨_, rfl⟩
 obtain ⟨np, hnp⟩ : ∃ n, n = Sm.nameP (tokT s ts) p := ⟨_, rfl⟩
 rw [← hnw, ← hnp] at cT ⊢
 have CT := Lib.hid cT
 clear cT e1 e2 hnw hnp h
 go_enter Tryz.func156, Tryz.ntmps156
 go_wp2_with fail
 refine CT.out.mono ?_
 rintro e w1 ⟨rfl, ha, hb⟩
 have H1 := Lib.hid (And.intro ha hb)
 clear ha hb
 go_wp2_with fail
 go_ret
 exact ⟨rfl, H1.out.1, H1.out.2⟩
end
end Go.Proofs.YtkgddcemocfgfaaGreatDoor
end

section
/- The program's reader: numbers, counts, names that may be empty. -/

namespace Go.Proofs.YtkgddcemocfgfaaGreatDoor
open Go.RowKit
set_option linter.unusedVariables false
set_option linter.unusedSimpArgs false
set_option maxRecDepth 100000

namespace Sm
theorem take_cases (T : List ByteArray) (r : Bool) (p : PS) : (r = true ∧ (look T p).size ≠ 0 ∧ takeW T r p = look T p ∧ (takeP T r p).f = p.f) ∨ (takeW T r p = nil ∧ (takeP T r p).f = true) := by
 unfold takeW takeP
 by_cases h : r = true ∧ (look T p).size ≠ 0
 ·rw [if_pos h, if_pos h.1]
  exact .inl ⟨h.1, h.2, rfl, rfl⟩
 ·rw [if_neg h]
  refine .inr ⟨?_, rfl⟩
  by_cases hr : r = true
  ·rw [if_pos hr]
   have h0 : (look T p).size = 0 := Decidable.byContradiction fun x => h ⟨hr, x⟩
   apply ByteArray.ext
   exact Array.eq_empty_of_size_eq_zero h0
  ·rw [if_neg hr]
/-- The numbers that the program reads. -/
def numG (T : List ByteArray) (p : PS) : Int := if (numP T p).f = true then 0 else numV T p
def cntG (T : List ByteArray) (p : PS) : Int := if (cntP T p).f = true then 0 else numV T p
/-- A name that a field has or not. -/
def useW (T : List ByteArray) (u : Int) (p : PS) : ByteArray := if u = 1 then nameW T p else if u = 2 then namesW T p else nil
def useP (T : List ByteArray) (u : Int) (p : PS) : PS := if u = 1 then nameP T p else if u = 2 then namesP T p else p
theorem names_dash {T : List ByteArray} {p : PS} (h : eqW (look T p) dash = true) : namesW T p = nil ∧ namesP T p = ⟨p.i + 1, p.f⟩ := by
 have hl : (look T p).toList = dash.toList := by unfold eqW at h; simpa using h
 have hn : (look T p).size ≠ 0 := fun x => by
  have := (empty_list _).2 x
  rw [hl] at this
  exact absurd ((empty_list dash).1 this) (by decide)
 unfold namesW namesP namesR takeW takeP
 rw [h, Bool.or_true, if_pos rfl, h, if_pos rfl, if_pos ⟨rfl, hn⟩]
 exact ⟨rfl, rfl⟩
theorem names_name {T : List ByteArray} {p : PS} (h : eqW (look T p) dash = false) : namesW T p = nameW T p ∧ namesP T p = nameP T p := by
 unfold namesW namesP namesR nameW nameP
 rw [h, Bool.or_false]
 refine ⟨?_, rfl⟩
 rw [if_neg]
 unfold takeW
 split
 ·rw [h]; decide
 ·unfold eqW
  rw [Lib.toList_data, Lib.toList_data]
  decide
end Sm
section
variable (rb : Nat) (s : ByteArray) (ts : List (Nat × Nat)) (stop : Nat) (p : Sm.PS) (W : World) (h : RdAt rb s ts stop p W)
include h
set_option maxHeartbeats 2000000 in
theorem gNumber_any (hE : ESyn W) (hg : 5 < rb) : Calls Tryz.prog 112 #[.pointer (some ⟨rb, 0, none⟩)] W (Rds rb s ts stop (.int .i64 (Sm.numG (tokT s ts) p)) (Sm.numP (tokT s ts) p) W) := by
 have hl8 := look_le (s := s) (ts := ts) p
 have hs8 := h.sz
 have cT := gTake_any rb s ts stop p W h 154 (fun _ _ => rfl) (Sm.valW (sb (Sm.look (tokT s ts) p))).2 fun V _ => (gIsNumber_any _ V (by omega)).mono fun e w' h => ⟨h.1, by rw [h.2]; exact Below.refl _ _⟩
 have e2 : Sm.takeP (tokT s ts) (Sm.valW (sb (Sm.look (tokT s ts) p))).2 p = Sm.numP (tokT s ts) p := rfl
 have hcs := Sm.take_cases (tokT s ts) (Sm.valW (sb (Sm.look (tokT s ts) p))).2 p
 rw [e2] at cT hcs
 obtain ⟨tw, htw⟩ : ∃ n, n = Sm.takeW (tokT s ts) (Sm.valW (sb (Sm.look (tokT s ts) p))).2 p := ⟨_, rfl⟩
 obtain ⟨vg, hvg⟩ : ∃ n, n = Sm.numG (tokT s ts) p := ⟨_, rfl⟩
 have cV : ∀ V, Below rb W V ∨ But rb W V → Calls Tryz.prog 153 #[.string tw] V fun e w' => e = .returned (.int .i64 vg) ∧ Below V.heap.size V w' := by
  intro V hV
  refine gValueOf_any tw V vg ?_
  rcases hcs with ⟨h1, h2, h3, h4⟩ | ⟨h1, h2⟩
  ·refine .inr ⟨by rw [htw, h3]; omega, by rw [htw, h3]; exact h1, ?_⟩
   have hf := (look_some h2).1
   rw [hvg, htw, h3]
   unfold Sm.numG
   rw [h4, hf, if_neg (by decide)]
   rfl
  ·refine .inl ⟨by rw [htw, h1]; rfl, by rw [hvg]; unfold Sm.numG; rw [if_pos h2], ?_⟩
   rcases hV with hV | hV
   ·exact hE.below hV hg
   ·exact hE.below (hV.below (Nat.le_refl _) (Nat.le_of_lt h.blk.lt)) hg
 obtain ⟨np, hnp⟩ : ∃ n, n = Sm.numP (tokT s ts) p := ⟨_, rfl⟩
 rw [← hvg, ← hnp]
 rw [← htw, ← hnp] at cT
 have CT := Lib.hid cT
 have CV := Lib.hid cV
 clear cT cV e2 hcs htw hvg hnp h hl8 hs8 hE hg
 go_enter Tryz.func112, Tryz.ntmps112
 go_wp2_with fail
 refine CT.out.mono ?_
 rintro e w1 ⟨rfl, ha, hb⟩
 have H1 := Lib.hid (And.intro ha hb)
 clear ha hb CT
 go_wp2_with fail
 refine (CV.out _ (.inr H1.out.2)).mono ?_
 rintro e w2 ⟨rfl, hb⟩
 have H2 := Lib.hid (And.intro (H1.out.1.below hb) (H1.out.2.trans (But.of hb)))
 clear hb CV
 go_wp2_with fail
 go_ret
 exact ⟨rfl, H2.out.1, H2.out.2⟩
set_option maxHeartbeats 2000000 in
theorem gNames_any : Calls Tryz.prog 162 #[.pointer (some ⟨rb, 0, none⟩)] W (Rds rb s ts stop (.string (Sm.namesW (tokT s ts) p)) (Sm.namesP (tokT s ts) p) W) := by
 have cS := gStarts_any rb s ts stop p W h Sm.dash (by decide)
 have cN := fun V hV => gName_any rb s ts stop p V hV
 have hd := Sm.names_dash (T := tokT s ts) (p := p)
 have hn := Sm.names_name (T := tokT s ts) (p := p)
 obtain ⟨q, hq⟩ : ∃ q, q = Sm.eqW (Sm.look (tokT s ts) p) Sm.dash := ⟨_, rfl⟩
 rw [← hq] at cS hd hn
 obtain ⟨nw, hnw⟩ : ∃ n, n = Sm.namesW (tokT s ts) p := ⟨_, rfl⟩
 obtain ⟨np, hnp⟩ : ∃ n, n = Sm.namesP (tokT s ts) p := ⟨_, rfl⟩
 rw [← hnw, ← hnp] at hd hn ⊢
 unfold Sm.dash at cS
 have CS := Lib.hid cS
 have CN := Lib.hid cN
 have HD := Lib.hid (And.intro hd hn)
 clear cS cN hd hn hq hnw hnp h
 go_enter Tryz.func162, Tryz.ntmps162
 go_wp2_with fail
 refine CS.out.mono ?_
 rintro e w1 ⟨rfl, ha, hb⟩
 have H1 := Lib.hid (And.intro ha hb)
 clear ha hb CS
 cases q with
 | true =>
  go_wp2_with fail
  go_ret
  exact ⟨by rw [(HD.out.1 (by first | rfl | trivial)).1]; rfl, by rw [(HD.out.1 (by first | rfl | trivial)).2]; exact H1.out.1, H1.out.2⟩
 | false =>
  go_wp2_with fail
  refine (CN.out _ H1.out.1).mono ?_
  rintro e w2 ⟨rfl, ha, hb⟩
  have H2 := Lib.hid (And.intro ha (H1.out.2.trans hb))
  clear ha hb CN
  go_wp2_with fail
  go_ret
  exact ⟨by rw [(HD.out.2 (by first | rfl | trivial)).1]; rfl, by rw [(HD.out.2 (by first | rfl | trivial)).2]; exact H2.out.1, H2.out.2⟩
set_option maxHeartbeats 2000000 in
theorem gNameFor_any (u : Int) : Calls Tryz.prog 204 #[.pointer (some ⟨rb, 0, none⟩), .int .i64 u] W (Rds rb s ts stop (.string (Sm.useW (tokT s ts) u p)) (Sm.useP (tokT s ts) u p) W) := by
 have cA := gName_any rb s ts stop p W h
 have cB := gNames_any rb s ts stop p W h
 have e0 : ∀ x : u = 1, Sm.useW (tokT s ts) u p = Sm.nameW (tokT s ts) p ∧ Sm.useP (tokT s ts) u p = Sm.nameP (tokT s ts) p := fun x => by unfold Sm.useW Sm.useP; rw [if_pos x, if_pos x]; exact ⟨rfl, rfl⟩
 have e1 : ¬ u = 1 → u = 2 → Sm.useW (tokT s ts) u p = Sm.namesW (tokT s ts) p ∧ Sm.useP (tokT s ts) u p = Sm.namesP (tokT s ts) p := fun x y => by unfold Sm.useW Sm.useP; rw [if_neg x, if_neg x, if_pos y, if_pos y]; exact ⟨rfl, rfl⟩
 have e2 : ¬ u = 1 → ¬ u = 2 → Sm.useW (tokT s ts) u p = ⟨#[]⟩ ∧ Sm.useP (tokT s ts) u p = p := fun x y => by unfold Sm.useW Sm.useP; rw [if_neg x, if_neg x, if_neg y, if_neg y]; exact ⟨rfl, rfl⟩
 obtain ⟨uw, huw⟩ : ∃ n, n = Sm.useW (tokT s ts) u p := ⟨_, rfl⟩
 obtain ⟨up, hup⟩ : ∃ n, n = Sm.useP (tokT s ts) u p := ⟨_, rfl⟩
 rw [← huw, ← hup] at e0 e1 e2 ⊢
 have CA := Lib.hid cA
 have CB := Lib.hid cB
 have HE := Lib.hid (And.intro e0 (And.intro e1 e2))
 have HH := Lib.hid h
 clear cA cB e0 e1 e2 huw hup h
 by_cases h1 : u = 1
 ·go_enter Tryz.func204, Tryz.ntmps204
  go_wp2_with fail
  refine CA.out.mono ?_
  rintro e w2 ⟨rfl, ha, hb⟩
  have H2 := Lib.hid (And.intro ha hb)
  clear ha hb
  go_wp2_with fail
  go_ret
  exact ⟨by rw [(HE.out.1 h1).1]; rfl, by rw [(HE.out.1 h1).2]; exact H2.out.1, H2.out.2⟩
 ·by_cases h2 : u = 2
  ·have h1b : (u == 1) = false := by simpa using h1
   go_enter Tryz.func204, Tryz.ntmps204
   go_wp2_with fail
   refine CB.out.mono ?_
   rintro e w2 ⟨rfl, ha, hb⟩
   have H2 := Lib.hid (And.intro ha hb)
   clear ha hb
   go_wp2_with fail
   go_ret
   exact ⟨by rw [(HE.out.2.1 h1 h2).1]; rfl, by rw [(HE.out.2.1 h1 h2).2]; exact H2.out.1, H2.out.2⟩
  ·have h1b : (u == 1) = false := by simpa using h1
   have h2b : (u == 2) = false := by simpa using h2
   go_enter Tryz.func204, Tryz.ntmps204
   go_wp2_with fail
   go_ret
   exact ⟨by rw [(HE.out.2.2 h1 h2).1]; rfl, by rw [(HE.out.2.2 h1 h2).2]; exact HH.out, But.refl _ _⟩
end
end Go.Proofs.YtkgddcemocfgfaaGreatDoor
end

section
/- The program's table of the kinds of fields; counts. -/

namespace Go.Proofs.YtkgddcemocfgfaaGreatDoor
open Go.RowKit
set_option linter.unusedVariables false
set_option linter.unusedSimpArgs false
set_option maxRecDepth 100000

/-- A row of the table: how fields of a kind are written, and what is valid in them. -/
structure Shp where
 word : ByteArray
 up : Int
 of : Int
 numbers : Int
 least : Int
 most : Int
 words : Bool
def shpL : List Shp := [⟨⟨#[107, 101, 121]⟩, 0, 0, 1, -1048576, 1048576, false⟩, ⟨⟨#[114, 101, 102]⟩, 0, 1, 2, 0, 65536, false⟩, ⟨⟨#[110, 117, 109]⟩, 0, 0, 2, -1048576, 1048576, false⟩, ⟨⟨#[112, 105, 99, 107]⟩, 0, 0, 0, 0, 0, true⟩, ⟨⟨#[100, 97, 121]⟩, 0, 2, 2, -1048576, 1048576, false⟩, ⟨⟨#[115, 116, 101, 112]⟩, 0, 1, 2, 0, 32, false⟩, ⟨⟨#[115, 117, 109]⟩, 0, 1, 0, 0, 0, false⟩, ⟨⟨#[115, 104, 97, 114, 101]⟩, 1, 1, 2, 0, 1048576, false⟩, ⟨⟨#[99, 111, 112, 121]⟩, 1, 1, 0, 0, 0, false⟩]
def Shp.cells (x : Shp) : List Value := [.string x.word, .int .i64 x.up, .int .i64 x.of, .int .i64 x.numbers, .int .i64 x.least, .int .i64 x.most, .bool x.words]
def shpAll : List Value := shpL.flatMap Shp.cells
/-- What the package and the library read of variables. -/
structure SDoor (w : World) : Prop where
 pow : Lib.TabIs Tryz.prog w "internal/strconv.uint64pow10" .u64 Lib.pow10Tab
 syn : ESyn w
 shapes : w.var? Tryz.prog "diorama/schema.shapes" = some shpAll.toArray
theorem gPow : Tryz.prog.globalNamed "internal/strconv.uint64pow10" = some 4 := by kernel_rfl
theorem gShapes : Tryz.prog.globalNamed "diorama/schema.shapes" = some 0 := by kernel_rfl
/-- A bound of the blocks of those variables. -/
def doorB : Nat := max 4 (max 5 0) + 1
theorem SDoor.below {w w' : World} {B : Nat} (h : SDoor w) (hb : Below B w w') (hB : doorB ≤ B) : SDoor w' := by
 unfold doorB at hB
 exact ⟨gvar_below gPow h.pow hb (by omega), h.syn.below hb (by omega), gvar_below gShapes h.shapes hb (by omega)⟩
theorem SDoor.row {w : World} (h : SDoor w) : ∃ t fr, w.heap[0]? = some (.cells shpAll.toArray t fr) := by
 have := h.shapes
 unfold World.var? at this
 rw [gShapes] at this
 simp only [Option.bind_some] at this
 split at this
 ·rename_i cs t fr e
  obtain rfl := Option.some.inj this
  exact ⟨t, fr, e⟩
 ·cases this

set_option maxHeartbeats 4000000 in
theorem gCount1_any (s : ByteArray) (w : World) (hs8 : s.size ≤ 8192) : Calls Tryz.prog 187 #[.string s] w fun e w' => e = .returned (.bool ((Sm.valW (sb s)).2 && Sm.within (Sm.valW (sb s)).1 1 12)) ∧ Below w.heap.size w w' := by
 have cI := gIsNumber_any s w hs8
 have cV := fun (h : (Sm.valW (sb s)).2 = true) V => gValueOf_any s V (Sm.valW (sb s)).1 (.inr ⟨hs8, h, rfl⟩)
 have cW := fun V => gWithin_any (Sm.valW (sb s)).1 1 12 V
 obtain ⟨v, hv⟩ : ∃ v, v = (Sm.valW (sb s)).1 := ⟨_, rfl⟩
 obtain ⟨b, hb⟩ : ∃ b, b = (Sm.valW (sb s)).2 := ⟨_, rfl⟩
 obtain ⟨q, hq⟩ : ∃ q, q = Sm.within v 1 12 := ⟨_, rfl⟩
 rw [← hb] at cI cV ⊢
 rw [← hv] at cV cW ⊢
 rw [← hq] at cW ⊢
 obtain ⟨z, hz⟩ : ∃ z, z = (b && q) := ⟨_, rfl⟩
 rw [← hz]
 have CI := Lib.hid cI
 have CV := Lib.hid cV
 have CW := Lib.hid cW
 have HZ := Lib.hid hz
 clear cI cV cW hv hb hq hz
 go_enter Tryz.func187, Tryz.ntmps187
 go_wp2_with fail
 refine CI.out.mono ?_
 rintro e w1 ⟨rfl, rfl⟩
 clear CI
 cases b with
 | false =>
  obtain rfl : z = false := by rw [HZ.out]; rfl
  go_wp2_with fail
  go_ret
  exact ⟨rfl, Below.refl _ _⟩
 | true =>
  obtain rfl : z = q := by rw [HZ.out]; rfl
  go_wp2_with fail
  refine (CV.out (by first | rfl | trivial) _).mono ?_
  rintro e w2 ⟨rfl, hb⟩
  clear CV
  go_wp2_with fail
  refine (CW.out _).mono ?_
  rintro e w3 ⟨rfl, rfl⟩
  clear CW
  go_wp2_with fail
  go_ret
  exact ⟨rfl, hb⟩
section
variable (rb : Nat) (s : ByteArray) (ts : List (Nat × Nat)) (stop : Nat) (p : Sm.PS) (W : World) (h : RdAt rb s ts stop p W)
include h
set_option maxHeartbeats 2000000 in
theorem gCount_any (hE : ESyn W) (hg : 5 < rb) : Calls Tryz.prog 159 #[.pointer (some ⟨rb, 0, none⟩)] W (Rds rb s ts stop (.int .i64 (Sm.cntG (tokT s ts) p)) (Sm.cntP (tokT s ts) p) W) := by
 have hl8 := look_le (s := s) (ts := ts) p
 have hs8 := h.sz
 have cT := gTake_any rb s ts stop p W h 187 (fun _ _ => rfl) _ fun V _ => gCount1_any _ V (by omega)
 have e2 : Sm.takeP (tokT s ts) ((Sm.valW (sb (Sm.look (tokT s ts) p))).2 && Sm.within (Sm.valW (sb (Sm.look (tokT s ts) p))).1 1 12) p = Sm.cntP (tokT s ts) p := rfl
 have hcs := Sm.take_cases (tokT s ts) ((Sm.valW (sb (Sm.look (tokT s ts) p))).2 && Sm.within (Sm.valW (sb (Sm.look (tokT s ts) p))).1 1 12) p
 rw [e2] at cT hcs
 obtain ⟨tw, htw⟩ : ∃ n, n = Sm.takeW (tokT s ts) ((Sm.valW (sb (Sm.look (tokT s ts) p))).2 && Sm.within (Sm.valW (sb (Sm.look (tokT s ts) p))).1 1 12) p := ⟨_, rfl⟩
 obtain ⟨vg, hvg⟩ : ∃ n, n = Sm.cntG (tokT s ts) p := ⟨_, rfl⟩
 have cV : ∀ V, But rb W V → Calls Tryz.prog 153 #[.string tw] V fun e w' => e = .returned (.int .i64 vg) ∧ Below V.heap.size V w' := by
  intro V hV
  refine gValueOf_any tw V vg ?_
  rcases hcs with ⟨h1, h2, h3, h4⟩ | ⟨h1, h2⟩
  ·rw [Bool.and_eq_true] at h1
   refine .inr ⟨by rw [htw, h3]; omega, by rw [htw, h3]; exact h1.1, ?_⟩
   have hf := (look_some h2).1
   rw [hvg, htw, h3]
   unfold Sm.cntG
   rw [h4, hf, if_neg (by decide)]
   rfl
  ·exact .inl ⟨by rw [htw, h1]; rfl, by rw [hvg]; unfold Sm.cntG; rw [if_pos h2], hE.below (hV.below (Nat.le_refl _) (Nat.le_of_lt h.blk.lt)) hg⟩
 obtain ⟨np, hnp⟩ : ∃ n, n = Sm.cntP (tokT s ts) p := ⟨_, rfl⟩
 rw [← hvg, ← hnp]
 rw [← htw, ← hnp] at cT
 have CT := Lib.hid cT
 have CV := Lib.hid cV
 clear cT cV e2 hcs htw hvg hnp h hl8 hs8 hE hg
 go_enter Tryz.func159, Tryz.ntmps159
 go_wp2_with fail
 refine CT.out.mono ?_
 rintro e w1 ⟨rfl, ha, hb⟩
 have H1 := Lib.hid (And.intro ha hb)
 clear ha hb CT
 go_wp2_with fail
 refine (CV.out _ H1.out.2).mono ?_
 rintro e w2 ⟨rfl, hb⟩
 have H2 := Lib.hid (And.intro (H1.out.1.below hb) (H1.out.2.trans (But.of hb)))
 clear hb CV
 go_wp2_with fail
 go_ret
 exact ⟨rfl, H2.out.1, H2.out.2⟩
end
end Go.Proofs.YtkgddcemocfgfaaGreatDoor
end

section
/- The program: what is valid: the greatest weight, numbers, words. -/


namespace Go.Proofs.YtkgddcemocfgfaaGreatDoor
open Go.RowKit
set_option linter.unusedVariables false
set_option linter.unusedSimpArgs false
set_option maxRecDepth 100000

theorem rowat_sv {w : World} {A : Option Addr} {l : List ByteArray} (h : Rd w w.heap.size A (l.map sv)) : RowAt SvC 1 w A l := by
 intro j a hj
 have hlt := (List.getElem?_eq_some_iff.1 hj).1
 obtain ⟨b, off, hA, hb, hc⟩ := h (by rw [List.length_map]; omega)
 refine ⟨b, off, [.string a], hA, hb, rfl, fun i u hu => ?_⟩
 match i, hu with
 | 0, hu =>
  obtain rfl := Option.some.inj hu
  have := hc j (sv a) (by rw [List.getElem?_map, hj]; rfl)
  rw [Nat.mul_one]
  exact this
 | i + 1, hu => simp at hu
theorem rowat_iv {w : World} {A : Option Addr} {l : List Int} (h : Rd w w.heap.size A (l.map iv)) : RowAt IvC 1 w A l := by
 intro j a hj
 have hlt := (List.getElem?_eq_some_iff.1 hj).1
 obtain ⟨b, off, hA, hb, hc⟩ := h (by rw [List.length_map]; omega)
 refine ⟨b, off, [.int .i64 a], hA, hb, rfl, fun i u hu => ?_⟩
 match i, hu with
 | 0, hu =>
  obtain rfl := Option.some.inj hu
  have := hc j (iv a) (by rw [List.getElem?_map, hj]; rfl)
  rw [Nat.mul_one]
  exact this
 | i + 1, hu => simp at hu
theorem rowat_rows {α : Type} {C : World → Nat → α → List Value → Prop} {w : World} {A : Option Addr} {l : List α} (h : Rows C w w.heap.size A l) {sz : Nat} (h0 : 0 < sz) (hs : ∀ a c, C w w.heap.size a c → c.length = sz) : RowAt C sz w A l := by
 intro j a hj
 obtain ⟨b, off, c, h1, h2, h3, h4⟩ := h.at h0 hs j a hj
 exact ⟨b, off, c, h1, h2, h3, h4⟩
def pos (n : Int) : Bool := decide (0 < n)
set_option maxHeartbeats 4000000 in
theorem gMax_any (A : Option Addr) (cap : Nat) (l : List Int) (w : World) (hr : RowAt IvC 1 w A l) (hl : l.length ≤ 1000000000) (h0 : 0 < l.length) :
  Calls Tryz.prog 193 #[.slice A l.length cap] w fun e w' => ∃ m : Int, e = .returned (.int .i64 m) ∧ pos m = l.any pos ∧ w' = w := by
 obtain ⟨N, hN⟩ : ∃ N, N = l.length := ⟨_, rfl⟩
 obtain ⟨x0, hx0⟩ : ∃ a, l[0]? = some a := ⟨_, List.getElem?_eq_getElem h0⟩
 obtain ⟨b, off, c, rfl, hbl, hc, hcell⟩ := hr 0 x0 hx0
 obtain rfl : c = _ := hc
 have d0 : w.cell? ⟨b, off, none⟩ = some (.int .i64 x0) := by have := hcell 0 _ rfl; simpa using this
 rw [← hN] at hl h0 ⊢
 have i1 : ¬ (N : Int) < 1 := by omega
 have i2 : (0 : Int) < N := by omega
 have HR := Lib.hid hr
 have HN := Lib.hid (And.intro hN hx0)
 clear hr hN hx0 hcell hbl
 go_enter Tryz.func193, Tryz.ntmps193
 go_wp2_with fail
 clear d0
 go_loopw [3, 4] (fun m i wr => ∃ (j : Nat) (mv : Int), 1 ≤ j ∧ j ≤ N ∧ i = .int .i64 j ∧ m = .int .i64 mv ∧ pos mv = (l.take j).any pos ∧ wr = w) (fun _ i _ => N - (intOf i).toNat)
 case atStart => exact ⟨1, x0, by omega, by omega, rfl, rfl, by rw [any_take_succ pos l 0 x0 HN.out.2]; rfl, rfl⟩
 case round =>
  obtain ⟨j, mv, hj1, hj, rfl, rfl, ha, rfl⟩ := hrel
  have HA := Lib.hid ha
  clear ha
  by_cases hlt : j < N
  ·have hlt2 : j < l.length := by rw [← HN.out.1]; exact hlt
   obtain ⟨x, hx⟩ : ∃ a, l[j]? = some a := ⟨_, List.getElem?_eq_getElem hlt2⟩
   obtain ⟨b', off', c, hA', hbl, hc, hcell⟩ := HR.out j x hx
   obtain rfl : c = _ := hc
   obtain ⟨rfl, rfl⟩ : b = b' ∧ off = off' := by simpa using hA'
   have dj : wr.cell? ⟨b, off + j, none⟩ = some (.int .i64 x) := by have := hcell 0 _ rfl; simpa using this
   have hs := any_take_succ pos l j x hx
   have HS := Lib.hid hs
   have hji : (j : Int) < N := by omega
   have h0j : (0 : Int) ≤ j := by omega
   clear hcell hbl hx hs hlt2 hA'
   go_wp2_with fail
   refine ⟨⟨j + 1, _, by omega, by omega, by go_num, rfl, ?_, by first | rfl | trivial⟩, by simp [intOf]; omega⟩
   rw [HS.out, ← HA.out]
   unfold pos
   rw [Bool.eq_iff_iff]
   simp only [decide_eq_true_eq, Bool.or_eq_true]
   omega
  ·obtain rfl : j = N := by omega
   have hli : ¬ (j : Int) < j := by omega
   have hall : pos mv = l.any pos := by have := HA.out; rwa [HN.out.1, List.take_length] at this
   have HH := Lib.hid hall
   clear hall
   go_wp2_with fail
   go_ret
   exact ⟨_, rfl, HH.out, rfl⟩

namespace Sm
def numsOK (lo hi : Int) (x : Shp) : Bool := if x.numbers = 0 then decide (lo = 0 ∧ hi = 0) else if x.numbers = 1 then within lo x.least x.most && decide (hi = 0) else span lo hi x.least x.most
def wordsOK (f : Fd) (x : Shp) : Bool :=
 if x.words = false then decide (f.words.length = 0 ∧ f.weights.length = 0)
 else decide (0 < f.words.length) && (decide (f.words.length = f.weights.length) && ((decide ((f.words.length : Int) ≤ 12) && f.words.all isName) && ((decide ((f.weights.length : Int) ≤ 12) && f.weights.all fun n => within n 0 1048576) && f.weights.any pos)))
end Sm
set_option maxHeartbeats 4000000 in
theorem gNumbers_any (n o u : ByteArray) (k lo hi : Int) (vw vg : Value) (x : Shp) (hx : x.numbers = 0 ∨ x.numbers = 1 ∨ x.numbers = 2) (Aw Ag : Option Addr) (lw cw lg cg : Nat) (w : World) :
  Calls Tryz.prog 170 #[.agg #[.string n, .string o, .string u, .int .i64 k, .int .i64 lo, .int .i64 hi, .slice Aw lw cw, .slice Ag lg cg], .agg x.cells.toArray] w fun e w' => e = .returned (.bool (Sm.numsOK lo hi x)) ∧ Below w.heap.size w w' := by
 obtain ⟨z, hz⟩ : ∃ z, z = Sm.numsOK lo hi x := ⟨_, rfl⟩
 rw [← hz]
 unfold Sm.numsOK at hz
 obtain ⟨xw, xu, xo, xn, xl, xm, xb⟩ := x
 dsimp only at hx hz ⊢
 have c1 := fun V => gWithin_any lo xl xm V
 have c2 := fun V => gBounds_any lo hi xl xm V
 obtain ⟨q1, hq1⟩ : ∃ q, q = Sm.within lo xl xm := ⟨_, rfl⟩
 obtain ⟨q2, hq2⟩ : ∃ q, q = Sm.span lo hi xl xm := ⟨_, rfl⟩
 simp only [← hq1] at c1
 simp only [← hq2] at c2
 rw [← hq1, ← hq2] at hz
 have C1 := Lib.hid c1
 have C2 := Lib.hid c2
 have HZ := Lib.hid hz
 clear c1 c2 hq1 hq2 hz
 have hbel : Below w.heap.size w ((w.alloc (.cells #[.string n, .string o, .string u, .int .i64 k, .int .i64 lo, .int .i64 hi, .slice Aw lw cw, .slice Ag lg cg] 74)).alloc (.cells #[.string xw, .int .i64 xu, .int .i64 xo, .int .i64 xn, .int .i64 xl, .int .i64 xm, .bool xb] 186)) := ((Below.refl _ _).alloc (Nat.le_refl _) _).alloc (by simp) _
 have HB := Lib.hid hbel
 clear hbel
 show Calls Tryz.prog 170 #[.agg #[.string n, .string o, .string u, .int .i64 k, .int .i64 lo, .int .i64 hi, .slice Aw lw cw, .slice Ag lg cg], .agg #[.string xw, .int .i64 xu, .int .i64 xo, .int .i64 xn, .int .i64 xl, .int .i64 xm, .bool xb]] w _
 rcases hx with rfl | rfl | rfl
 ·clear C1 C2
  by_cases h1 : lo = 0
  ·subst h1
   by_cases h2 : hi = 0
   ·subst h2
    obtain rfl : z = true := by rw [HZ.out]; rfl
    go_enter Tryz.func170, Tryz.ntmps170
    go_wp2_with fail
    go_ret
    exact ⟨rfl, HB.out⟩
   ·have h2b : (hi == 0) = false := by simpa using h2
    obtain rfl : z = false := by rw [HZ.out, if_pos rfl, decide_eq_false (by omega)]
    go_enter Tryz.func170, Tryz.ntmps170
    go_wp2_with fail
    go_ret
    exact ⟨rfl, HB.out⟩
  ·have h1b : (lo == 0) = false := by simpa using h1
   obtain rfl : z = false := by rw [HZ.out, if_pos rfl, decide_eq_false (by omega)]
   go_enter Tryz.func170, Tryz.ntmps170
   go_wp2_with fail
   go_ret
   exact ⟨rfl, HB.out⟩
 ·clear C2
  cases q1 with
  | false =>
   obtain rfl : z = false := by rw [HZ.out, if_neg (by decide), if_pos rfl]; rfl
   go_enter Tryz.func170, Tryz.ntmps170
   go_wp2_with fail
   refine (C1.out _).mono ?_
   rintro e w1 ⟨rfl, rfl⟩
   go_wp2_with fail
   go_ret
   exact ⟨rfl, HB.out⟩
  | true =>
   by_cases h2 : hi = 0
   ·subst h2
    obtain rfl : z = true := by rw [HZ.out, if_neg (by decide), if_pos rfl]; rfl
    go_enter Tryz.func170, Tryz.ntmps170
    go_wp2_with fail
    refine (C1.out _).mono ?_
    rintro e w1 ⟨rfl, rfl⟩
    go_wp2_with fail
    go_ret
    exact ⟨rfl, HB.out⟩
   ·have h2b : (hi == 0) = false := by simpa using h2
    obtain rfl : z = false := by rw [HZ.out, if_neg (by decide), if_pos rfl, decide_eq_false h2]; rfl
    go_enter Tryz.func170, Tryz.ntmps170
    go_wp2_with fail
    refine (C1.out _).mono ?_
    rintro e w1 ⟨rfl, rfl⟩
    go_wp2_with fail
    go_ret
    exact ⟨rfl, HB.out⟩
 ·clear C1
  obtain rfl : z = q2 := by rw [HZ.out, if_neg (by decide), if_neg (by decide)]
  go_enter Tryz.func170, Tryz.ntmps170
  go_wp2_with fail
  refine (C2.out _).mono ?_
  rintro e w1 ⟨rfl, rfl⟩
  go_wp2_with fail
  go_ret
  exact ⟨rfl, HB.out⟩
end Go.Proofs.YtkgddcemocfgfaaGreatDoor
end

