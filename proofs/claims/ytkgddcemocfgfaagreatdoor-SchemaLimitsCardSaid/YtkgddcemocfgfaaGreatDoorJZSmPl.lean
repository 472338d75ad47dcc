import Derived.Deep.LoopGhost
import Derived.Test.YtkgddcemocfgfaaGreatDoorJZSmGd
import Derived.Test.YtkgddcemocfgfaaGreatDoorJZSmPi

section
/- The reference's parser: a struct under way; field of any kind; rule. -/

namespace Go.Proofs.YtkgddcemocfgfaaGreatDoor
open Go.RowKit
set_option linter.unusedVariables false
set_option linter.unusedSimpArgs false
set_option maxRecDepth 100000

theorem paField_any (pb : Nat) (s : ByteArray) (A : Option Addr) (cap : Nat) (ts : List (Nat × Nat)) (p : Sm.PS) (W : World) (h : PaAt pb s A cap ts p W) (hi : p.i ≤ 100000) (hk : 0 ≤ Sm.wordV (tokT s ts) p) (hk2 : Sm.wordV (tokT s ts) p ≤ 8) :
  Calls Tryz.prog 123 #[.pointer (some ⟨pb, 0, none⟩)] W (FdA pb s A cap ts (Sm.fieldV (tokT s ts) p) (Sm.fieldP (tokT s ts) p) W) := by
 have hc : Sm.wordV (tokT s ts) p = 0 ∨ Sm.wordV (tokT s ts) p = 1 ∨ Sm.wordV (tokT s ts) p = 2 ∨ Sm.wordV (tokT s ts) p = 3 ∨ Sm.wordV (tokT s ts) p = 4 ∨ Sm.wordV (tokT s ts) p = 5 ∨ Sm.wordV (tokT s ts) p = 6 ∨ Sm.wordV (tokT s ts) p = 7 ∨ Sm.wordV (tokT s ts) p = 8 := by omega
 rcases hc with e | e | e | e | e | e | e | e | e
 ·exact paField_0 pb s A cap ts p W h hi e
 ·exact paField_1 pb s A cap ts p W h hi e
 ·exact paField_2 pb s A cap ts p W h hi e
 ·exact paField_3 pb s A cap ts p W h hi e
 ·exact paField_4 pb s A cap ts p W h hi e
 ·exact paField_5 pb s A cap ts p W h hi e
 ·exact paField_6 pb s A cap ts p W h hi e
 ·exact paField_7 pb s A cap ts p W h hi e
 ·exact paField_8 pb s A cap ts p W h hi e

/-- The parser, a variable of a struct's type, the result's. -/
structure VaSt (t : TypeId) (z : List Value) (pb : Nat) (s : ByteArray) (A : Option Addr) (cap : Nat) (ts : List (Nat × Nat)) (W : World) (rb fb : Nat) (p : Sm.PS) (cs : List Value) (w : World) : Prop where
 pa : PaAt pb s A cap ts p w
 but : But pb W w
 fld : Blk w fb cs t
 res : Blk w rb z t
 news : pb < W.heap.size ∧ W.heap.size ≤ rb ∧ rb < fb
section
variable {t : TypeId} {z : List Value} {pb : Nat} {s : ByteArray} {A : Option Addr} {cap : Nat} {ts : List (Nat × Nat)} {W : World} {rb fb : Nat} {p p' : Sm.PS} {cs : List Value} {w w' : World} {row : Option Nat}
theorem VaSt.call (h : VaSt t z pb s A cap ts W rb fb p cs w) (ha : PaAt pb s A cap ts p' w') (hb : But pb w w') : VaSt t z pb s A cap ts W rb fb p' cs w' :=
 ⟨ha, h.but.trans hb, h.fld.but hb (by have := h.news; omega), h.res.but hb (by have := h.news; omega), h.news⟩
theorem VaSt.set (h : VaSt t z pb s A cap ts W rb fb p cs w) (j : Nat) (v : Value) : VaSt t z pb s A cap ts W rb fb p (cs.set j v) (w.setCell ⟨fb, j, none⟩ v) :=
 ⟨h.pa.set _ _ (by have := h.news; show pb < fb; omega), h.but.other _ _ (by have := h.news; show W.heap.size ≤ fb; omega), h.fld.set j v, h.res.other _ _ (by have := h.news; show rb ≠ fb; omega), h.news⟩
theorem VaSt.put (h : VaSt t z pb s A cap ts W rb fb p cs w) (j : Nat) (v : Value) : VaSt t (z.set j v) pb s A cap ts W rb fb p cs (w.setCell ⟨rb, j, none⟩ v) :=
 ⟨h.pa.set _ _ (by have := h.news; show pb < rb; omega), h.but.other _ _ (by have := h.news; show W.heap.size ≤ rb; omega), h.fld.other _ _ (by have := h.news; show fb ≠ rb; omega), h.res.set j v, h.news⟩
theorem VaSt.grown (h : VaSt t z pb s A cap ts W rb fb p cs w) (hg : w.grownBy w' row) (hr : ∀ k, row = some k → fb < k) : VaSt t z pb s A cap ts W rb fb p cs w' :=
 ⟨h.pa.grown hg (fun k hk => by have := hr k hk; have := h.news; omega), h.but.grown hg (fun k hk => by have := hr k hk; have := h.news; omega), h.fld.grown hg (fun x => by have := hr _ x; omega), h.res.grown hg (fun x => by have := hr _ x; have := h.news; omega), h.news⟩
/-- How it begins: the result's variable lies since W, a call led to w1, and the struct is laid. -/
theorem VaSt.begin (hpa : PaAt pb s A cap ts p w) (hb : But pb (W.alloc (.cells z.toArray t)) w) (hW : pb < W.heap.size) : VaSt t z pb s A cap ts W W.heap.size w.heap.size p cs (w.alloc (.cells cs.toArray t)) :=
 ⟨hpa.alloc _, ((But.of (b := pb) ((Below.refl _ W).alloc (Nat.le_refl _) _)).trans hb).trans (But.of ((Below.refl _ _).alloc (Nat.le_refl _) _)), Blk.new w cs t, ((Blk.new W z t).but hb (by omega)).alloc _, hW, Nat.le_refl _, by have := hb.size; rw [World.size_alloc] at this; omega⟩
end

namespace Sm
def ruleWd : ByteArray := ⟨#[114, 117, 108, 101]⟩
def ruleV (T : List ByteArray) (p : PS) : Ru × PS :=
 let p1 := wantP T ruleWd p
 let p2 := nameP T p1
 let p3 := nameP T p2
 let p4 := namesP T p3
 let p5 := namesP T p4
 (⟨nameW T p1, nameW T p2, namesW T p3, namesW T p4, numV T p5⟩, numP T p5)
end Sm
def ruZ : List Value := [.string ⟨#[]⟩, .string ⟨#[]⟩, .string ⟨#[]⟩, .string ⟨#[]⟩, .int .i64 0]
/-- What rule answers. -/
def RuA (pb : Nat) (s : ByteArray) (A : Option Addr) (cap : Nat) (ts : List (Nat × Nat)) (r : Sm.Ru) (p : Sm.PS) (W : World) (e : Ending) (w' : World) : Prop :=
 e = .returned (.agg #[.string r.name, .string r.kind, .string r.a, .string r.b, .int .i64 r.n]) ∧ PaAt pb s A cap ts p w' ∧ But pb W w'

set_option maxHeartbeats 4000000 in
theorem paRule_any (pb : Nat) (s : ByteArray) (A : Option Addr) (cap : Nat) (ts : List (Nat × Nat)) (p : Sm.PS) (W : World) (h : PaAt pb s A cap ts p W) (hi : p.i ≤ 100000) :
  Calls Tryz.prog 68 #[.pointer (some ⟨pb, 0, none⟩)] W (RuA pb s A cap ts (Sm.ruleV (tokT s ts) p).1 (Sm.ruleV (tokT s ts) p).2 W) := by
 obtain ⟨T, hT⟩ : ∃ T, T = tokT s ts := ⟨_, rfl⟩
 rw [← hT]
 obtain ⟨q1, hq1⟩ : ∃ q, q = Sm.wantP T Sm.ruleWd p := ⟨_, rfl⟩
 have b1 : q1.i ≤ 100001 := by rw [hq1]; have := (Sm.takeP_i T (Sm.eqW (Sm.look T p) Sm.ruleWd) p).1; show (Sm.takeP T _ p).i ≤ _; omega
 obtain ⟨q2, hq2⟩ : ∃ q, q = Sm.nameP T q1 := ⟨_, rfl⟩
 have b2 : q2.i ≤ 100002 := by rw [hq2]; have := Sm.nameP_i T q1; omega
 obtain ⟨q3, hq3⟩ : ∃ q, q = Sm.nameP T q2 := ⟨_, rfl⟩
 have b3 : q3.i ≤ 100003 := by rw [hq3]; have := Sm.nameP_i T q2; omega
 obtain ⟨q4, hq4⟩ : ∃ q, q = Sm.namesP T q3 := ⟨_, rfl⟩
 have b4 : q4.i ≤ 100004 := by rw [hq4]; have := Sm.namesP_i T q3; omega
 obtain ⟨q5, hq5⟩ : ∃ q, q = Sm.namesP T q4 := ⟨_, rfl⟩
 have b5 : q5.i ≤ 100005 := by rw [hq5]; have := Sm.namesP_i T q4; omega
 obtain ⟨q6, hq6⟩ : ∃ q, q = Sm.numP T q5 := ⟨_, rfl⟩
 have hV : Sm.ruleV T p = (⟨Sm.nameW T q1, Sm.nameW T q2, Sm.namesW T q3, Sm.namesW T q4, Sm.numV T q5⟩, q6) := by
  unfold Sm.ruleV
  simp only [← hq1, ← hq2, ← hq3, ← hq4, ← hq5, ← hq6]
 rw [hV]
 have c0 := fun V hV => paWant_any pb s A cap ts p V hV (by omega) Sm.ruleWd
 rw [← hT, ← hq1] at c0
 have c1 := fun V hV => paName_any pb s A cap ts q1 V hV (by omega)
 rw [← hT, ← hq2] at c1
 have c2 := fun V hV => paName_any pb s A cap ts q2 V hV (by omega)
 rw [← hT, ← hq3] at c2
 have c3 := fun V hV => paNames_any pb s A cap ts q3 V hV (by omega)
 rw [← hT, ← hq4] at c3
 have c4 := fun V hV => paNames_any pb s A cap ts q4 V hV (by omega)
 rw [← hT, ← hq5] at c4
 have c5 := fun V hV => paNumber_any pb s A cap ts q5 V hV (by omega)
 rw [← hT, ← hq6] at c5
 generalize Sm.nameW T q1 = n1 at *
 generalize Sm.nameW T q2 = n2 at *
 generalize Sm.namesW T q3 = n3 at *
 generalize Sm.namesW T q4 = n4 at *
 generalize Sm.numV T q5 = n5 at *
 unfold Sm.ruleWd at c0
 have C0 := Lib.hid c0
 have C1 := Lib.hid c1
 have C2 := Lib.hid c2
 have C3 := Lib.hid c3
 have C4 := Lib.hid c4
 have C5 := Lib.hid c5
 have HH := Lib.hid h
 clear c0 c1 c2 c3 c4 c5 hq1 hq2 hq3 hq4 hq5 hq6 b1 b2 b3 b4 b5 hV hT h hi
 go_enter Tryz.func68, Tryz.ntmps68
 go_wp2_with fail
 refine (C0.out _ (HH.out.alloc _)).mono ?_
 rintro e w1 ⟨rfl, ha, hb⟩
 have H1 := Lib.hid (And.intro ha hb)
 clear ha hb C0
 go_wp2_with fail
 refine (C1.out _ H1.out.1).mono ?_
 rintro e w2 ⟨rfl, ha, hb⟩
 have hz : VaSt 70 ruZ pb s A cap ts W W.heap.size w2.heap.size q2 [.string n1, .string ⟨#[]⟩, .string ⟨#[]⟩, .string ⟨#[]⟩, .int .i64 0] (w2.alloc (.cells #[.string n1, .string ⟨#[]⟩, .string ⟨#[]⟩, .string ⟨#[]⟩, .int .i64 0] 70)) := VaSt.begin ha (H1.out.2.trans hb) HH.out.blk.lt
 clear ha hb C1 H1
 have HS := Lib.hid hz
 clear hz
 go_wp2_with fail
 generalize w2.heap.size = fb at *
 obtain ⟨rb, hrb⟩ : ∃ rb, rb = W.heap.size := ⟨_, rfl⟩
 rw [← hrb]
 rw [← hrb] at HS
 clear hrb
 refine (C2.out _ HS.out.pa).mono ?_
 rintro e w3 ⟨rfl, ha, hb⟩
 have hz : VaSt 70 ruZ pb s A cap ts W rb fb q3 [.string n1, .string ⟨#[]⟩, .string ⟨#[]⟩, .string ⟨#[]⟩, .int .i64 0] w3 := HS.out.call ha hb
 clear HS
 have HS := Lib.hid hz
 clear hz ha hb C2
 have d1 := HS.out.fld.cell 1 _ rfl
 have e1 := HS.out.fld.frozen 1
 go_wp2_with fail
 clear d1 e1
 refine (C3.out _ (HS.out.set 1 (.string n2)).pa).mono ?_
 rintro e w4 ⟨rfl, ha, hb⟩
 have hz : VaSt 70 ruZ pb s A cap ts W rb fb q4 [.string n1, .string n2, .string ⟨#[]⟩, .string ⟨#[]⟩, .int .i64 0] w4 := (HS.out.set 1 (.string n2)).call ha hb
 clear HS
 have HS := Lib.hid hz
 clear hz ha hb C3
 have d2 := HS.out.fld.cell 2 _ rfl
 have e2 := HS.out.fld.frozen 2
 go_wp2_with fail
 clear d2 e2
 refine (C4.out _ (HS.out.set 2 (.string n3)).pa).mono ?_
 rintro e w5 ⟨rfl, ha, hb⟩
 have hz : VaSt 70 ruZ pb s A cap ts W rb fb q5 [.string n1, .string n2, .string n3, .string ⟨#[]⟩, .int .i64 0] w5 := (HS.out.set 2 (.string n3)).call ha hb
 clear HS
 have HS := Lib.hid hz
 clear hz ha hb C4
 have d3 := HS.out.fld.cell 3 _ rfl
 have e3 := HS.out.fld.frozen 3
 go_wp2_with fail
 clear d3 e3
 refine (C5.out _ (HS.out.set 3 (.string n4)).pa).mono ?_
 rintro e w6 ⟨rfl, ha, hb⟩
 have hz : VaSt 70 ruZ pb s A cap ts W rb fb q6 [.string n1, .string n2, .string n3, .string n4, .int .i64 0] w6 := (HS.out.set 3 (.string n4)).call ha hb
 clear HS
 have HS := Lib.hid hz
 clear hz ha hb C5
 have d4 := HS.out.fld.cell 4 _ rfl
 have e4 := HS.out.fld.frozen 4
 have HF := Lib.hid (show VaSt 70 ruZ pb s A cap ts W rb fb q6 [.string n1, .string n2, .string n3, .string n4, .int .i64 n5] (w6.setCell ⟨fb, 4, none⟩ (.int .i64 n5)) from HS.out.set 4 (.int .i64 n5))
 clear d4
 have d0 := HS.out.fld.cell 0 _ rfl
 have d1 := HS.out.fld.cell 1 _ rfl
 have d2 := HS.out.fld.cell 2 _ rfl
 have d3 := HS.out.fld.cell 3 _ rfl
 have d4 := HS.out.fld.cell 4 _ rfl
 have r0 := HS.out.res.cell 0 _ rfl
 have r1 := HS.out.res.cell 1 _ rfl
 have r2 := HS.out.res.cell 2 _ rfl
 have r3 := HS.out.res.cell 3 _ rfl
 have r4 := HS.out.res.cell 4 _ rfl
 have g0 := HS.out.res.frozen 0
 have g1 := HS.out.res.frozen 1
 have g2 := HS.out.res.frozen 2
 have g3 := HS.out.res.frozen 3
 have g4 := HS.out.res.frozen 4
 have hnr : rb ≠ fb := by have := HS.out.news; omega
 go_wp2_with fail
 have hE := ((((HF.out.put 0 (.string n1)).put 1 (.string n2)).put 2 (.string n3)).put 3 (.string n4)).put 4 (.int .i64 n5)
 exact bodyPost_ret (results_cell_row rfl _ _ rb 70 #[.string n1, .string n2, .string n3, .string n4, .int .i64 n5] (0, 0) _ rfl hE.res Tryz.underlying70 rfl (by kernel_rfl)) rfl
  ⟨rfl, hE.pa, hE.but⟩
end Go.Proofs.YtkgddcemocfgfaaGreatDoor
end

section
/- Reading kinds: plain mathematics of what the parser consumes. -/

namespace Go.Proofs.YtkgddcemocfgfaaGreatDoor
open Go.RowKit
set_option linter.unusedVariables false

namespace Sm
/-- A part of the parser goes on, and not behind the tokens. -/
def On (T : List ByteArray) (p q : PS) : Prop := p.i ≤ T.length → p.i ≤ q.i ∧ q.i ≤ T.length
theorem On.refl (T : List ByteArray) (p : PS) : On T p p := fun h => ⟨Nat.le_refl _, h⟩
theorem On.trans {T : List ByteArray} {p q r : PS} (h : On T p q) (k : On T q r) : On T p r := fun x => ⟨Nat.le_trans (h x).1 (k (h x).2).1, (k (h x).2).2⟩
theorem look_lt {T : List ByteArray} {p : PS} (h : (look T p).size ≠ 0) : p.f = false ∧ p.i < T.length := by
 unfold look at h
 split at h
 ·exact absurd rfl h
 ·rename_i hf
  refine ⟨by simpa using hf, Decidable.byContradiction fun hn => ?_⟩
  rw [List.getD_eq_getElem?_getD, List.getElem?_eq_none (by omega)] at h
  exact h rfl
theorem takeP_on (T : List ByteArray) (r : Bool) (p : PS) : On T p (takeP T r p) := fun h => by
 unfold takeP
 split
 ·rename_i x
  have := (look_lt x.2).2
  exact ⟨Nat.le_succ _, this⟩
 ·exact ⟨Nat.le_refl _, h⟩
theorem nameP_on (T : List ByteArray) (p : PS) : On T p (nameP T p) := takeP_on T _ p
theorem namesP_on (T : List ByteArray) (p : PS) : On T p (namesP T p) := takeP_on T _ p
theorem numP_on (T : List ByteArray) (p : PS) : On T p (numP T p) := takeP_on T _ p
theorem cntP_on (T : List ByteArray) (p : PS) : On T p (cntP T p) := takeP_on T _ p
theorem wantP_on (T : List ByteArray) (w : ByteArray) (p : PS) : On T p (wantP T w p) := takeP_on T _ p
theorem picks_on (T : List ByteArray) : ∀ (n : Nat) (a : List (ByteArray × Int)) (p : PS), On T p (picks T n a p).2 := by
 intro n
 induction n with
 | zero => intro a p; exact On.refl T p
 | succ n ih =>
  intro a p
  unfold picks
  split
  ·exact On.refl T p
  ·exact ((nameP_on T p).trans (numP_on T _)).trans (ih _ _)
theorem f2_on (T : List ByteArray) (k : Int) (p : PS) : On T p (f2 T k p) := by unfold f2; split; exact nameP_on T p; exact On.refl T p
theorem f3_on (T : List ByteArray) (k : Int) (p : PS) : On T p (f3 T k p) := by
 unfold f3; split
 ·exact namesP_on T p
 ·split
  ·exact nameP_on T p
  ·exact On.refl T p
theorem f4_on (T : List ByteArray) (k : Int) (p : PS) : On T p (f4 T k p) := by unfold f4; split; exact numP_on T p; exact On.refl T p
theorem f5_on (T : List ByteArray) (k : Int) (p : PS) : On T p (f5 T k p) := by unfold f5; split; exact numP_on T p; exact On.refl T p
theorem f6_on (T : List ByteArray) (k : Int) (p : PS) : On T p (f6 T k p).2 := by
 unfold f6; split
 ·exact (cntP_on T p).trans (picks_on T _ _ _)
 ·exact On.refl T p
theorem fieldP_on (T : List ByteArray) (p : PS) (h : p.i < T.length) : p.i + 1 ≤ (fieldP T p).i ∧ (fieldP T p).i ≤ T.length := by
 unfold fieldP f1
 exact ((nameP_on T ⟨p.i + 1, p.f⟩).trans ((f2_on T _ _).trans ((f3_on T _ _).trans ((f4_on T _ _).trans ((f5_on T _ _).trans (f6_on T _ _)))))) h
theorem wordsL_ne : ∀ x ∈ wordsL, x.toList ≠ [] := by
 intro x hx
 simp only [wordsL, List.mem_cons, List.not_mem_nil, or_false] at hx
 rcases hx with rfl | rfl | rfl | rfl | rfl | rfl | rfl | rfl | rfl <;> (rw [Lib.toList_data]; decide)
theorem first_lt {α : Type} (p : α → Bool) (l : List α) : first p l = -1 ∨ ∃ (k : Nat) (x : α), first p l = (k : Int) ∧ l[k]? = some x ∧ p x = true := by
 unfold first
 cases h : l.findIdx? p with
 | none => exact .inl rfl
 | some k =>
  right
  obtain ⟨hk, hp, _⟩ := List.findIdx?_eq_some_iff_getElem.1 h
  exact ⟨k, l[k], rfl, List.getElem?_eq_getElem hk, hp⟩
/-- A word that begins a field is a token. -/
theorem wordV_in {T : List ByteArray} {p : PS} (h : 0 ≤ wordV T p) : wordV T p ≤ 8 ∧ p.f = false ∧ p.i < T.length := by
 unfold wordV wordOf at h ⊢
 rcases first_lt (fun x => eqW (look T p) x) wordsL with e | ⟨k, x, e, hx, hp⟩
 ·rw [e] at h; exact absurd h (by decide)
 ·have hk := (List.getElem?_eq_some_iff.1 hx).1
  have hl : wordsL.length = 9 := rfl
  refine ⟨by rw [e]; omega, look_lt fun h0 => ?_⟩
  have hm : x ∈ wordsL := by
   obtain ⟨hk', rfl⟩ := List.getElem?_eq_some_iff.1 hx
   exact List.getElem_mem _
  apply wordsL_ne x hm
  unfold eqW at hp
  have hp2 : (look T p).toList = x.toList := by simpa using hp
  rw [← hp2, Lib.toList_data]
  apply List.eq_nil_of_length_eq_zero
  rw [Array.length_toList]
  exact h0

/-- The fields of a kind: at most n more. -/
def fieldsL (T : List ByteArray) : Nat → List Fd → PS → List Fd × PS
 | 0, a, p => (a, p)
 | n + 1, a, p => if wordV T p < 0 then (a, p) else fieldsL T n (a ++ [fieldV T p]) (fieldP T p)
theorem fieldsL_end (T : List ByteArray) (n : Nat) (a : List Fd) (p : PS) (h : wordV T p < 0) : fieldsL T n a p = (a, p) := by
 cases n with
 | zero => rfl
 | succ n => unfold fieldsL; rw [if_pos h]
theorem fieldsL_next (T : List ByteArray) (n : Nat) (a : List Fd) (p : PS) (h : ¬ wordV T p < 0) : fieldsL T (n + 1) a p = fieldsL T n (a ++ [fieldV T p]) (fieldP T p) := by
 conv => lhs; unfold fieldsL
 rw [if_neg h]
def kindWd : ByteArray := ⟨#[107, 105, 110, 100]⟩
def kindV (T : List ByteArray) (p : PS) : Kd × PS :=
 let p1 := wantP T kindWd p
 let p2 := nameP T p1
 let p3 := numP T p2
 let p4 := numP T p3
 let r := fieldsL T (T.length + 1) [] p4
 (⟨nameW T p1, numV T p2, numV T p3, r.1⟩, r.2)
end Sm
end Go.Proofs.YtkgddcemocfgfaaGreatDoor
end

section
/- The reference's parser: kind. -/



namespace Go.Proofs.YtkgddcemocfgfaaGreatDoor
open Go.RowKit
set_option linter.unusedVariables false
set_option linter.unusedSimpArgs false
set_option maxRecDepth 100000

def kdZ : List Value := [.string ⟨#[]⟩, .int .i64 0, .int .i64 0, .slice none 0 0]
def KdA (pb : Nat) (s : ByteArray) (A : Option Addr) (cap : Nat) (ts : List (Nat × Nat)) (k : Sm.Kd) (p : Sm.PS) (W : World) (e : Ending) (w' : World) : Prop :=
 ∃ c, e = .returned (.agg c.toArray) ∧ KdS (Fresh W w') w' k c ∧ PaAt pb s A cap ts p w' ∧ But pb W w'
theorem info_fd : ((Tryz.prog.info? 74).map fun i => (i.zero, i.size, i.bytes)) = some (some (.agg fdZ.toArray), 8, 120) := by kernel_rfl
theorem info_parts8 {P : Program} {t : TypeId} {z : Value} {n b : Nat} (h : (P.info? t).map (fun i => (i.zero, i.size, i.bytes)) = some (some z, n, b)) : ∃ i, P.info? t = some i ∧ i.zero = some z ∧ i.size = n ∧ i.bytes = b := by
 cases hi : P.info? t with
 | none => rw [hi] at h; cases h
 | some i =>
  rw [hi] at h
  simp only [Option.map_some, Option.some.injEq, Prod.mk.injEq] at h
  exact ⟨i, rfl, h.1, h.2.1, h.2.2⟩
/-- The blocks that a row's elements may lie in: behind fb, and not the row's own. -/
def Els (fb : Nat) (v : Value) (w : World) (k : Nat) : Prop := fb < k ∧ k < w.heap.size ∧ v.ownBlock ≠ some k
/-- A row of fields that grows. -/
def FdRow (fb : Nat) (v : Value) (L : List Sm.Fd) (w : World) : Prop :=
 ∃ cs : List (List Value), cs.length = L.length ∧ (∀ (i : Nat) (a : Sm.Fd) (c : List Value), L[i]? = some a → cs[i]? = some c → FdS (Els fb v w) w a c) ∧ w.ownsRow (fb + 1) 74 8 v L.length cs.flatten
theorem FdRow.nil (fb : Nat) (w : World) : FdRow fb (.slice none 0 0) [] w := ⟨[], rfl, fun i a c h => by simp at h, World.ownsRow_nil _ _ _ _⟩
theorem FdRow.but {fb b : Nat} {v : Value} {L : List Sm.Fd} {w w' : World} (h : FdRow fb v L w) (hb : But b w w') (hB : b ≤ fb) : FdRow fb v L w' := by
 obtain ⟨cs, h1, h2, h3⟩ := h
 refine ⟨cs, h1, fun i a c ha hc => ?_, own_but h3 hb (by omega)⟩
 exact ((h2 i a c ha hc).keep (w' := w') fun q hq => hb.cell hq.2.1 (by have := hq.1; omega)).mono fun k hk => ⟨hk.1, Nat.lt_of_lt_of_le hk.2.1 hb.size, hk.2.2⟩
theorem FdRow.snoc {fb : Nat} {v v' : Value} {L : List Sm.Fd} {f : Sm.Fd} {c : List Value} {x w w' : World} (hg : w.grownBy w' v.ownBlock) (hat : v'.ownBlock = v.ownBlock ∨ v'.ownBlock = some w.heap.size)
  (hc : FdS (Fresh x w) w f c) (hx : fb < x.heap.size) (hv : ∀ k, v.ownBlock = some k → k < x.heap.size)
  (cs : List (List Value)) (hcs : cs.length = L.length) (hel : ∀ (i : Nat) (a : Sm.Fd) (c : List Value), L[i]? = some a → cs[i]? = some c → FdS (Els fb v w) w a c) (hown : w'.ownsRow (fb + 1) 74 8 v' (L.length + 1) (cs.flatten ++ c)) : FdRow fb v' (L ++ [f]) w' := by
 have hk1 : ∀ k, Els fb v w k → Els fb v' w' k := fun k hk => ⟨hk.1, Nat.lt_of_lt_of_le hk.2.1 hg.size, fun e => by
  rcases hat with hh | hh
  ·rw [hh] at e; exact hk.2.2 e
  ·rw [hh] at e; injection e with e; have := hk.2.1; omega⟩
 have hk2 : ∀ k, Fresh x w k → Els fb v w k := fun k hk => ⟨by have := hk.1; omega, hk.2, fun e => by have := hv k e; have := hk.1; omega⟩
 have hks : KeepS (Els fb v w) w w' := fun q hq => by
  unfold World.cell?
  rw [hg.block q.block hq.2.1 (fun e => hq.2.2 e.symm)]
 refine ⟨cs ++ [c], by rw [List.length_append, List.length_append, hcs]; rfl, fun i a d ha hd => ?_, by rw [List.flatten_append, List.length_append]; simpa using hown⟩
 by_cases hi : i < L.length
 ·rw [List.getElem?_append_left hi] at ha
  rw [List.getElem?_append_left (by omega)] at hd
  exact ((hel i a d ha hd).keep hks).mono hk1
 ·have hi2 : i = L.length := by
   have := (List.getElem?_eq_some_iff.1 ha).1
   rw [List.length_append] at this
   simp at this; omega
  subst hi2
  rw [List.getElem?_append_right (Nat.le_refl _), Nat.sub_self] at ha
  rw [List.getElem?_append_right (by omega), hcs, Nat.sub_self] at hd
  obtain rfl := Option.some.inj ha
  obtain rfl := Option.some.inj hd
  exact ((hc.mono hk2).keep hks).mono hk1
theorem run_field_kind (W : World) (b : Nat) : (Instr.fieldAt 63 (.pointer (some ⟨b, 0, none⟩)) 3).run Tryz.prog W = .ok (.pointer (some ⟨b, 3, none⟩)) W := by go_simp
theorem run_load_fds (W : World) (a : Addr) (v : Value) (h : W.cell? a = some v) : (Instr.loadAt 61 (.pointer (some a))).run Tryz.prog W = .ok v W := by go_simp
theorem run_build_fd (w : World) (n o u : ByteArray) (k lo hi : Int) (Aw Ag : Option Addr) (lw cw lg cg : Nat) : (Instr.buildSlice 61 1 #[(0, .agg #[.string n, .string o, .string u, .int .i64 k, .int .i64 lo, .int .i64 hi, .slice Aw lw cw, .slice Ag lg cg])]).run Tryz.prog w = .ok (.slice (some ⟨w.heap.size, 0, none⟩) 1 1) (w.alloc (.cells #[.string n, .string o, .string u, .int .i64 k, .int .i64 lo, .int .i64 hi, .slice Aw lw cw, .slice Ag lg cg] 74)) := by go_simp
end Go.Proofs.YtkgddcemocfgfaaGreatDoor
end

