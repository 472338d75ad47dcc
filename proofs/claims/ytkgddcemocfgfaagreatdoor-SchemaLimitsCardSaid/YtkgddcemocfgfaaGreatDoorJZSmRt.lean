import Derived.Test.YtkgddcemocfgfaaGreatDoorJZSmGz
import Derived.Test.YtkgddcemocfgfaaGreatDoorJZSmPt
import Derived.Test.YtkgddcemocfgfaaGreatDoorJZSmSn

section
/- Reading what is written: the tokens of a schema are read as the schema. Plain mathematics. -/



namespace Go.Proofs.YtkgddcemocfgfaaGreatDoor
open Go.RowKit
set_option linter.unusedVariables false
set_option linter.unusedSimpArgs false

namespace Sm
/-- The reader stands ahead of these tokens. -/
def Ahead (T : List ByteArray) (p : PS) (l : List ByteArray) : Prop := p.f = false ∧ T.drop p.i = l
section
variable {T l r : List ByteArray} {p : PS} {a : ByteArray}
theorem Ahead.look (h : Ahead T p (a :: l)) : look T p = a := by
 unfold Sm.look
 rw [if_neg (by rw [h.1]; decide), List.getD_eq_getElem?_getD]
 have : T[p.i]? = some a := by
  have := congrArg (fun m => m[0]?) h.2
  simpa [List.getElem?_drop] using this
 rw [this]; rfl
theorem Ahead.none (h : Ahead T p []) : Sm.look T p = nil := by
 unfold Sm.look
 rw [if_neg (by rw [h.1]; decide), List.getD_eq_getElem?_getD, List.getElem?_eq_none (List.drop_eq_nil_iff.1 h.2)]
 rfl
theorem Ahead.head (h : Ahead T p r) : Sm.look T p = r.headD nil := by
 cases r with
 | nil => exact h.none
 | cons a l => exact h.look
theorem Ahead.next (h : Ahead T p (a :: l)) : Ahead T ⟨p.i + 1, p.f⟩ l := by
 refine ⟨h.1, ?_⟩
 have := congrArg List.tail h.2
 rw [List.tail_drop] at this
 exact this
theorem Ahead.take (h : Ahead T p (a :: l)) {b : Bool} (hr : b = true) (ha : a.size ≠ 0) : takeW T b p = a ∧ Ahead T (takeP T b p) l := by
 subst hr
 unfold takeW takeP
 rw [if_pos rfl, h.look, if_pos ⟨rfl, ha⟩]
 exact ⟨rfl, h.next⟩
theorem Ahead.name (h : Ahead T p (a :: l)) (hn : isName a = true) : nameW T p = a ∧ Ahead T (nameP T p) l := by
 unfold nameW nameP
 exact h.take (by rw [h.look]; exact hn) (name_ne hn)
end
/-- A number that a text can hold. -/
def nine (n : Int) : Prop := -1000000000 < n ∧ n < 1000000000
theorem dec_len9 {u : Nat} (h : u < 1000000000) : (Lib.decDigits u).length ≤ 9 := by
 have key : ∀ (k u : Nat), u < 10 ^ (k + 1) → (Lib.decDigits u).length ≤ k + 1 := by
  intro k
  induction k with
  | zero => intro u hu; rw [Lib.decDigits, dif_pos (by simpa using hu)]; simp
  | succ k ih =>
   intro u hu
   rw [Lib.decDigits]
   split
   ·simp
   ·rw [List.length_append]
    have := ih (u / 10) (by rw [Nat.pow_succ] at hu; omega)
    simp only [List.length_singleton]; omega
 exact key 8 u (by simpa using h)
theorem dec_digit (u : Nat) : (Lib.decDigits u).all digit = true := by
 rw [List.all_eq_true]
 intro c hc
 exact decide_eq_true (Rt.dec_dig u c hc)
theorem dec_val (u : Nat) : digitsV (Lib.decDigits u) = (u : Int) := by
 unfold digitsV
 rw [Rt.val10_dec]
theorem valW_dec {n : Int} (h : nine n) : valW (dec n) = (n, true) := by
 unfold nine at h
 have h9 := dec_len9 (u := n.natAbs) (by omega)
 have hp : 0 < (Lib.decDigits n.natAbs).length := List.length_pos_iff.2 (Rt.dec_ne _)
 unfold dec
 by_cases h0 : n < 0
 ·rw [if_pos h0]
  unfold valW
  rw [if_pos (show (45 :: Lib.decDigits n.natAbs).getD 0 0 = 45 from rfl), if_neg (by rw [List.length_cons]; omega)]
  show (if (Lib.decDigits n.natAbs).all digit = true then (-digitsV (Lib.decDigits n.natAbs), true) else (0, false)) = _
  rw [if_pos (dec_digit _), dec_val]
  congr 1
  omega
 ·rw [if_neg h0]
  obtain ⟨c, r, hc, hd⟩ := Rt.dec_cons n.natAbs
  have hne : ¬ (Lib.decDigits n.natAbs).getD 0 0 = 45 := by
   rw [hc]
   show ¬ c = 45
   rintro rfl
   unfold Rt.Dig at hd
   exact absurd hd.1 (by decide)
  unfold valW
  rw [if_neg hne, if_neg (by omega), if_pos (dec_digit _), dec_val]
  congr 1
  omega
theorem sb_itoa (n : Int) : sb (itoaB n) = dec n := rfl
theorem itoa_size {n : Int} : (itoaB n).size ≠ 0 := by
 unfold itoaB
 rw [size_bs]
 unfold dec
 have hp : 0 < (Lib.decDigits n.natAbs).length := List.length_pos_iff.2 (Rt.dec_ne _)
 split
 ·rw [List.length_cons]; omega
 ·omega
section
variable {T l r : List ByteArray} {p : PS} {a : ByteArray} {n : Int}
theorem Ahead.num (h : Ahead T p (itoaB n :: l)) (hn : nine n) : numV T p = n ∧ Ahead T (numP T p) l := by
 have hv := valW_dec hn
 unfold numV numP
 rw [h.look, sb_itoa, hv]
 exact ⟨rfl, (h.take rfl itoa_size).2⟩
theorem Ahead.cnt (h : Ahead T p (itoaB n :: l)) (h1 : 1 ≤ n) (h2 : n ≤ 12) : numV T p = n ∧ Ahead T (cntP T p) l := by
 have hn : nine n := ⟨by omega, by omega⟩
 have hv := valW_dec hn
 have hw := (h.num hn).1
 refine ⟨hw, ?_⟩
 unfold cntP
 rw [hw, h.look, sb_itoa, hv]
 exact (h.take (by unfold within; rw [Bool.true_and]; exact decide_eq_true ⟨h1, h2⟩) itoa_size).2
theorem name_dash {s : ByteArray} (h : isName s = true) : eqW s dash = false := by
 cases he : eqW s dash with
 | false => rfl
 | true =>
  unfold eqW at he
  rw [beq_iff_eq, Lib.toList_data, Lib.toList_data] at he
  have : sb s = [45] := he
  unfold isName at h
  rw [this] at h
  exact absurd h (by decide)
theorem size_nil {s : ByteArray} (h : s.size = 0) : s = nil := by
 cases s with
 | mk d =>
  have : d = #[] := Array.eq_empty_of_size_eq_zero h
  rw [this]; rfl
theorem Ahead.names (h : Ahead T p (tok a :: l)) (ha : a.size = 0 ∨ isName a = true) : namesW T p = a ∧ Ahead T (namesP T p) l := by
 by_cases hn : isName a = true
 ·rw [tok_name hn] at h
  have hr : namesR T p = true := by unfold namesR; rw [h.look, hn]; rfl
  have ht := h.take hr (name_ne hn)
  unfold namesW namesP
  rw [ht.1, name_dash hn, if_neg (by decide)]
  exact ⟨rfl, ht.2⟩
 ·obtain rfl := size_nil (ha.resolve_right hn)
  have ed : tok nil = dash := by unfold tok; rw [if_pos (by rw [Lib.toList_data]; rfl)]; rfl
  rw [ed] at h
  have hd : eqW dash dash = true := by unfold eqW; rw [beq_iff_eq]
  have hr : namesR T p = true := by unfold namesR; rw [h.look, hd, Bool.or_true]
  have ht := h.take hr (by decide)
  unfold namesW namesP
  rw [ht.1, if_pos hd]
  exact ⟨rfl, ht.2⟩
theorem Ahead.want {w : ByteArray} (h : Ahead T p (w :: l)) (hw : w.size ≠ 0) : Ahead T (wantP T w p) l := by
 unfold wantP
 exact (h.take (by rw [h.look]; unfold eqW; rw [beq_iff_eq]) hw).2
end
theorem wordOf_data (w : ByteArray) : wordOf w = first (fun x => w.data.toList == x.data.toList) wordsL := by
 unfold wordOf
 congr 1
 funext x
 unfold eqW
 rw [Lib.toList_data, Lib.toList_data]
theorem wordOf_shp (k : Int) (h0 : 0 ≤ k) (h1 : k < 9) : wordOf (shpOf k).word = k := by
 have hk : k = 0 ∨ k = 1 ∨ k = 2 ∨ k = 3 ∨ k = 4 ∨ k = 5 ∨ k = 6 ∨ k = 7 ∨ k = 8 := by omega
 rw [wordOf_data]
 rcases hk with e | e | e | e | e | e | e | e | e <;> (rw [e]; decide)

/-! ### A field -/
def upT (f : Fd) : List ByteArray := if usesUp f.kind then [tok f.up] else []
def ofT (f : Fd) : List ByteArray := if usesOf f.kind then [tok f.of] else []
def loT (f : Fd) : List ByteArray := if usesLo f.kind then [itoaB f.lo] else []
def hiT (f : Fd) : List ByteArray := if usesHi f.kind then [itoaB f.hi] else []
def wdT (f : Fd) : List ByteArray := if usesWords f.kind then itoaB f.words.length :: (pairs f).flatMap wordTok else []
theorem toks_field {f : Fd} (h0 : 0 ≤ f.kind) (h1 : f.kind < 9) (hw : usesWords f.kind = false → pairs f = []) : fieldTok f = (shpOf f.kind).word :: f.name :: (upT f ++ (ofT f ++ (loT f ++ (hiT f ++ wdT f)))) := by
 have hk : f.kind = 0 ∨ f.kind = 1 ∨ f.kind = 2 ∨ f.kind = 3 ∨ f.kind = 4 ∨ f.kind = 5 ∨ f.kind = 6 ∨ f.kind = 7 ∨ f.kind = 8 := by omega
 unfold fieldTok tokF5 tokF4 tokF3 tokF2 tokF1 upT ofT loT hiT wdT
 rcases hk with e | e | e | e | e | e | e | e | e
 all_goals (
  rw [e] at hw ⊢
  first
   | rw [hw (by decide)]
   | skip
  rfl)
section
variable {T r : List ByteArray} {p : PS} {f : Fd}
theorem read_up (h : Ahead T p (upT f ++ r)) (h0 : usesUp f.kind = false → f.up.size = 0) (h1 : usesUp f.kind = true → isName f.up = true) : (if usesUp f.kind then nameW T p else nil) = f.up ∧ Ahead T (f2 T f.kind p) r := by
 unfold upT at h
 unfold f2
 cases hu : usesUp f.kind with
 | true =>
  rw [hu, if_pos rfl, tok_name (h1 hu)] at h
  rw [if_pos rfl, if_pos rfl]
  exact Ahead.name h (h1 hu)
 | false =>
  rw [hu, if_neg (by decide)] at h
  rw [if_neg (by decide), if_neg (by decide)]
  exact ⟨(size_nil (h0 hu)).symm, h⟩
theorem read_of (h : Ahead T p (ofT f ++ r)) (h0 : usesOf f.kind = false → f.of.size = 0) (h1 : usesOf f.kind = true → isName f.of = true ∨ f.kind = 4 ∧ f.of.size = 0) : (if f.kind = 4 then namesW T p else if usesOf f.kind then nameW T p else nil) = f.of ∧ Ahead T (f3 T f.kind p) r := by
 unfold ofT at h
 unfold f3
 by_cases h4 : f.kind = 4
 ·have hu : usesOf f.kind = true := by rw [h4]; rfl
  rw [hu, if_pos rfl] at h
  rw [if_pos h4, if_pos h4]
  exact Ahead.names h ((h1 hu).elim .inr fun x => .inl x.2)
 ·rw [if_neg h4, if_neg h4]
  cases hu : usesOf f.kind with
  | true =>
   have hn := (h1 hu).resolve_right fun x => h4 x.1
   rw [hu, if_pos rfl, tok_name hn] at h
   rw [if_pos rfl, if_pos rfl]
   exact Ahead.name h hn
  | false =>
   rw [hu, if_neg (by decide)] at h
   rw [if_neg (by decide), if_neg (by decide)]
   exact ⟨(size_nil (h0 hu)).symm, h⟩
theorem read_lo (h : Ahead T p (loT f ++ r)) (h0 : usesLo f.kind = false → f.lo = 0) (h1 : nine f.lo) : (if usesLo f.kind then numV T p else 0) = f.lo ∧ Ahead T (f4 T f.kind p) r := by
 unfold loT at h
 unfold f4
 cases hu : usesLo f.kind with
 | true =>
  rw [hu, if_pos rfl] at h
  rw [if_pos rfl, if_pos rfl]
  exact Ahead.num h h1
 | false =>
  rw [hu, if_neg (by decide)] at h
  rw [if_neg (by decide), if_neg (by decide)]
  exact ⟨(h0 hu).symm, h⟩
theorem read_hi (h : Ahead T p (hiT f ++ r)) (h0 : usesHi f.kind = false → f.hi = 0) (h1 : nine f.hi) : (if usesHi f.kind then numV T p else 0) = f.hi ∧ Ahead T (f5 T f.kind p) r := by
 unfold hiT at h
 unfold f5
 cases hu : usesHi f.kind with
 | true =>
  rw [hu, if_pos rfl] at h
  rw [if_pos rfl, if_pos rfl]
  exact Ahead.num h h1
 | false =>
  rw [hu, if_neg (by decide)] at h
  rw [if_neg (by decide), if_neg (by decide)]
  exact ⟨(h0 hu).symm, h⟩
end
theorem read_picks {T r : List ByteArray} : ∀ (l a : List (ByteArray × Int)) (p : PS), Ahead T p (l.flatMap wordTok ++ r) → (∀ x ∈ l, isName x.1 = true ∧ nine x.2) → (picks T l.length a p).1 = a ++ l ∧ Ahead T (picks T l.length a p).2 r := by
 intro l
 induction l with
 | nil => intro a p h _; exact ⟨(List.append_nil a).symm, h⟩
 | cons x l ih =>
  intro a p h hx
  obtain ⟨h1, h2⟩ := hx x (by simp)
  rw [List.flatMap_cons] at h
  have h : Ahead T p (x.1 :: itoaB x.2 :: (l.flatMap wordTok ++ r)) := h
  have g1 := h.name h1
  have g2 := g1.2.num h2
  rw [List.length_cons]
  unfold picks
  rw [if_neg (by rw [h.1]; decide), g1.1, g2.1]
  have := ih (a ++ [(x.1, x.2)]) _ g2.2 fun y hy => hx y (by simp [hy])
  rw [this.1]
  exact ⟨by simp, this.2⟩
theorem read_words {T r : List ByteArray} {p : PS} {f : Fd} (h : Ahead T p (wdT f ++ r)) (h0 : usesWords f.kind = false → f.words = [] ∧ f.weights = []) (h1 : usesWords f.kind = true → 1 ≤ f.words.length ∧ f.words.length ≤ 12 ∧ f.words.length = f.weights.length ∧ (∀ s ∈ f.words, isName s = true) ∧ ∀ n ∈ f.weights, nine n) :
  (f6 T f.kind p).1.map (·.1) = f.words ∧ (f6 T f.kind p).1.map (·.2) = f.weights ∧ Ahead T (f6 T f.kind p).2 r := by
 unfold wdT at h
 unfold f6
 cases hu : usesWords f.kind with
 | true =>
  obtain ⟨a1, a2, a3, a4, a5⟩ := h1 hu
  rw [hu, if_pos rfl] at h
  rw [if_pos rfl]
  have g1 := Ahead.cnt h (n := f.words.length) (by omega) (by omega)
  rw [g1.1]
  have hl : (pairs f).length = f.words.length := by unfold pairs; rw [List.length_zip]; omega
  have g2 := read_picks (pairs f) [] _ g1.2 fun x hx => ⟨a4 _ (List.of_mem_zip hx).1, a5 _ (List.of_mem_zip hx).2⟩
  rw [hl] at g2
  rw [show ((f.words.length : Nat) : Int).toNat = f.words.length by omega, g2.1, List.nil_append]
  refine ⟨?_, ?_, g2.2⟩
  ·unfold pairs; rw [List.map_fst_zip (by omega)]
  ·unfold pairs; rw [List.map_snd_zip (by omega)]
 | false =>
  rw [hu, if_neg (by decide)] at h
  rw [if_neg (by decide)]
  rw [(h0 hu).1, (h0 hu).2]
  exact ⟨rfl, rfl, h⟩
theorem within_nine {n : Int} (h : within n (-1048576) 1048576 = true) : nine n := by have := within_out h; unfold nine; omega
/-- What a valid field owes. -/
theorem field_parts {f : Fd} (h : isField f = true) : (0 ≤ f.kind ∧ f.kind < 9) ∧ isName f.name = true ∧ ((usesUp f.kind = false → f.up.size = 0) ∧ (usesUp f.kind = true → isName f.up = true)) ∧ ((usesOf f.kind = false → f.of.size = 0) ∧ (usesOf f.kind = true → isName f.of = true ∨ f.kind = 4 ∧ f.of.size = 0)) ∧
  ((usesLo f.kind = false → f.lo = 0) ∧ nine f.lo) ∧ ((usesHi f.kind = false → f.hi = 0) ∧ nine f.hi) ∧ ((usesWords f.kind = false → f.words = [] ∧ f.weights = []) ∧ (usesWords f.kind = true → 1 ≤ f.words.length ∧ f.words.length ≤ 12 ∧ f.words.length = f.weights.length ∧ (∀ s ∈ f.words, isName s = true) ∧ ∀ n ∈ f.weights, nine n)) := by
 unfold isField at h
 rw [Bool.and_eq_true, Bool.and_eq_true] at h
 obtain ⟨h1, h2, h3⟩ := h
 unfold plainField at h1
 simp only [Bool.and_eq_true, Bool.or_eq_true, decide_eq_true_eq] at h1
 obtain ⟨⟨k0, k1⟩, hn, ho, hu, hlo, hhi, hw⟩ := h1
 unfold leads at h2
 simp only [Bool.and_eq_true, Bool.or_eq_true, Bool.not_eq_true', decide_eq_true_eq] at h2
 obtain ⟨l1, l2⟩ := h2
 have hk : f.kind = 0 ∨ f.kind = 1 ∨ f.kind = 2 ∨ f.kind = 3 ∨ f.kind = 4 ∨ f.kind = 5 ∨ f.kind = 6 ∨ f.kind = 7 ∨ f.kind = 8 := by omega
 have res : ∀ {b : Bool} {P : Prop}, b = true ∨ P → b = false → P := fun h e => h.resolve_left (by rw [e]; decide)
 have res' : ∀ {b : Bool} {P : Prop}, b = false ∨ P → b = true → P := fun h e => h.resolve_left (by rw [e]; decide)
 have hlh : nine f.lo ∧ nine f.hi := by
  unfold nine
  rcases hk with e | e | e | e | e | e | e | e | e
  all_goals (
   rw [e] at hlo hhi
   simp [usesLo, usesHi] at hlo hhi
   unfold fits at h3
   simp [e] at h3
   first
    | (have := within_out h3; omega)
    | (have := span_out h3; omega)
    | omega)
 refine ⟨⟨k0, k1⟩, hn, ⟨res hu, res' l2⟩, ⟨res ho, res' l1⟩, ⟨res hlo, hlh.1⟩, ⟨res hhi, hlh.2⟩, ⟨fun e => ?_, fun e => ?_⟩⟩
 ·have := res hw e
  exact ⟨List.eq_nil_of_length_eq_zero this.1, List.eq_nil_of_length_eq_zero this.2⟩
 ·have e : f.kind = 3 := of_decide_eq_true e
  unfold fits at h3
  simp [e] at h3
  unfold isPick at h3
  simp only [Bool.and_eq_true, decide_eq_true_eq, List.all_eq_true] at h3
  obtain ⟨p1, p2, p3, p4, p5⟩ := h3
  have := within_out p2
  unfold names at p5
  rw [List.all_eq_true] at p5
  refine ⟨by omega, by omega, p3, p5, fun n hn => ?_⟩
  have := within_out (p1 n hn)
  unfold nine
  omega
theorem read_field {T r : List ByteArray} {p : PS} {f : Fd} (hf : isField f = true) (h : Ahead T p (fieldTok f ++ r)) : fieldV T p = f ∧ Ahead T (fieldP T p) r ∧ ¬ wordV T p < 0 := by
 obtain ⟨h1, h2, h3, h4, h5, h6, h7, h8⟩ := field_parts hf
 rw [toks_field h1.1 h1.2 fun e => by unfold pairs; rw [(h7 e).1]; rfl] at h
 simp only [List.cons_append, List.append_assoc] at h
 have hk : wordV T p = f.kind := by
  unfold wordV
  rw [h.look, wordOf_shp _ h1.1 h1.2]
 have g1 := h.next.name h2
 have g2 := read_up g1.2 h3.1 h3.2
 have g3 := read_of g2.2 h4.1 h4.2
 have g4 := read_lo g3.2 h5.1 h5.2
 have g5 := read_hi g4.2 h6.1 h6.2
 have g6 := read_words g5.2 h7 h8
 refine ⟨?_, ?_, by rw [hk]; omega⟩
 ·unfold fieldV
  rw [hk]
  unfold f1
  dsimp only
  rw [g1.1, g2.1, g3.1, g4.1, g5.1, g6.1, g6.2.1]
 ·unfold fieldP
  rw [hk]
  unfold f1
  exact g6.2.2

/-! ### Rows of elements -/
def stopK (r : List ByteArray) : Prop := wordOf (r.headD nil) < 0
theorem read_fields {T r : List ByteArray} (hr : stopK r) : ∀ (l : List Fd) (n : Nat) (a : List Fd) (p : PS), l.length ≤ n → (∀ f ∈ l, isField f = true) → Ahead T p (l.flatMap fieldTok ++ r) → (fieldsL T n a p).1 = a ++ l ∧ Ahead T (fieldsL T n a p).2 r := by
 intro l
 induction l with
 | nil =>
  intro n a p _ _ h
  have h : Ahead T p r := h
  rw [fieldsL_end T n a p (by unfold wordV; rw [h.head]; exact hr)]
  exact ⟨(List.append_nil a).symm, h⟩
 | cons f l ih =>
  intro n a p hn hf h
  cases n with
  | zero => simp at hn
  | succ n =>
   rw [List.flatMap_cons, List.append_assoc] at h
   obtain ⟨g1, g2, g3⟩ := read_field (hf f (by simp)) h
   rw [fieldsL_next T n a p g3, g1]
   have := ih n (a ++ [f]) _ (by simpa using hn) (fun x hx => hf x (by simp [hx])) g2
   rw [this.1]
   exact ⟨by simp, this.2⟩
theorem flat_len {α β : Type} (e : α → List β) (he : ∀ x, 0 < (e x).length) (l : List α) : l.length ≤ (l.flatMap e).length := by
 induction l with
 | nil => simp
 | cons a l ih =>
  rw [List.flatMap_cons, List.length_append, List.length_cons]
  have := he a
  omega
theorem Ahead.len {T l : List ByteArray} {p : PS} (h : Ahead T p l) : l.length ≤ T.length := by
 have := congrArg List.length h.2
 rw [List.length_drop] at this
 omega
theorem read_while {α : Type} {T r wd : List ByteArray} {w : ByteArray} {V : PS → α × PS} {e : α → List ByteArray} (Q : List ByteArray → Prop) (he : ∀ x, ∃ y, e x = w :: y) (hrw : ¬ (r.headD nil).toList = w.toList) (hQ : Q r) (hQe : ∀ x y, Q (e x ++ y)) :
  ∀ (l : List α) (n : Nat) (a : List α) (p : PS), l.length ≤ n → (∀ x ∈ l, ∀ p y, Q y → Ahead T p (e x ++ y) → (V p).1 = x ∧ Ahead T (V p).2 y) → Ahead T p (l.flatMap e ++ r) → (whileL T w V n a p).1 = a ++ l ∧ Ahead T (whileL T w V n a p).2 r := by
 intro l
 induction l with
 | nil =>
  intro n a p _ _ h
  have h : Ahead T p r := h
  rw [whileL_end n a p (by rw [h.head]; exact hrw)]
  exact ⟨(List.append_nil a).symm, h⟩
 | cons x l ih =>
  intro n a p hn hV h
  cases n with
  | zero => simp at hn
  | succ n =>
   rw [List.flatMap_cons, List.append_assoc] at h
   have hy : Q (l.flatMap e ++ r) := by
    cases l with
    | nil => exact hQ
    | cons b l => rw [List.flatMap_cons, List.append_assoc]; exact hQe _ _
   obtain ⟨g1, g2⟩ := hV x (by simp) p _ hy h
   obtain ⟨y, hy2⟩ := he x
   rw [hy2] at h
   rw [whileL_next n a p (by rw [Ahead.look h]), g1]
   have := ih n (a ++ [x]) _ (by simpa using hn) (fun z hz => hV z (by simp [hz])) g2
   rw [this.1]
   exact ⟨by simp, this.2⟩
theorem read_states {T r : List ByteArray} : ∀ (l a : List ByteArray) (p : PS), Ahead T p (l ++ r) → (∀ x ∈ l, isName x = true) → (statesL T l.length a p).1 = a ++ l ∧ Ahead T (statesL T l.length a p).2 r := by
 intro l
 induction l with
 | nil => intro a p h _; exact ⟨(List.append_nil a).symm, h⟩
 | cons x l ih =>
  intro a p h hx
  rw [List.cons_append] at h
  have g1 := h.name (hx x (by simp))
  rw [List.length_cons, statesL_next T _ a p h.1, g1.1]
  have := ih (a ++ [x]) _ g1.2 fun y hy => hx y (by simp [hy])
  rw [this.1]
  exact ⟨by simp, this.2⟩
def moveTok (m : Int × Int) : List ByteArray := [moveWd, itoaB m.1, itoaB m.2]
theorem read_moves {T r : List ByteArray} (hr : ¬ (r.headD nil).toList = moveWd.toList) : ∀ (l : List (Int × Int)) (n : Nat) (a : List (Int × Int)) (p : PS), l.length ≤ n → (∀ m ∈ l, nine m.1 ∧ nine m.2) → Ahead T p (l.flatMap moveTok ++ r) → (movesL T n a p).1 = a ++ l ∧ Ahead T (movesL T n a p).2 r := by
 intro l
 induction l with
 | nil =>
  intro n a p _ _ h
  have h : Ahead T p r := h
  rw [movesL_end T n a p (by rw [h.head]; exact hr)]
  exact ⟨(List.append_nil a).symm, h⟩
 | cons m l ih =>
  intro n a p hn hm h
  cases n with
  | zero => simp at hn
  | succ n =>
   rw [List.flatMap_cons, List.append_assoc] at h
   have h : Ahead T p (moveWd :: itoaB m.1 :: itoaB m.2 :: (l.flatMap moveTok ++ r)) := h
   have g1 := h.want (by decide)
   have g2 := g1.num (hm m (by simp)).1
   have g3 := g2.2.num (hm m (by simp)).2
   have hv : moveV T p = m := by unfold moveV; rw [g2.1, g3.1]
   have hp : Ahead T (moveP T p) (l.flatMap moveTok ++ r) := g3.2
   rw [movesL_next T n a p (by rw [h.look]), hv]
   have := ih n (a ++ [m]) _ (by simpa using hn) (fun x hx => hm x (by simp [hx])) hp
   rw [this.1]
   exact ⟨by simp, this.2⟩

/-! ### A schema -/
def kindTok (k : Kd) : List ByteArray := kindWd :: k.name :: itoaB k.lo :: itoaB k.hi :: k.fields.flatMap fieldTok
def lifeTok (x : Lf) : List ByteArray := lifeWd :: x.name :: itoaB x.states.length :: (x.states ++ x.moves.flatMap moveTok)
def ruleTok (r : Ru) : List ByteArray := [ruleWd, r.name, r.kind, tok r.a, tok r.b, itoaB r.n]
/-- The tokens of a schema. -/
def tokS (x : Sc) : List ByteArray := schemaWd :: itoaB x.version :: (x.kinds.flatMap kindTok ++ (x.lives.flatMap lifeTok ++ x.rules.flatMap ruleTok))
theorem fieldTok_pos (f : Fd) : 0 < (fieldTok f).length := by
 unfold fieldTok tokF5 tokF4 tokF3 tokF2 tokF1
 split <;> split <;> split <;> simp
theorem span_nine {lo hi : Int} (h : span lo hi 0 65536 = true) : nine lo ∧ nine hi := by have := span_out h; unfold nine; omega
theorem read_kind {T r : List ByteArray} {p : PS} {k : Kd} (hk : isKind k = true) (hr : stopK r) (h : Ahead T p (kindTok k ++ r)) : (kindV T p).1 = k ∧ Ahead T (kindV T p).2 r := by
 unfold isKind at hk
 simp only [Bool.and_eq_true] at hk
 obtain ⟨h1, h2, h3, h4⟩ := hk
 unfold kindTok at h
 simp only [List.cons_append] at h
 have g1 := h.want (by decide)
 have g2 := g1.name h1
 have g3 := g2.2.num (span_nine h2).1
 have g4 := g3.2.num (span_nine h2).2
 have hlen : k.fields.length ≤ T.length + 1 := by
  have := g4.2.len
  rw [List.length_append] at this
  have := flat_len fieldTok fieldTok_pos k.fields
  omega
 have g5 := read_fields hr k.fields (T.length + 1) [] _ hlen (List.all_eq_true.1 h4) g4.2
 unfold kindV
 dsimp only
 rw [g2.1, g3.1, g4.1, g5.1]
 exact ⟨rfl, g5.2⟩
theorem read_life {T r : List ByteArray} {p : PS} {x : Lf} (hx : isLife x = true) (hr : ¬ (r.headD nil).toList = moveWd.toList) (h : Ahead T p (lifeTok x ++ r)) : (lifeV T p).1 = x ∧ Ahead T (lifeV T p).2 r := by
 unfold isLife at hx
 simp only [Bool.and_eq_true, decide_eq_true_eq] at hx
 obtain ⟨h1, h2, h3, h4, h5⟩ := hx
 have hw := within_out h2
 unfold lifeTok at h
 simp only [List.cons_append, List.append_assoc] at h
 have g1 := h.want (by decide)
 have g2 := g1.name h1
 have g3 := g2.2.cnt hw.1 hw.2
 have g4 := read_states x.states [] _ g3.2 (List.all_eq_true.1 h3)
 have hlen : x.moves.length ≤ T.length + 1 := by
  have := g4.2.len
  rw [List.length_append] at this
  have := flat_len moveTok (fun _ => by unfold moveTok; simp) x.moves
  omega
 have g5 := read_moves hr x.moves (T.length + 1) [] _ hlen (fun m hm => by
  have := List.all_eq_true.1 h5 m hm
  rw [Bool.and_eq_true] at this
  have a := within_out this.1
  have b := within_out this.2
  unfold nine
  omega) g4.2
 unfold lifeV
 dsimp only
 rw [g2.1, g3.1, show ((x.states.length : Nat) : Int).toNat = x.states.length by omega, g4.1, g5.1]
 exact ⟨rfl, g5.2⟩
theorem read_rule {T r : List ByteArray} {p : PS} {x : Ru} (hx : isRule x = true) (h : Ahead T p (ruleTok x ++ r)) : (ruleV T p).1 = x ∧ Ahead T (ruleV T p).2 r := by
 unfold isRule at hx
 simp only [Bool.and_eq_true, Bool.or_eq_true, decide_eq_true_eq] at hx
 obtain ⟨h1, h2, h3, h4, h5, h6⟩ := hx
 unfold ruleTok at h
 simp only [List.cons_append, List.nil_append] at h
 have g1 := h.want (by decide)
 have g2 := g1.name h4
 have g3 := g2.2.name h5
 have g4 := g3.2.names h1
 have g5 := g4.2.names h2
 have g6 := g5.2.num (within_nine h6)
 unfold ruleV
 dsimp only
 rw [g2.1, g3.1, g4.1, g5.1, g6.1]
 exact ⟨rfl, g6.2⟩
theorem head_flat {α : Type} {e : α → List ByteArray} {w : ByteArray} (he : ∀ x, ∃ y, e x = w :: y) (l : List α) (r : List ByteArray) : (l.flatMap e ++ r).headD nil = w ∨ (l.flatMap e ++ r) = r := by
 cases l with
 | nil => exact .inr rfl
 | cons a l =>
  obtain ⟨y, hy⟩ := he a
  rw [List.flatMap_cons, hy]
  exact .inl rfl
theorem wd_ne {a b : ByteArray} (h : a.data.toList ≠ b.data.toList) : ¬ a.toList = b.toList := by rw [Lib.toList_data, Lib.toList_data]; exact h
theorem read_tokS {x : Sc} (h : shaped x = true) : scR (tokS x) = x ∧ (rulesR (tokS x)).2.f = false ∧ (tokS x).length ≤ (rulesR (tokS x)).2.i := by
 unfold shaped at h
 simp only [Bool.and_eq_true, decide_eq_true_eq] at h
 obtain ⟨h1, h2, h3, h4, h5⟩ := h
 have hv : nine x.version := by have := within_out h1; unfold nine; omega
 obtain ⟨T, hT⟩ : ∃ T, T = tokS x := ⟨_, rfl⟩
 rw [← hT]
 have g0 : Ahead T ⟨0, false⟩ (schemaWd :: itoaB x.version :: (x.kinds.flatMap kindTok ++ (x.lives.flatMap lifeTok ++ x.rules.flatMap ruleTok))) := ⟨rfl, by rw [hT]; rfl⟩
 have g1 := g0.want (by decide)
 have g2 := g1.num hv
 have eK : ∀ k, ∃ y, kindTok k = kindWd :: y := fun k => ⟨_, rfl⟩
 have eL : ∀ k, ∃ y, lifeTok k = lifeWd :: y := fun k => ⟨_, rfl⟩
 have eR : ∀ k, ∃ y, ruleTok k = ruleWd :: y := fun k => ⟨_, rfl⟩
 have hR : ∀ (w : ByteArray), w.data.toList ≠ ruleWd.data.toList → w.data.toList ≠ nil.data.toList → ¬ ((x.rules.flatMap ruleTok).headD nil).toList = w.toList := by
  intro w a b
  rcases head_flat eR x.rules [] with e | e
  ·rw [List.append_nil] at e; rw [e]; exact wd_ne (Ne.symm a)
  ·rw [List.append_nil] at e; rw [e]; exact wd_ne (Ne.symm b)
 have hL : ∀ (w : ByteArray), w.data.toList ≠ lifeWd.data.toList → w.data.toList ≠ ruleWd.data.toList → w.data.toList ≠ nil.data.toList → ¬ ((x.lives.flatMap lifeTok ++ x.rules.flatMap ruleTok).headD nil).toList = w.toList := by
  intro w a b c
  rcases head_flat eL x.lives (x.rules.flatMap ruleTok) with e | e
  ·rw [e]; exact wd_ne (Ne.symm a)
  ·rw [e]; exact hR w b c
 have sK : stopK (x.lives.flatMap lifeTok ++ x.rules.flatMap ruleTok) := by
  unfold stopK
  rcases head_flat eL x.lives (x.rules.flatMap ruleTok) with e | e
  ·rw [e, wordOf_data]; decide
  ·rw [e]
   rcases head_flat eR x.rules [] with e | e
   ·rw [List.append_nil] at e; rw [e, wordOf_data]; decide
   ·rw [List.append_nil] at e; rw [e, wordOf_data]; decide
 have lenK : x.kinds.length ≤ T.length + 1 := by
  have := g2.2.len
  simp only [List.length_append] at this
  have := flat_len kindTok (fun _ => by unfold kindTok; simp) x.kinds
  omega
 have lenL : x.lives.length ≤ T.length + 1 := by
  have := g2.2.len
  simp only [List.length_append] at this
  have := flat_len lifeTok (fun _ => by unfold lifeTok; simp) x.lives
  omega
 have lenR : x.rules.length ≤ T.length + 1 := by
  have := g2.2.len
  simp only [List.length_append] at this
  have := flat_len ruleTok (fun _ => by unfold ruleTok; simp) x.rules
  omega
 have g3 := read_while (wd := []) stopK eK (hL kindWd (by decide) (by decide) (by decide)) sK (fun k y => by unfold stopK; obtain ⟨z, hz⟩ := eK k; rw [hz]; show wordOf kindWd < 0; rw [wordOf_data]; decide) x.kinds (T.length + 1) [] _ lenK (V := kindV T) (fun k hk p y hy hp => read_kind (List.all_eq_true.1 h3 k hk) hy hp) g2.2
 have g4 := read_while (wd := []) (fun r => ¬ (r.headD nil).toList = moveWd.toList) eL (hR lifeWd (by decide) (by decide)) (hR moveWd (by decide) (by decide)) (fun k y => by obtain ⟨z, hz⟩ := eL k; rw [hz]; show ¬ lifeWd.toList = moveWd.toList; exact wd_ne (by decide)) x.lives (T.length + 1) [] _ lenL (V := lifeV T) (fun k hk p y hy hp => read_life (List.all_eq_true.1 h4 k hk) hy hp) g3.2
 have g5 := read_while (r := []) (wd := []) (fun _ => True) eR (wd_ne (by decide)) trivial (fun _ _ => trivial) x.rules (T.length + 1) [] _ lenR (V := ruleV T) (fun k hk p y hy hp => read_rule (List.all_eq_true.1 h5 k hk) hp) (by rw [List.append_nil]; exact g4.2)
 have k1 : (kindsR T).1 = x.kinds := g3.1
 have k2 : (livesR T).1 = x.lives := g4.1
 have k3 : (rulesR T).1 = x.rules := g5.1
 have k4 : Ahead T (rulesR T).2 [] := g5.2
 refine ⟨?_, k4.1, List.drop_eq_nil_iff.1 k4.2⟩
 unfold scR
 rw [k1, k2, k3]
 have : numV T (headP T) = x.version := g2.1
 rw [this]
theorem valid_shaped {x : Sc} (h : validE x = 0) : shaped x = true ∧ (source x).size ≤ 8192 := by
 unfold validE at h
 split at h
 ·cases h
 ·rename_i h2
  split at h
  ·cases h
  ·rename_i h3
   exact ⟨by simpa using h2, by omega⟩
/-- A text whose tokens are a valid schema's is read as it. -/
theorem parse_tokens {s : ByteArray} {x : Sc} (hs : s.size ≤ 8192) (hv : validE x = 0) (ht : tokT s (scan (sb s)).1 = tokS x) (hst : (scan (sb s)).2 = s.size) : parseR s = (x, 0, 0) := by
 obtain ⟨h1, h2, h3⟩ := read_tokS (valid_shaped hv).1
 unfold parseR
 rw [if_neg (by omega)]
 dsimp only
 rw [ht, if_neg (by omega), if_neg (by rw [h2, hst]; simp), h1, if_neg (by simp [hv])]
end Sm
end Go.Proofs.YtkgddcemocfgfaaGreatDoor
end

