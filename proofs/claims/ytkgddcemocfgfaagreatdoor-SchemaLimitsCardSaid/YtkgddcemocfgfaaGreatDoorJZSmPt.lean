import Derived.Test.YtkgddcemocfgfaaGreatDoorJZSmPo
import Derived.Test.YtkgddcemocfgfaaGreatDoorJZSmSb
import Derived.Test.YtkgddcemocfgfaaGreatDoorJZSmSn

section
/- The reference's parser: what Parse reads; a row of structs that grows. -/



namespace Go.Proofs.YtkgddcemocfgfaaGreatDoor
open Go.RowKit
set_option linter.unusedVariables false
set_option linter.unusedSimpArgs false
set_option maxRecDepth 100000

namespace Sm
section
variable {α : Type} {T : List ByteArray} {wd : ByteArray} {V : PS → α × PS}
/-- What a loop reads as long as a word stands there: at most n more. -/
def whileL (T : List ByteArray) (wd : ByteArray) (V : PS → α × PS) : Nat → List α → PS → List α × PS
 | 0, a, p => (a, p)
 | n + 1, a, p => if eqW (look T p) wd = true then whileL T wd V n (a ++ [(V p).1]) (V p).2 else (a, p)
theorem whileL_end (n : Nat) (a : List α) (p : PS) (h : ¬ (look T p).toList = wd.toList) : whileL T wd V n a p = (a, p) := by
 cases n with
 | zero => rfl
 | succ n => unfold whileL; rw [if_neg (by unfold eqW; simpa using h)]
theorem whileL_next (n : Nat) (a : List α) (p : PS) (h : (look T p).toList = wd.toList) : whileL T wd V (n + 1) a p = whileL T wd V n (a ++ [(V p).1]) (V p).2 := by
 conv => lhs; unfold whileL
 rw [if_pos (by unfold eqW; simpa using h)]
theorem whileL_on (hV : ∀ p, (look T p).toList = wd.toList → On T p (V p).2) : ∀ (n : Nat) (a : List α) (p : PS), On T p (whileL T wd V n a p).2 := by
 intro n
 induction n with
 | zero => intro a p; exact On.refl T p
 | succ n ih =>
  intro a p
  unfold whileL
  split
  ·rename_i x
   exact (hV p (by unfold eqW at x; simpa using x)).trans (ih _ _)
  ·exact On.refl T p
end
theorem fieldsL_on (T : List ByteArray) : ∀ (n : Nat) (a : List Fd) (p : PS), On T p (fieldsL T n a p).2 := by
 intro n
 induction n with
 | zero => intro a p; exact On.refl T p
 | succ n ih =>
  intro a p
  unfold fieldsL
  split
  ·exact On.refl T p
  ·rename_i x
   intro h
   have hi := wordV_in (T := T) (p := p) (by omega)
   have h1 := fieldP_on T p hi.2.2
   have h2 := ih (a ++ [fieldV T p]) (fieldP T p) h1.2
   omega
theorem kindV_on {T : List ByteArray} {p : PS} (h : (look T p).toList = kindWd.toList) : p.i + 1 ≤ (kindV T p).2.i ∧ (kindV T p).2.i ≤ T.length := by
 obtain ⟨e, -, hlt⟩ := wantP_next h (by decide)
 unfold kindV
 simp only [e]
 exact ((nameP_on T ⟨p.i + 1, p.f⟩).trans ((numP_on T _).trans ((numP_on T _).trans (fieldsL_on T _ _ _)))) hlt
theorem movesL_on (T : List ByteArray) : ∀ (n : Nat) (a : List (Int × Int)) (p : PS), On T p (movesL T n a p).2 := by
 intro n
 induction n with
 | zero => intro a p; exact On.refl T p
 | succ n ih =>
  intro a p
  unfold movesL
  split
  ·rename_i x
   intro h
   have h1 := moveP_on (T := T) (p := p) (by unfold eqW at x; simpa using x)
   have h2 := ih (a ++ [moveV T p]) (moveP T p) h1.2
   omega
  ·exact On.refl T p
theorem lifeV_on {T : List ByteArray} {p : PS} (h : (look T p).toList = lifeWd.toList) : p.i + 1 ≤ (lifeV T p).2.i ∧ (lifeV T p).2.i ≤ T.length := by
 obtain ⟨e, -, hlt⟩ := wantP_next h (by decide)
 unfold lifeV
 simp only [e]
 exact ((nameP_on T ⟨p.i + 1, p.f⟩).trans ((cntP_on T _).trans ((statesL_on T _ _ _).trans (movesL_on T _ _ _)))) hlt
theorem ruleV_on {T : List ByteArray} {p : PS} (h : (look T p).toList = ruleWd.toList) : p.i + 1 ≤ (ruleV T p).2.i ∧ (ruleV T p).2.i ≤ T.length := by
 obtain ⟨e, -, hlt⟩ := wantP_next h (by decide)
 unfold ruleV
 simp only [e]
 exact ((nameP_on T ⟨p.i + 1, p.f⟩).trans ((nameP_on T _).trans ((namesP_on T _).trans ((namesP_on T _).trans (numP_on T _))))) hlt
def schemaWd : ByteArray := ⟨#[115, 99, 104, 101, 109, 97]⟩
def zeroSc : Sc := ⟨0, [], [], []⟩
/-- The parts that Parse reads of the tokens, and where it stands then. -/
def headP (T : List ByteArray) : PS := wantP T schemaWd ⟨0, false⟩
def kindsR (T : List ByteArray) : List Kd × PS := whileL T kindWd (kindV T) (T.length + 1) [] (numP T (headP T))
def livesR (T : List ByteArray) : List Lf × PS := whileL T lifeWd (lifeV T) (T.length + 1) [] (kindsR T).2
def rulesR (T : List ByteArray) : List Ru × PS := whileL T ruleWd (ruleV T) (T.length + 1) [] (livesR T).2
def scR (T : List ByteArray) : Sc := ⟨numV T (headP T), (kindsR T).1, (livesR T).1, (rulesR T).1⟩
theorem rulesR_on (T : List ByteArray) : (rulesR T).2.i ≤ T.length := by
 unfold rulesR livesR kindsR headP
 exact ((wantP_on T schemaWd ⟨0, false⟩).trans ((numP_on T _).trans ((whileL_on (fun p h hi => ⟨Nat.le_of_succ_le (kindV_on h).1, (kindV_on h).2⟩) _ _ _).trans ((whileL_on (fun p h hi => ⟨Nat.le_of_succ_le (lifeV_on h).1, (lifeV_on h).2⟩) _ _ _).trans (whileL_on (fun p h hi => ⟨Nat.le_of_succ_le (ruleV_on h).1, (ruleV_on h).2⟩) _ _ _))))) (Nat.zero_le _) |>.2
/-- What Parse answers: the schema, a place, an error. -/
def parseR (s : ByteArray) : Sc × Nat × Int :=
 if 8192 < s.size then (zeroSc, 8192, 4) else
 let ts := (scan (sb s)).1
 let T := tokT s ts
 let p := (rulesR T).2
 if p.i < T.length then (zeroSc, (ts.getD p.i (0, 0)).1, 2)
 else if p.f = true ∨ (scan (sb s)).2 < s.size then (zeroSc, (scan (sb s)).2, 2)
 else if validE (scR T) ≠ 0 then (zeroSc, 0, 4)
 else (scR T, 0, 0)
end Sm
/-! ### A row of structs that grows -/
def ElsB (base : Nat) (v : Value) (w : World) (k : Nat) : Prop := base ≤ k ∧ k < w.heap.size ∧ v.ownBlock ≠ some k
def GRow {α : Type} (C : (Nat → Prop) → World → α → List Value → Prop) (t : TypeId) (n base : Nat) (v : Value) (L : List α) (w : World) : Prop :=
 ∃ cs : List (List Value), cs.length = L.length ∧ (∀ (i : Nat) (a : α) (c : List Value), L[i]? = some a → cs[i]? = some c → C (ElsB base v w) w a c) ∧ w.ownsRow base t n v L.length cs.flatten
section
variable {α : Type} {C : (Nat → Prop) → World → α → List Value → Prop} {t : TypeId} {n base : Nat} {v v' : Value} {L : List α} {x w w' : World}
theorem GRow.nil (C : (Nat → Prop) → World → α → List Value → Prop) (t : TypeId) (n base : Nat) (w : World) : GRow C t n base (.slice none 0 0) [] w := ⟨[], rfl, fun i a c h => by simp at h, World.ownsRow_nil _ _ _ _⟩
theorem GRow.but {b : Nat} (h : GRow C t n base v L w) (hK : ∀ (S : Nat → Prop) (w w' : World) a c, C S w a c → KeepS S w w' → C S w' a c) (hM : ∀ (S S' : Nat → Prop) (w : World) a c, C S w a c → (∀ k, S k → S' k) → C S' w a c) (hb : But b w w') (hB : b < base) : GRow C t n base v L w' := by
 obtain ⟨cs, h1, h2, h3⟩ := h
 exact ⟨cs, h1, fun i a c ha hc => hM _ _ _ _ _ (hK _ _ _ _ _ (h2 i a c ha hc) fun q hq => hb.cell hq.2.1 (by have := hq.1; omega)) fun k hk => ⟨hk.1, Nat.lt_of_lt_of_le hk.2.1 hb.size, hk.2.2⟩, own_but h3 hb hB⟩
theorem GRow.snoc {f : α} {c : List Value} (hK : ∀ (S : Nat → Prop) (w w' : World) a c, C S w a c → KeepS S w w' → C S w' a c) (hM : ∀ (S S' : Nat → Prop) (w : World) a c, C S w a c → (∀ k, S k → S' k) → C S' w a c)
  (hg : w.grownBy w' v.ownBlock) (hat : v'.ownBlock = v.ownBlock ∨ v'.ownBlock = some w.heap.size)
  (hc : C (Fresh x w) w f c) (hx : base ≤ x.heap.size) (hv : ∀ k, v.ownBlock = some k → k < x.heap.size)
  (cs : List (List Value)) (hcs : cs.length = L.length) (hel : ∀ (i : Nat) (a : α) (c : List Value), L[i]? = some a → cs[i]? = some c → C (ElsB base v w) w a c) (hown : w'.ownsRow base t n v' (L.length + 1) (cs.flatten ++ c)) : GRow C t n base v' (L ++ [f]) w' := by
 have hk1 : ∀ k, ElsB base v w k → ElsB base v' w' k := fun k hk => ⟨hk.1, Nat.lt_of_lt_of_le hk.2.1 hg.size, fun e => by
  rcases hat with hh | hh
  ·rw [hh] at e; exact hk.2.2 e
  ·rw [hh] at e; injection e with e; have := hk.2.1; omega⟩
 have hk2 : ∀ k, Fresh x w k → ElsB base v w k := fun k hk => ⟨by have := hk.1; omega, hk.2, fun e => by have := hv k e; have := hk.1; omega⟩
 have hks : KeepS (ElsB base v w) w w' := fun q hq => by
  unfold World.cell?
  rw [hg.block q.block hq.2.1 (fun e => hq.2.2 e.symm)]
 refine ⟨cs ++ [c], by rw [List.length_append, List.length_append, hcs]; rfl, fun i a d ha hd => ?_, by rw [List.flatten_append, List.length_append]; simpa using hown⟩
 by_cases hi : i < L.length
 ·rw [List.getElem?_append_left hi] at ha
  rw [List.getElem?_append_left (by omega)] at hd
  exact hM _ _ _ _ _ (hK _ _ _ _ _ (hel i a d ha hd) hks) hk1
 ·have hi2 : i = L.length := by
   have := (List.getElem?_eq_some_iff.1 ha).1
   rw [List.length_append] at this
   simp at this; omega
  subst hi2
  rw [List.getElem?_append_right (Nat.le_refl _), Nat.sub_self] at ha
  rw [List.getElem?_append_right (by omega), hcs, Nat.sub_self] at hd
  obtain rfl := Option.some.inj ha
  obtain rfl := Option.some.inj hd
  exact hM _ _ _ _ _ (hK _ _ _ _ _ (hM _ _ _ _ _ hc hk2) hks) hk1
/-- A row that has grown, as what is read of it. -/
theorem GRow.rows (h : GRow C t n base v L w) (hM : ∀ (S S' : Nat → Prop) (w : World) a c, C S w a c → (∀ k, S k → S' k) → C S' w a c) : ∃ A c, v = .slice A L.length c ∧ RowsS (fun k => base ≤ k ∧ k < w.heap.size) (C fun k => base ≤ k ∧ k < w.heap.size) w A L ∧ L.length ≤ c ∧ c ≤ maxLen := by
 obtain ⟨cs, h1, h2, h3⟩ := h
 obtain ⟨A, c, e, hr, hl, hm⟩ := own_rdB h3
 exact ⟨A, c, e, ⟨cs, h1, fun i a d ha hd => hM _ _ _ _ _ (h2 i a d ha hd) fun k hk => ⟨hk.1, hk.2.1⟩, hr⟩, hl, hm⟩
end
def RuS (S : Nat → Prop) (w : World) (r : Sm.Ru) (c : List Value) : Prop := c = [.string r.name, .string r.kind, .string r.a, .string r.b, .int .i64 r.n]
end Go.Proofs.YtkgddcemocfgfaaGreatDoor
end

section
/- The program's reader of sources: tokens one after the other. Plain mathematics. -/

namespace Go.Proofs.YtkgddcemocfgfaaGreatDoor
open Go.RowKit
set_option linter.unusedVariables false

namespace Sm
/-- Where the blanks that begin at i end. -/
def skip (l : List UInt8) : Nat → Nat → Nat
 | 0, i => i
 | n + 1, i => if i < l.length ∧ blank (l.getD i 0) = true then skip l n (i + 1) else i
theorem skip_end (l : List UInt8) (n i : Nat) (h : ¬ (i < l.length ∧ blank (l.getD i 0) = true)) : skip l n i = i := by
 cases n with
 | zero => rfl
 | succ n => unfold skip; rw [if_neg h]
theorem skip_next (l : List UInt8) (n i : Nat) (h : i < l.length) (hc : blank (l.getD i 0) = true) : skip l (n + 1) i = skip l n (i + 1) := by
 conv => lhs; unfold skip
 rw [if_pos ⟨h, hc⟩]
theorem skip_le (l : List UInt8) : ∀ (n i : Nat), i ≤ l.length → i ≤ skip l n i ∧ skip l n i ≤ l.length := by
 intro n
 induction n with
 | zero => intro i h; exact ⟨Nat.le_refl _, h⟩
 | succ n ih =>
  intro i h
  unfold skip
  split
  ·rename_i x
   have := ih (i + 1) x.1
   omega
  ·exact ⟨Nat.le_refl _, h⟩
theorem skip_fuel (l : List UInt8) : ∀ (n m i : Nat), l.length ≤ i + n → l.length ≤ i + m → skip l n i = skip l m i := by
 intro n
 induction n with
 | zero => intro m i h1 h2; rw [skip_end l m i (by omega)]; rfl
 | succ n ih =>
  intro m i h1 h2
  by_cases h : i < l.length ∧ blank (l.getD i 0) = true
  ·obtain ⟨m', rfl⟩ : ∃ m', m = m' + 1 := ⟨m - 1, by omega⟩
   rw [skip_next l n i h.1 h.2, skip_next l m' i h.1 h.2]
   exact ih m' (i + 1) (by omega) (by omega)
  ·rw [skip_end l _ i h, skip_end l _ i h]
/-- Where the next token begins behind i. -/
def beg (l : List UInt8) (i : Nat) : Nat := skip l l.length i
theorem beg_blank (l : List UInt8) (i : Nat) (h : i < l.length) (hb : blank (l.getD i 0) = true) : beg l i = beg l (i + 1) := by
 unfold beg
 rw [skip_fuel l l.length (l.length + 1) i (by omega) (by omega), skip_next l l.length i h hb]
theorem beg_le (l : List UInt8) (i : Nat) (h : i ≤ l.length) : i ≤ beg l i ∧ beg l i ≤ l.length := skip_le l _ i h
/-- Tokens that follow one another from i on. -/
def Chain (l : List UInt8) : Nat → List (Nat × Nat) → Nat → Prop
 | i, [], stop => stop = beg l i ∧ tokE l l.length stop = stop
 | i, t :: ts, stop => t.1 = beg l i ∧ t.2 = tokE l l.length t.1 ∧ t.1 < t.2 ∧ Chain l t.2 ts stop
theorem Chain.of_beg {l : List UInt8} {i j : Nat} (e : beg l i = beg l j) : ∀ {ts : List (Nat × Nat)} {stop : Nat}, Chain l j ts stop → Chain l i ts stop := by
 intro ts stop h
 cases ts with
 | nil => exact ⟨h.1.trans e.symm, h.2⟩
 | cons t ts => exact ⟨h.1.trans e.symm, h.2⟩
theorem scanF_chain (l : List UInt8) : ∀ (n i : Nat) (a : List (Nat × Nat)), i ≤ l.length → l.length < i + n → ∃ rest, (scanF l n i a).1 = a ++ rest ∧ Chain l i rest (scanF l n i a).2 := by
 intro n
 induction n with
 | zero => intro i a h1 h2; omega
 | succ n ih =>
  intro i a h1 h2
  by_cases h : i < l.length
  ·cases hb : blank (l.getD i 0) with
   | true =>
    rw [scanF_blank l n i a h hb]
    obtain ⟨r, e, hc⟩ := ih (i + 1) a h (by omega)
    exact ⟨r, e, hc.of_beg (beg_blank l i h hb)⟩
   | false =>
    have hs : beg l i = i := skip_end l _ i (by rw [hb]; simp)
    by_cases he : tokE l l.length i = i
    ·rw [scanF_stop l n i a h hb he]
     exact ⟨[], by simp, hs.symm, he⟩
    ·rw [scanF_tok l n i a h hb he]
     have hle := tokE_le l l.length i h1
     obtain ⟨r, e, hc⟩ := ih (tokE l l.length i) (a ++ [(i, tokE l l.length i)]) hle.2 (by omega)
     exact ⟨(i, tokE l l.length i) :: r, by rw [e, List.append_assoc]; rfl, hs.symm, rfl, by show i < _; omega, hc⟩
  ·rw [scanF_end l _ i a h]
   exact ⟨[], by simp, (skip_end l _ i (by omega)).symm, tokE_end l _ i (by omega)⟩
theorem scan_chain (l : List UInt8) : Chain l 0 (scan l).1 (scan l).2 := by
 obtain ⟨r, e, h⟩ := scanF_chain l (l.length + 1) 0 [] (Nat.zero_le _) (by omega)
 unfold scan
 rw [e]
 exact h
/-- Where the reader stands at the token k; where the token before it ends. -/
def posG (ts : List (Nat × Nat)) (stop k : Nat) : Nat := (ts.map (·.1)).getD k stop
def endG (ts : List (Nat × Nat)) : Nat → Nat
 | 0 => 0
 | k + 1 => (ts.getD k (0, 0)).2
theorem Chain.at {l : List UInt8} : ∀ {ts : List (Nat × Nat)} {i stop : Nat}, Chain l i ts stop → ∀ k, k ≤ ts.length →
  Chain l (if k = 0 then i else endG ts k) (ts.drop k) stop := by
 intro ts
 induction ts with
 | nil => intro i stop h k hk; obtain rfl : k = 0 := by simpa using hk
          exact h
 | cons t ts ih =>
  intro i stop h k hk
  match k with
  | 0 => exact h
  | 1 => exact h.2.2.2
  | k + 2 =>
   have := ih h.2.2.2 (k + 1) (by simpa using hk)
   rw [if_neg (by omega)] at this ⊢
   exact this
theorem Chain.here {l : List UInt8} {ts : List (Nat × Nat)} {stop : Nat} (h : Chain l 0 ts stop) (k : Nat) (hk : k ≤ ts.length) : posG ts stop k = beg l (endG ts k) ∧
  (∀ t, ts[k]? = some t → t.2 = tokE l l.length t.1 ∧ t.1 < t.2) ∧ (k = ts.length → tokE l l.length (posG ts stop k) = posG ts stop k) := by
 have hc := h.at k hk
 have e : (if k = 0 then 0 else endG ts k) = endG ts k := by
  cases k with
  | zero => rfl
  | succ k => rw [if_neg (by omega)]
 rw [e] at hc
 unfold posG
 by_cases hlt : k < ts.length
 ·rw [List.drop_eq_getElem_cons hlt] at hc
  rw [List.getD_eq_getElem?_getD, List.getElem?_map, List.getElem?_eq_getElem hlt]
  exact ⟨hc.1, fun t ht => by obtain rfl := Option.some.inj ht; exact ⟨hc.2.1, hc.2.2.1⟩, fun x => by omega⟩
 ·rw [List.drop_eq_nil_of_le (by omega)] at hc
  rw [List.getD_eq_getElem?_getD, List.getElem?_eq_none (by rw [List.length_map]; omega)]
  exact ⟨hc.1, fun t ht => (by rw [List.getElem?_eq_none (by omega)] at ht; cases ht), fun _ => hc.2⟩
theorem Chain.le {l : List UInt8} : ∀ {ts : List (Nat × Nat)} {i stop : Nat}, Chain l i ts stop → i ≤ l.length → stop ≤ l.length ∧ ∀ t ∈ ts, t.2 ≤ l.length := by
 intro ts
 induction ts with
 | nil => intro i stop h hi; exact ⟨by rw [h.1]; exact (beg_le l i hi).2, by simp⟩
 | cons t ts ih =>
  intro i stop h hi
  have h1 := (beg_le l i hi).2
  have h2 := (tokE_le l l.length t.1 (by rw [h.1]; exact h1)).2
  obtain ⟨a, b⟩ := ih h.2.2.2 (by rw [h.2.1]; exact h2)
  exact ⟨a, fun u hu => by
   rcases List.mem_cons.1 hu with rfl | hu
   ·rw [h.2.1]; exact h2
   ·exact b u hu⟩
end Sm
end Go.Proofs.YtkgddcemocfgfaaGreatDoor
end

section
/- The reference's parser: what it reads is small. Plain mathematics. -/

namespace Go.Proofs.YtkgddcemocfgfaaGreatDoor
open Go.RowKit
set_option linter.unusedVariables false

namespace Sm
theorem whileL_all {α : Type} {T : List ByteArray} {wd : ByteArray} {V : PS → α × PS} {P : α → Prop} (hV : ∀ p, (look T p).toList = wd.toList → P (V p).1 ∧ On T p (V p).2) : ∀ (n : Nat) (a : List α) (p : PS), p.i ≤ T.length → (∀ x ∈ a, P x) → ∀ x ∈ (whileL T wd V n a p).1, P x := by
 intro n
 induction n with
 | zero => intro a p _ h; exact h
 | succ n ih =>
  intro a p hp h
  unfold whileL
  split
  ·rename_i y
   have hy := hV p (by unfold eqW at y; simpa using y)
   refine ih _ _ (hy.2 hp).2 fun x hx => ?_
   rcases List.mem_append.1 hx with hx | hx
   ·exact h x hx
   ·rw [List.mem_singleton.1 hx]; exact hy.1
  ·exact h
theorem picks_len (T : List ByteArray) : ∀ (n : Nat) (a : List (ByteArray × Int)) (p : PS), (picks T n a p).1.length ≤ a.length + n := by
 intro n
 induction n with
 | zero => intro a p; exact Nat.le_refl _
 | succ n ih =>
  intro a p
  unfold picks
  split
  ·show a.length ≤ _; omega
  ·have := ih (a ++ [(nameW T p, numV T (nameP T p))]) (numP T (nameP T p))
   rw [List.length_append] at this
   simp only [List.length_cons, List.length_nil] at this
   omega
theorem cnt_few {T : List ByteArray} {p : PS} (h : (cntP T p).f = false) : numV T p ≤ 12 := by
 have := (takeP_f T _ p h).2
 rw [Bool.and_eq_true] at this
 exact (of_decide_eq_true this.2).2
theorem picks_few (T : List ByteArray) (p : PS) : (picks T (numV T p).toNat [] (cntP T p)).1.length ≤ 12 := by
 cases hf : (cntP T p).f with
 | true => rw [picks_end _ _ _ _ hf]; exact Nat.zero_le _
 | false =>
  have := cnt_few hf
  have := picks_len T (numV T p).toNat [] (cntP T p)
  simp only [List.length_nil] at this
  omega
theorem fieldV_few (T : List ByteArray) (p : PS) : fewF (fieldV T p) := by
 have h6 : ∀ k q, (f6 T k q).1.length ≤ 12 := fun k q => by
  unfold f6
  split
  ·exact picks_few T q
  ·exact Nat.zero_le _
 unfold fieldV fewF
 simp only [List.length_map]
 have := h6 (wordV T p) (f5 T (wordV T p) (f4 T (wordV T p) (f3 T (wordV T p) (f2 T (wordV T p) (f1 T p)))))
 omega
theorem fieldsL_few (T : List ByteArray) : ∀ (n : Nat) (a : List Fd) (p : PS), p.i ≤ T.length → a.length ≤ p.i → (∀ f ∈ a, fewF f) → (fieldsL T n a p).1.length ≤ T.length ∧ ∀ f ∈ (fieldsL T n a p).1, fewF f := by
 intro n
 induction n with
 | zero => intro a p h1 h2 h3; exact ⟨by show a.length ≤ _; omega, h3⟩
 | succ n ih =>
  intro a p h1 h2 h3
  unfold fieldsL
  split
  ·exact ⟨by show a.length ≤ _; omega, h3⟩
  ·rename_i x
   have hi := wordV_in (T := T) (p := p) (by omega)
   have hon := fieldP_on T p hi.2.2
   refine ih _ _ hon.2 (by rw [List.length_append]; show a.length + 1 ≤ _; omega) fun f hf => ?_
   rcases List.mem_append.1 hf with hf | hf
   ·exact h3 f hf
   ·rw [List.mem_singleton.1 hf]; exact fieldV_few T p
theorem statesL_len (T : List ByteArray) : ∀ (n : Nat) (a : List ByteArray) (p : PS), (statesL T n a p).1.length ≤ a.length + n := by
 intro n
 induction n with
 | zero => intro a p; exact Nat.le_refl _
 | succ n ih =>
  intro a p
  unfold statesL
  split
  ·show a.length ≤ _; omega
  ·have := ih (a ++ [nameW T p]) (nameP T p)
   rw [List.length_append] at this
   simp only [List.length_cons, List.length_nil] at this
   omega
theorem movesL_len (T : List ByteArray) : ∀ (n : Nat) (a : List (Int × Int)) (p : PS), p.i ≤ T.length → a.length ≤ p.i → (movesL T n a p).1.length ≤ T.length := by
 intro n
 induction n with
 | zero => intro a p h1 h2; show a.length ≤ _; omega
 | succ n ih =>
  intro a p h1 h2
  unfold movesL
  split
  ·rename_i x
   have hon := moveP_on (T := T) (p := p) (by unfold eqW at x; simpa using x)
   exact ih _ _ hon.2 (by rw [List.length_append]; show a.length + 1 ≤ _; omega)
  ·show a.length ≤ _; omega
/-- What Parse reads is small. -/
theorem scR_few (T : List ByteArray) (hT : T.length ≤ 8192) : FewS (scR T) := by
 have b1 : (numP T (headP T)).i ≤ T.length := ((wantP_on T schemaWd ⟨0, false⟩).trans (numP_on T _)) (Nat.zero_le _) |>.2
 have b2 : (kindsR T).2.i ≤ T.length := (whileL_on (fun p h hi => ⟨Nat.le_of_succ_le (kindV_on h).1, (kindV_on h).2⟩) _ _ _) b1 |>.2
 refine ⟨fun k hk => ?_, fun x hx => ?_⟩
 ·refine whileL_all (T := T) (wd := kindWd) (V := kindV T) (P := fun k => k.fields.length ≤ 1000000000 ∧ ∀ f ∈ k.fields, fewF f) (fun p h => ⟨?_, fun _ => ⟨Nat.le_of_succ_le (kindV_on h).1, (kindV_on h).2⟩⟩) _ [] _ b1 (by simp) k hk
  have hw := wantP_next h (by decide)
  have hq : (numP T (numP T (nameP T (wantP T kindWd p)))).i ≤ T.length := ((wantP_on T kindWd p).trans ((nameP_on T _).trans ((numP_on T _).trans (numP_on T _)))) (by omega) |>.2
  have hf := fieldsL_few T (T.length + 1) [] (numP T (numP T (nameP T (wantP T kindWd p)))) hq (Nat.zero_le _) (by simp)
  exact ⟨by show (fieldsL T (T.length + 1) [] _).1.length ≤ _; omega, hf.2⟩
 ·refine whileL_all (T := T) (wd := lifeWd) (V := lifeV T) (P := fun x => x.states.length ≤ 1000000000 ∧ x.moves.length ≤ 1000000000) (fun p h => ⟨?_, fun _ => ⟨Nat.le_of_succ_le (lifeV_on h).1, (lifeV_on h).2⟩⟩) _ [] _ b2 (by simp) x hx
  have hw := wantP_next h (by decide)
  obtain ⟨q, hq⟩ : ∃ q, q = nameP T (wantP T lifeWd p) := ⟨_, rfl⟩
  have hqi : (cntP T q).i ≤ T.length := by rw [hq]; exact ((wantP_on T lifeWd p).trans ((nameP_on T _).trans (cntP_on T _))) (by omega) |>.2
  have hs : (statesL T (numV T q).toNat [] (cntP T q)).1.length ≤ 12 := by
   cases hf : (cntP T q).f with
   | true => rw [statesL_end _ _ _ _ hf]; exact Nat.zero_le _
   | false =>
    have := cnt_few hf
    have := statesL_len T (numV T q).toNat [] (cntP T q)
    simp only [List.length_nil] at this
    omega
  have hm := movesL_len T (T.length + 1) [] (statesL T (numV T q).toNat [] (cntP T q)).2 ((statesL_on T _ _ _) hqi).2 (Nat.zero_le _)
  rw [hq] at hs hm
  exact ⟨by show (statesL T _ [] _).1.length ≤ _; omega, by show (movesL T _ [] _).1.length ≤ _; omega⟩
end Sm
end Go.Proofs.YtkgddcemocfgfaaGreatDoor
end

