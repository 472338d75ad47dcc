import Derived.Lib.ItoaNum
import Derived.Test.YtkgddcemocfgfaaGreatDoorJZBase
import Derived.Test.YtkgddcemocfgfaaGreatDoorJZShort

section
/- Schemas: what they are, and how they lie in memory. -/



namespace Go.Proofs.YtkgddcemocfgfaaGreatDoor
open Go.RowKit
set_option linter.unusedVariables false
set_option maxRecDepth 100000

namespace Sm
/-- A field. -/
structure Fd where
 name : ByteArray
 of : ByteArray
 up : ByteArray
 kind : Int
 lo : Int
 hi : Int
 words : List ByteArray
 weights : List Int
/-- A kind. -/
structure Kd where
 name : ByteArray
 lo : Int
 hi : Int
 fields : List Fd
/-- A life cycle. -/
structure Lf where
 name : ByteArray
 states : List ByteArray
 moves : List (Int × Int)
/-- A rule. -/
structure Ru where
 name : ByteArray
 kind : ByteArray
 a : ByteArray
 b : ByteArray
 n : Int
/-- A schema. -/
structure Sc where
 version : Int
 kinds : List Kd
 lives : List Lf
 rules : List Ru
def moveC (l : List (Int × Int)) : List Value := l.flatMap fun m => [iv m.1, iv m.2]
end Sm

/-- What lies below B lies as it lay. -/
def Keep (B : Nat) (w w' : World) : Prop := ∀ p : Addr, p.block < B → w'.cell? p = w.cell? p
theorem Keep.of {B : Nat} {w w' : World} (h : Below B w w') : Keep B w w' := fun _ hp => h.cell hp

theorem flatten_at {sz : Nat} : ∀ (cs : List (List Value)) (i j : Nat) (c : List Value) (u : Value), (∀ x ∈ cs, x.length = sz) → cs[i]? = some c → c[j]? = some u → cs.flatten[i * sz + j]? = some u := by
 intro cs
 induction cs with
 | nil => intro i j c u _ h; simp at h
 | cons x t ih =>
  intro i j c u hs hi hj
  have hx : x.length = sz := hs x (by simp)
  cases i with
  | zero =>
   simp only [List.getElem?_cons_zero, Option.some.injEq] at hi
   subst hi
   have hlt := (List.getElem?_eq_some_iff.1 hj).1
   rw [List.flatten_cons, Nat.zero_mul, Nat.zero_add, List.getElem?_append_left hlt]
   exact hj
  | succ i =>
   rw [List.getElem?_cons_succ] at hi
   rw [List.flatten_cons, List.getElem?_append_right (by rw [hx, Nat.succ_mul]; omega)]
   have := ih i j c u (fun y hy => hs y (by simp [hy])) hi hj
   rwa [hx, show (i + 1) * sz + j - sz = i * sz + j by rw [Nat.succ_mul]; omega]

/-- A row of elements of more than one cell. -/
def Rows {α : Type} (C : World → Nat → α → List Value → Prop) (w : World) (B : Nat) (A : Option Addr) (l : List α) : Prop :=
 ∃ cs : List (List Value), cs.length = l.length ∧ (∀ (i : Nat) (a : α) (c : List Value), l[i]? = some a → cs[i]? = some c → C w B a c) ∧ Rd w B A cs.flatten
section
variable {α : Type} {C : World → Nat → α → List Value → Prop} {w w' : World} {B B' : Nat} {A : Option Addr} {l : List α}
theorem Rows.nil : Rows C w B A [] := ⟨[], rfl, fun i a c h => by simp at h, Rd.nil⟩
theorem Rows.keep (h : Rows C w B A l) (hk : Keep B w w') (hC : ∀ a c, C w B a c → C w' B a c) : Rows C w' B A l := by
 obtain ⟨cs, h1, h2, h3⟩ := h
 exact ⟨cs, h1, fun i a c ha hc => hC a c (h2 i a c ha hc), h3.keep hk⟩
theorem Rows.more (h : Rows C w B A l) (hB : B ≤ B') (hC : ∀ a c, C w B a c → C w B' a c) : Rows C w B' A l := by
 obtain ⟨cs, h1, h2, h3⟩ := h
 exact ⟨cs, h1, fun i a c ha hc => hC a c (h2 i a c ha hc), h3.more hB⟩
theorem Rows.at (h : Rows C w B A l) {sz : Nat} (h0 : 0 < sz) (hs : ∀ a c, C w B a c → c.length = sz) (i : Nat) (a : α) (hi : l[i]? = some a) :
  ∃ (b off : Nat) (c : List Value), A = some ⟨b, off, none⟩ ∧ b < B ∧ C w B a c ∧ ∀ (j : Nat) (u : Value), c[j]? = some u → w.cell? ⟨b, off + i * sz + j, none⟩ = some u := by
 obtain ⟨cs, h1, h2, h3⟩ := h
 have hlt := (List.getElem?_eq_some_iff.1 hi).1
 obtain ⟨c, hc⟩ : ∃ c, cs[i]? = some c := ⟨_, List.getElem?_eq_getElem (by omega)⟩
 have hall : ∀ x ∈ cs, x.length = sz := by
  intro x hx
  obtain ⟨k, hk, rfl⟩ := List.mem_iff_getElem.1 hx
  exact hs (l[k]'(by omega)) _ (h2 k _ _ (List.getElem?_eq_getElem (by omega)) (List.getElem?_eq_getElem hk))
 have hC := h2 i a c hi hc
 have hl := hs a c hC
 have hpos : 0 < cs.flatten.length := by
  obtain ⟨u, hu⟩ : ∃ u, c[0]? = some u := ⟨_, List.getElem?_eq_getElem (by omega)⟩
  have := (List.getElem?_eq_some_iff.1 (flatten_at cs i 0 c u hall hc hu)).1
  omega
 obtain ⟨b, off, hA, hb, hcell⟩ := h3 hpos
 exact ⟨b, off, c, hA, hb, hC, fun j u hu => by rw [Nat.add_assoc]; exact hcell _ u (flatten_at cs i j c u hall hc hu)⟩
end

/-! ### The elements' cells -/
def FdC (w : World) (B : Nat) (f : Sm.Fd) (c : List Value) : Prop := ∃ Aw cw Ag cg, c = [.string f.name, .string f.of, .string f.up, .int .i64 f.kind, .int .i64 f.lo, .int .i64 f.hi, .slice Aw f.words.length cw, .slice Ag f.weights.length cg] ∧
 Rd w B Aw (f.words.map sv) ∧ Rd w B Ag (f.weights.map iv) ∧ f.words.length ≤ cw ∧ cw ≤ maxLen ∧ f.weights.length ≤ cg ∧ cg ≤ maxLen
def KdC (w : World) (B : Nat) (k : Sm.Kd) (c : List Value) : Prop := ∃ A cf, c = [.string k.name, .int .i64 k.lo, .int .i64 k.hi, .slice A k.fields.length cf] ∧ Rows FdC w B A k.fields ∧ k.fields.length ≤ cf ∧ cf ≤ maxLen
def LfC (w : World) (B : Nat) (x : Sm.Lf) (c : List Value) : Prop := ∃ As cs Am cm, c = [.string x.name, .slice As x.states.length cs, .slice Am x.moves.length cm] ∧ Rd w B As (x.states.map sv) ∧ Rd w B Am (Sm.moveC x.moves) ∧ x.states.length ≤ cs ∧ cs ≤ maxLen ∧ x.moves.length ≤ cm ∧ cm ≤ maxLen
def RuC (w : World) (B : Nat) (r : Sm.Ru) (c : List Value) : Prop := c = [.string r.name, .string r.kind, .string r.a, .string r.b, .int .i64 r.n]
/-- A schema as a value. -/
def ScC (w : World) (B : Nat) (x : Sm.Sc) (c : List Value) : Prop := ∃ Ak ck Al cl Ar cr, c = [.int .i64 x.version, .slice Ak x.kinds.length ck, .slice Al x.lives.length cl, .slice Ar x.rules.length cr] ∧
 Rows KdC w B Ak x.kinds ∧ Rows LfC w B Al x.lives ∧ Rows RuC w B Ar x.rules ∧ x.kinds.length ≤ ck ∧ ck ≤ maxLen ∧ x.lives.length ≤ cl ∧ cl ≤ maxLen ∧ x.rules.length ≤ cr ∧ cr ≤ maxLen
section
variable {w w' : World} {B B' : Nat} {c : List Value}
theorem FdC.size {f : Sm.Fd} (h : FdC w B f c) : c.length = 8 := by obtain ⟨_, _, _, _, rfl, _⟩ := h; rfl
theorem KdC.size {f : Sm.Kd} (h : KdC w B f c) : c.length = 4 := by obtain ⟨_, _, rfl, _⟩ := h; rfl
theorem LfC.size {f : Sm.Lf} (h : LfC w B f c) : c.length = 3 := by obtain ⟨_, _, _, _, rfl, _⟩ := h; rfl
theorem RuC.size {f : Sm.Ru} (h : RuC w B f c) : c.length = 5 := by obtain rfl := h; rfl
theorem FdC.keep {f : Sm.Fd} (h : FdC w B f c) (hk : Keep B w w') : FdC w' B f c := by
 obtain ⟨Aw, cw, Ag, cg, h1, h2, h3, h4⟩ := h
 exact ⟨Aw, cw, Ag, cg, h1, h2.keep hk, h3.keep hk, h4⟩
theorem KdC.keep {f : Sm.Kd} (h : KdC w B f c) (hk : Keep B w w') : KdC w' B f c := by
 obtain ⟨A, cf, h1, h2, h3⟩ := h
 exact ⟨A, cf, h1, h2.keep hk fun _ _ k => FdC.keep k hk, h3⟩
theorem LfC.keep {f : Sm.Lf} (h : LfC w B f c) (hk : Keep B w w') : LfC w' B f c := by
 obtain ⟨As, cs, Am, cm, h1, h2, h3, h4⟩ := h
 exact ⟨As, cs, Am, cm, h1, h2.keep hk, h3.keep hk, h4⟩
theorem ScC.keep {f : Sm.Sc} (h : ScC w B f c) (hk : Keep B w w') : ScC w' B f c := by
 obtain ⟨Ak, ck, Al, cl, Ar, cr, h1, h2, h3, h4, h5⟩ := h
 exact ⟨Ak, ck, Al, cl, Ar, cr, h1, h2.keep hk fun _ _ k => KdC.keep k hk, h3.keep hk fun _ _ k => LfC.keep k hk, h4.keep hk fun _ _ k => k, h5⟩
theorem FdC.more {f : Sm.Fd} (h : FdC w B f c) (hB : B ≤ B') : FdC w B' f c := by
 obtain ⟨Aw, cw, Ag, cg, h1, h2, h3, h4⟩ := h
 exact ⟨Aw, cw, Ag, cg, h1, h2.more hB, h3.more hB, h4⟩
theorem KdC.more {f : Sm.Kd} (h : KdC w B f c) (hB : B ≤ B') : KdC w B' f c := by
 obtain ⟨A, cf, h1, h2, h3⟩ := h
 exact ⟨A, cf, h1, h2.more hB fun _ _ k => FdC.more k hB, h3⟩
theorem LfC.more {f : Sm.Lf} (h : LfC w B f c) (hB : B ≤ B') : LfC w B' f c := by
 obtain ⟨As, cs, Am, cm, h1, h2, h3, h4⟩ := h
 exact ⟨As, cs, Am, cm, h1, h2.more hB, h3.more hB, h4⟩
theorem ScC.more {f : Sm.Sc} (h : ScC w B f c) (hB : B ≤ B') : ScC w B' f c := by
 obtain ⟨Ak, ck, Al, cl, Ar, cr, h1, h2, h3, h4, h5⟩ := h
 exact ⟨Ak, ck, Al, cl, Ar, cr, h1, h2.more hB fun _ _ k => KdC.more k hB, h3.more hB fun _ _ k => LfC.more k hB, h4.more hB fun _ _ k => k, h5⟩
end
/-- A schema that lies in the world. -/
def ScV (w : World) (x : Sm.Sc) (v : Value) : Prop := ∃ c, v = .agg c.toArray ∧ ScC w w.heap.size x c
theorem ScV.below {w w' : World} {x : Sm.Sc} {v : Value} (h : ScV w x v) (hb : Below w.heap.size w w') : ScV w' x v := by
 obtain ⟨c, h1, h2⟩ := h
 exact ⟨c, h1, (h2.keep (Keep.of hb)).more hb.size⟩
end Go.Proofs.YtkgddcemocfgfaaGreatDoor
end

section
/- Schemas: what is valid; sources. Plain mathematics. -/


namespace Go.Proofs.YtkgddcemocfgfaaGreatDoor
open Go.RowKit
set_option linter.unusedVariables false

namespace Sm
def within (n a b : Int) : Bool := decide (a ≤ n ∧ n ≤ b)
def span (lo hi a b : Int) : Bool := decide (a ≤ lo ∧ lo ≤ hi ∧ hi ≤ b)
def letter (c : UInt8) : Bool := decide (97 ≤ c.toNat ∧ c.toNat ≤ 122)
def digit (c : UInt8) : Bool := decide (48 ≤ c.toNat ∧ c.toNat ≤ 57)
def named (l : List UInt8) : Bool := decide (1 ≤ l.length ∧ l.length ≤ 12) && (letter (l.getD 0 0) && l.all fun c => letter c || digit c)
def isName (s : ByteArray) : Bool := named (sb s)
def names (l : List ByteArray) : Bool := l.all isName
def sum (l : List Int) : Int := l.foldl (· + ·) 0
def isPick (f : Fd) : Bool := (f.weights.all fun x => within x 0 1048576) && (within f.words.length 1 12 && (decide (f.words.length = f.weights.length) && (decide (0 < sum f.weights) && names f.words)))
/-- The kinds of fields: key 0, ref 1, num 2, pick 3, day 4, step 5, sum 6, share 7, copy 8. -/
def usesOf (k : Int) : Bool := decide (k = 1 ∨ k = 4 ∨ k = 5 ∨ k = 6 ∨ k = 7 ∨ k = 8)
def usesUp (k : Int) : Bool := decide (k = 7 ∨ k = 8)
def usesHi (k : Int) : Bool := decide (k = 1 ∨ k = 2 ∨ k = 4 ∨ k = 5 ∨ k = 7)
def usesLo (k : Int) : Bool := usesHi k || decide (k = 0)
def usesWords (k : Int) : Bool := decide (k = 3)
def plainField (f : Fd) : Bool :=
 decide (0 ≤ f.kind ∧ f.kind < 9) && (isName f.name && ((usesOf f.kind || decide (f.of.size = 0)) && ((usesUp f.kind || decide (f.up.size = 0)) && ((usesLo f.kind || decide (f.lo = 0)) && ((usesHi f.kind || decide (f.hi = 0)) && (usesWords f.kind || decide (f.words.length = 0 ∧ f.weights.length = 0)))))))
def leads (f : Fd) : Bool := (!usesOf f.kind || (isName f.of || decide (f.kind = 4 ∧ f.of.size = 0))) && (!usesUp f.kind || isName f.up)
def fits (f : Fd) : Bool :=
 if f.kind = 0 then within f.lo (-1048576) 1048576
 else if f.kind = 1 then span f.lo f.hi 0 65536
 else if f.kind = 2 ∨ f.kind = 4 then span f.lo f.hi (-1048576) 1048576
 else if f.kind = 5 then span f.lo f.hi 0 32
 else if f.kind = 7 then span f.lo f.hi 0 1048576
 else if f.kind = 3 then isPick f
 else true
def isField (f : Fd) : Bool := plainField f && (leads f && fits f)
def isKind (k : Kd) : Bool := isName k.name && (span k.lo k.hi 0 65536 && (decide (k.fields.length ≤ 10) && k.fields.all isField))
def isLife (x : Lf) : Bool := isName x.name && (within x.states.length 1 12 && (names x.states && (decide (x.moves.length ≤ 32) && x.moves.all fun m => within m.1 0 (x.states.length - 1) && within m.2 0 (x.states.length - 1))))
def isRule (r : Ru) : Bool := (decide (r.a.size = 0) || isName r.a) && ((decide (r.b.size = 0) || isName r.b) && (!(decide (r.a.size = 0 ∧ r.b.size = 0)) && (isName r.name && (isName r.kind && within r.n (-1048576) 1048576))))
/-- Valid, apart from the length of the source. -/
def shaped (x : Sc) : Bool := within x.version 0 1048576 && (decide (x.kinds.length ≤ 6 ∧ x.lives.length ≤ 6 ∧ x.rules.length ≤ 16) && (x.kinds.all isKind && (x.lives.all isLife && x.rules.all isRule)))
end Sm
end Go.Proofs.YtkgddcemocfgfaaGreatDoor
end

section
/- The reference of schemas: within, span, letter, digit, IsName, names. -/

namespace Go.Proofs.YtkgddcemocfgfaaGreatDoor
open Go.RowKit
set_option linter.unusedVariables false
set_option maxRecDepth 100000

/-- A function answers v and changes nothing. -/
def Ans (v : Value) (w : World) (e : Ending) (w' : World) : Prop := e = .returned v ∧ w' = w
theorem smWithin_any (n a b : Int) (w : World) : Calls Tryz.prog 40 #[.int .i64 n, .int .i64 a, .int .i64 b] w (Ans (.bool (Sm.within n a b)) w) := by
 obtain ⟨z, hz⟩ : ∃ z, z = Sm.within n a b := ⟨_, rfl⟩
 rw [← hz]
 have HZ := Lib.hid hz
 clear hz
 unfold Ans
 by_cases h1 : n ≥ a
 ·by_cases h2 : n ≤ b
  ·obtain rfl : z = true := by rw [HZ.out]; exact decide_eq_true ⟨h1, h2⟩
   go_enter Tryz.func40, Tryz.ntmps40
   go_wp2_with fail
   go_ret
   exact ⟨rfl, rfl⟩
  ·obtain rfl : z = false := by rw [HZ.out]; exact decide_eq_false fun h => h2 h.2
   go_enter Tryz.func40, Tryz.ntmps40
   go_wp2_with fail
   go_ret
   exact ⟨rfl, rfl⟩
 ·obtain rfl : z = false := by rw [HZ.out]; exact decide_eq_false fun h => h1 h.1
  go_enter Tryz.func40, Tryz.ntmps40
  go_wp2_with fail
  go_ret
  exact ⟨rfl, rfl⟩
theorem smSpan_any (lo hi a b : Int) (w : World) : Calls Tryz.prog 97 #[.int .i64 lo, .int .i64 hi, .int .i64 a, .int .i64 b] w (Ans (.bool (Sm.span lo hi a b)) w) := by
 obtain ⟨z, hz⟩ : ∃ z, z = Sm.span lo hi a b := ⟨_, rfl⟩
 rw [← hz]
 have HZ := Lib.hid hz
 clear hz
 unfold Ans
 by_cases h1 : lo ≥ a
 ·by_cases h2 : lo ≤ hi
  ·by_cases h3 : hi ≤ b
   ·obtain rfl : z = true := by rw [HZ.out]; exact decide_eq_true ⟨h1, h2, h3⟩
    go_enter Tryz.func97, Tryz.ntmps97
    go_wp2_with fail
    go_ret
    exact ⟨rfl, rfl⟩
   ·obtain rfl : z = false := by rw [HZ.out]; exact decide_eq_false fun h => h3 h.2.2
    go_enter Tryz.func97, Tryz.ntmps97
    go_wp2_with fail
    go_ret
    exact ⟨rfl, rfl⟩
  ·obtain rfl : z = false := by rw [HZ.out]; exact decide_eq_false fun h => h2 h.2.1
   go_enter Tryz.func97, Tryz.ntmps97
   go_wp2_with fail
   go_ret
   exact ⟨rfl, rfl⟩
 ·obtain rfl : z = false := by rw [HZ.out]; exact decide_eq_false fun h => h1 h.1
  go_enter Tryz.func97, Tryz.ntmps97
  go_wp2_with fail
  go_ret
  exact ⟨rfl, rfl⟩
theorem smLetter_any (c : UInt8) (w : World) : Calls Tryz.prog 149 #[.int .u8 (c.toNat : Int)] w (Ans (.bool (Sm.letter c)) w) := by
 obtain ⟨z, hz⟩ : ∃ z, z = Sm.letter c := ⟨_, rfl⟩
 rw [← hz]
 have HZ := Lib.hid hz
 obtain ⟨n, hn⟩ : ∃ n : Int, n = (c.toNat : Int) := ⟨_, rfl⟩
 rw [← hn]
 have HN := Lib.hid hn
 clear hz hn
 unfold Ans
 by_cases h1 : n ≥ 97
 ·by_cases h2 : n ≤ 122
  ·obtain rfl : z = true := by rw [HZ.out]; exact decide_eq_true (by have := HN.out; omega)
   go_enter Tryz.func149, Tryz.ntmps149
   go_wp2_with fail
   go_ret
   exact ⟨rfl, rfl⟩
  ·obtain rfl : z = false := by rw [HZ.out]; exact decide_eq_false (by have := HN.out; omega)
   go_enter Tryz.func149, Tryz.ntmps149
   go_wp2_with fail
   go_ret
   exact ⟨rfl, rfl⟩
 ·obtain rfl : z = false := by rw [HZ.out]; exact decide_eq_false (by have := HN.out; omega)
  go_enter Tryz.func149, Tryz.ntmps149
  go_wp2_with fail
  go_ret
  exact ⟨rfl, rfl⟩
theorem smDigit_any (c : UInt8) (w : World) : Calls Tryz.prog 150 #[.int .u8 (c.toNat : Int)] w (Ans (.bool (Sm.digit c)) w) := by
 obtain ⟨z, hz⟩ : ∃ z, z = Sm.digit c := ⟨_, rfl⟩
 rw [← hz]
 have HZ := Lib.hid hz
 obtain ⟨n, hn⟩ : ∃ n : Int, n = (c.toNat : Int) := ⟨_, rfl⟩
 rw [← hn]
 have HN := Lib.hid hn
 clear hz hn
 unfold Ans
 by_cases h1 : n ≥ 48
 ·by_cases h2 : n ≤ 57
  ·obtain rfl : z = true := by rw [HZ.out]; exact decide_eq_true (by have := HN.out; omega)
   go_enter Tryz.func150, Tryz.ntmps150
   go_wp2_with fail
   go_ret
   exact ⟨rfl, rfl⟩
  ·obtain rfl : z = false := by rw [HZ.out]; exact decide_eq_false (by have := HN.out; omega)
   go_enter Tryz.func150, Tryz.ntmps150
   go_wp2_with fail
   go_ret
   exact ⟨rfl, rfl⟩
 ·obtain rfl : z = false := by rw [HZ.out]; exact decide_eq_false (by have := HN.out; omega)
  go_enter Tryz.func150, Tryz.ntmps150
  go_wp2_with fail
  go_ret
  exact ⟨rfl, rfl⟩
end Go.Proofs.YtkgddcemocfgfaaGreatDoor
end

section
/- The reference of schemas: IsName, names. -/

namespace Go.Proofs.YtkgddcemocfgfaaGreatDoor
open Go.RowKit
set_option linter.unusedVariables false
set_option maxRecDepth 100000

theorem sbGet (s : ByteArray) (k : Nat) (h : k < s.size) : (sb s)[k]? = some (s[k]'h) := by
 have h2 : k < (sb s).length := by rw [sb_len]; exact h
 rw [List.getElem?_eq_getElem h2]
 rfl
theorem all_take_succ {α : Type} (p : α → Bool) (l : List α) (k : Nat) (x : α) (hx : l[k]? = some x) : (l.take (k + 1)).all p = ((l.take k).all p && p x) := by
 rw [List.take_add_one, hx]
 simp
theorem all_false {α : Type} (p : α → Bool) (l : List α) (k : Nat) (x : α) (hx : l[k]? = some x) (hp : p x = false) : l.all p = false := by
 rw [List.all_eq_false]
 exact ⟨x, List.mem_of_getElem? hx, by simp [hp]⟩

set_option maxHeartbeats 4000000 in
theorem smIsName_any (s : ByteArray) (w : World) : Calls Tryz.prog 96 #[.string s] w (Ans (.bool (Sm.isName s)) w) := by
 obtain ⟨z, hz⟩ : ∃ z, z = Sm.isName s := ⟨_, rfl⟩
 rw [← hz]
 have HZ := Lib.hid (hz.trans (show Sm.isName s = (decide (1 ≤ (sb s).length ∧ (sb s).length ≤ 12) && (Sm.letter ((sb s).getD 0 0) && (sb s).all fun c => Sm.letter c || Sm.digit c)) from rfl))
 clear hz
 rw [sb_len] at HZ
 unfold Ans
 by_cases h1 : s.size = 0
 ·obtain rfl : z = false := by rw [HZ.out, h1]; rfl
  go_enter Tryz.func96, Tryz.ntmps96
  go_wp2_with fail
  all_goals (go_ret; exact ⟨rfl, rfl⟩)
 ·by_cases h2 : 12 < s.size
  ·obtain rfl : z = false := by rw [HZ.out, decide_eq_false (by omega)]; rfl
   have i1 : ¬ (s.size : Int) < 1 := by omega
   have i2 : (s.size : Int) > 12 := by omega
   go_enter Tryz.func96, Tryz.ntmps96
   go_wp2_with fail
   all_goals (go_ret; exact ⟨rfl, rfl⟩)
  ·have i1 : ¬ (s.size : Int) < 1 := by omega
   have i2 : ¬ (s.size : Int) > 12 := by omega
   have h0 : 0 < s.size := by omega
   have hg := sbGet s 0 h0
   have hzz : z = (Sm.letter (s[0]'h0) && (sb s).all fun c => Sm.letter c || Sm.digit c) := by
    rw [HZ.out, decide_eq_true (by omega), Bool.true_and, List.getD_eq_getElem?_getD, hg]
    rfl
   have cL := smLetter_any (s[0]'h0) w
   obtain ⟨q, hq⟩ : ∃ q, q = Sm.letter (s[0]'h0) := ⟨_, rfl⟩
   rw [← hq] at hzz cL
   have CL := Lib.hid cL
   have HY := Lib.hid hzz
   clear cL hg hzz hq HZ
   cases q with
   | false =>
    obtain rfl : z = false := by rw [HY.out]; rfl
    go_enter Tryz.func96, Tryz.ntmps96
    go_wp2_with fail
    refine CL.out.mono ?_
    rintro e w1 ⟨rfl, rfl⟩
    go_wp2_with fail
    go_ret
    exact ⟨rfl, rfl⟩
   | true =>
    rw [Bool.true_and] at HY
    go_enter Tryz.func96, Tryz.ntmps96
    go_wp2_with fail
    refine CL.out.mono ?_
    rintro e w1 ⟨rfl, rfl⟩
    clear CL
    go_wp2_with fail
    go_loopw [3] (fun i wr => ∃ k : Nat, k ≤ s.size ∧ i = .int .i64 k ∧ ((sb s).take k).all (fun c => Sm.letter c || Sm.digit c) = true ∧ wr = w1) (fun i _ => s.size - (intOf i).toNat)
    case atStart => exact ⟨0, by omega, rfl, rfl, rfl⟩
    case round =>
     obtain ⟨k, hk, rfl, ha, hwr⟩ := hrel
     have HA := Lib.hid (And.intro ha hwr)
     clear ha hwr
     by_cases hlt : k < s.size
     ·have hg := sbGet s k hlt
      have hs := all_take_succ (fun c => Sm.letter c || Sm.digit c) (sb s) k _ hg
      have hf := all_false (fun c => Sm.letter c || Sm.digit c) (sb s) k _ hg
      have j1 : (k : Int) < s.size := by omega
      have cL := smLetter_any (s[k]'hlt) wr
      have cD := smDigit_any (s[k]'hlt) wr
      obtain ⟨q, hq⟩ : ∃ q, q = Sm.letter (s[k]'hlt) := ⟨_, rfl⟩
      obtain ⟨r, hr⟩ : ∃ r, r = Sm.digit (s[k]'hlt) := ⟨_, rfl⟩
      rw [← hq] at cL
      rw [← hr] at cD
      have HQ := Lib.hid (And.intro hs (And.intro hf (And.intro hq hr)))
      have CL := Lib.hid cL
      have CD := Lib.hid cD
      clear hs hf hq hr hg cL cD
      go_wp2_with fail
      refine CL.out.mono ?_
      rintro e w2 ⟨rfl, rfl⟩
      cases q with
      | true =>
       go_wp2_with fail
       go_roundw
       case rel => exact ⟨k + 1, by omega, by go_num, by rw [HQ.out.1, HA.out.1, ← HQ.out.2.2.1]; rfl, HA.out.2⟩
       case measure => simp [intOf]; omega
      | false =>
       go_wp2_with fail
       refine CD.out.mono ?_
       rintro e w3 ⟨rfl, rfl⟩
       cases r with
       | true =>
        go_wp2_with fail
        go_roundw
        case rel => exact ⟨k + 1, by omega, by go_num, by rw [HQ.out.1, HA.out.1, ← HQ.out.2.2.1, ← HQ.out.2.2.2]; rfl, HA.out.2⟩
        case measure => simp [intOf]; omega
       | false =>
        obtain rfl : z = false := by rw [HY.out]; exact HQ.out.2.1 (by rw [← HQ.out.2.2.1, ← HQ.out.2.2.2]; rfl)
        go_wp2_with fail
        go_ret
        exact ⟨rfl, HA.out.2⟩
     ·obtain rfl : k = s.size := by omega
      obtain rfl : z = true := by rw [HY.out, ← HA.out.1, List.take_of_length_le (by rw [sb_len]; omega)]
      go_wp2_with fail
      go_ret
      exact ⟨rfl, HA.out.2⟩

set_option maxHeartbeats 4000000 in
theorem smNames_any (A : Option Addr) (cap : Nat) (l : List ByteArray) (w : World) (hr : Rd w w.heap.size A (l.map sv)) (hl : l.length ≤ 1000000000) : Calls Tryz.prog 99 #[.slice A l.length cap] w (Ans (.bool (Sm.names l)) w) := by
 obtain ⟨z, hz⟩ : ∃ z, z = Sm.names l := ⟨_, rfl⟩
 rw [← hz]
 have HZ := Lib.hid hz
 obtain ⟨N, hN⟩ : ∃ N, N = l.length := ⟨_, rfl⟩
 have HN := Lib.hid hN
 rw [← hN] at hl ⊢
 have HR := Lib.hid hr
 clear hz hN hr
 unfold Ans
 go_enter Tryz.func99, Tryz.ntmps99
 go_wp2_with fail
 go_loopw [3] (fun i wr => ∃ k : Nat, k ≤ N ∧ i = .int .i64 k ∧ (l.take k).all Sm.isName = true ∧ wr = w) (fun i _ => N - (intOf i).toNat)
 case atStart => exact ⟨0, by omega, rfl, rfl, rfl⟩
 case round =>
  obtain ⟨k, hk, rfl, ha, rfl⟩ := hrel
  have HA := Lib.hid ha
  clear ha
  by_cases hlt : k < N
  ·have hlt2 : k < l.length := by rw [← HN.out]; exact hlt
   obtain ⟨b, off, rfl, hb, hc⟩ := HR.out (by simp; omega)
   have hg : l[k]? = some l[k] := List.getElem?_eq_getElem hlt2
   have hs := all_take_succ Sm.isName l k _ hg
   have hf := all_false Sm.isName l k _ hg
   have c0 := hc k (sv l[k]) (by rw [List.getElem?_map, hg]; rfl)
   have cI := smIsName_any l[k] wr
   obtain ⟨q, hq⟩ : ∃ q, q = Sm.isName l[k] := ⟨_, rfl⟩
   obtain ⟨x, hx⟩ : ∃ x, x = l[k] := ⟨_, rfl⟩
   rw [← hq, ← hx] at cI
   rw [← hx] at c0
   unfold sv at c0
   have CI := Lib.hid cI
   have HQ := Lib.hid (And.intro hs (And.intro hf hq))
   have j1 : (k : Int) < N := by omega
   clear hs hf hq hg hx cI hc
   go_wp2_with fail
   refine CI.out.mono ?_
   rintro e w2 ⟨rfl, rfl⟩
   cases q with
   | true =>
    go_wp2_with fail
    go_roundw
    case rel => exact ⟨k + 1, by omega, by go_num, by rw [HQ.out.1, HA.out, ← HQ.out.2.2]; rfl, trivial⟩
    case measure => simp [intOf]; omega
   | false =>
    obtain rfl : z = false := by rw [HZ.out]; exact HQ.out.2.1 HQ.out.2.2.symm
    go_wp2_with fail
    go_ret
    exact ⟨rfl, rfl⟩
  ·obtain rfl : k = N := by omega
   obtain rfl : z = true := by rw [HZ.out, ← HA.out, List.take_of_length_le (by rw [← HN.out]; omega)]; rfl
   go_wp2_with fail
   go_ret
   exact ⟨rfl, rfl⟩
end Go.Proofs.YtkgddcemocfgfaaGreatDoor
end

section
/- The reference of schemas: Uses, isPick. -/

namespace Go.Proofs.YtkgddcemocfgfaaGreatDoor
open Go.RowKit
set_option linter.unusedVariables false
set_option maxRecDepth 100000

theorem results_tmp5 {fn : Func} {t u v x y : Tmp} (h : fn.results = #[.tmp t, .tmp u, .tmp v, .tmp x, .tmp y]) (tmps : Array Value) (P : Program) (w : World) :
  (results fn tmps).run P w = .ok (.tuple #[tmps.getD t undef, tmps.getD u undef, tmps.getD v undef, tmps.getD x undef, tmps.getD y undef]) w := by
 simp [results, h]
/-- What Uses says. -/
def usesV (k : Int) : Value := .tuple #[.bool (Sm.usesOf k), .bool (Sm.usesUp k), .bool (Sm.usesLo k), .bool (Sm.usesHi k), .bool (Sm.usesWords k)]
set_option maxHeartbeats 4000000 in
theorem smUses_any (k : Int) (w : World) : Calls Tryz.prog 108 #[.int .i64 k] w (Ans (usesV k) w) := by
 obtain ⟨v, hv⟩ : ∃ v, v = usesV k := ⟨_, rfl⟩
 rw [← hv]
 have HV := Lib.hid hv
 clear hv
 unfold Ans
 by_cases h : k = 0 ∨ k = 1 ∨ k = 2 ∨ k = 3 ∨ k = 4 ∨ k = 5 ∨ k = 6 ∨ k = 7 ∨ k = 8
 ·rcases h with rfl | rfl | rfl | rfl | rfl | rfl | rfl | rfl | rfl
  all_goals (
   go_enter Tryz.func108, Tryz.ntmps108
   go_wp2_with fail
   exact bodyPost_ret (results_tmp5 rfl _ _ _) rfl ⟨by rw [HV.out]; rfl, rfl⟩)
 ·have hf : v = .tuple #[.bool false, .bool false, .bool false, .bool false, .bool false] := by
   rw [HV.out]
   unfold usesV Sm.usesOf Sm.usesUp Sm.usesLo Sm.usesHi Sm.usesWords
   rw [decide_eq_false (by omega), decide_eq_false (by omega), decide_eq_false (by omega), decide_eq_false (by omega), decide_eq_false (by omega)]
   rfl
  have h0 : ¬ k = 0 := by omega
  have h1 : ¬ k = 1 := by omega
  have h2 : ¬ k = 2 := by omega
  have h3 : ¬ k = 3 := by omega
  have h4 : ¬ k = 4 := by omega
  have h5 : ¬ k = 5 := by omega
  have h6 : ¬ k = 6 := by omega
  have h7 : ¬ k = 7 := by omega
  have h8 : ¬ k = 8 := by omega
  clear h
  go_enter Tryz.func108, Tryz.ntmps108
  go_wp2_with fail
  exact bodyPost_ret (results_tmp5 rfl _ _ _) rfl ⟨by rw [hf]; simp [h0, h1, h2, h3, h4, h5, h6, h7, h8], rfl⟩

/-- A field's value. -/
def fdV (f : Sm.Fd) (Aw : Option Addr) (cw : Nat) (Ag : Option Addr) (cg : Nat) : Value := .agg #[.string f.name, .string f.of, .string f.up, .int .i64 f.kind, .int .i64 f.lo, .int .i64 f.hi, .slice Aw f.words.length cw, .slice Ag f.weights.length cg]
theorem sum_take (l : List Int) (k : Nat) (x : Int) (hx : l[k]? = some x) : Sm.sum (l.take (k + 1)) = Sm.sum (l.take k) + x := by
 unfold Sm.sum
 rw [List.take_add_one, hx]
 simp
theorem within_bounds {n a b : Int} (h : Sm.within n a b = true) : a ≤ n ∧ n ≤ b := of_decide_eq_true h

set_option maxHeartbeats 4000000 in
theorem smIsPick_any (f : Sm.Fd) (Aw : Option Addr) (cw : Nat) (Ag : Option Addr) (cg : Nat) (w : World) (hw : Rd w w.heap.size Aw (f.words.map sv)) (hg : Rd w w.heap.size Ag (f.weights.map iv)) (hl : f.weights.length ≤ 1000000000) (hlw : f.words.length ≤ 1000000000) :
  Calls Tryz.prog 151 #[fdV f Aw cw Ag cg] w fun e w' => e = .returned (.bool (Sm.isPick f)) ∧ Below w.heap.size w w' := by
 unfold fdV
 obtain ⟨name, of, up, kind, lo, hi, words, weights⟩ := f
 dsimp only at hw hg hl hlw ⊢
 obtain ⟨z, hz⟩ : ∃ z, z = Sm.isPick ⟨name, of, up, kind, lo, hi, words, weights⟩ := ⟨_, rfl⟩
 rw [← hz]
 have HZ := Lib.hid (hz.trans (show Sm.isPick ⟨name, of, up, kind, lo, hi, words, weights⟩ = ((weights.all fun x => Sm.within x 0 1048576) && (Sm.within words.length 1 12 && (decide (words.length = weights.length) && (decide (0 < Sm.sum weights) && Sm.names words)))) from rfl))
 obtain ⟨N, hN⟩ : ∃ N, N = weights.length := ⟨_, rfl⟩
 obtain ⟨M, hM⟩ : ∃ M, M = words.length := ⟨_, rfl⟩
 have HN := Lib.hid (And.intro hN hM)
 rw [← hN] at hl ⊢
 rw [← hM] at hlw ⊢
 have HR := Lib.hid (And.intro hw hg)
 clear hz hN hM hw hg
 go_enter Tryz.func151, Tryz.ntmps151
 go_wp2_with fail
 obtain ⟨W, hW⟩ : ∃ W, W = w.alloc (.cells #[.string name, .string of, .string up, .int .i64 kind, .int .i64 lo, .int .i64 hi, .slice Aw M cw, .slice Ag N cg] 74) := ⟨_, rfl⟩
 rw [← hW]
 have hk : Blk W w.heap.size [.string name, .string of, .string up, .int .i64 kind, .int .i64 lo, .int .i64 hi, .slice Aw M cw, .slice Ag N cg] 74 := by rw [hW]; exact Blk.new w _ _
 have hb : Below w.heap.size w W := by rw [hW]; exact (Below.refl _ _).alloc (Nat.le_refl _) _
 have c6 := hk.cell 6 _ rfl
 have c7 := hk.cell 7 _ rfl
 have HB := Lib.hid hb
 clear hW hk hb
 go_loopw [3, 4] (fun s i wr => ∃ k : Nat, k ≤ N ∧ i = .int .i64 k ∧ s = .int .i64 (Sm.sum (weights.take k)) ∧ (weights.take k).all (fun x => Sm.within x 0 1048576) = true ∧ 0 ≤ Sm.sum (weights.take k) ∧ Sm.sum (weights.take k) ≤ 1048576 * k ∧ wr = W) (fun _ i _ => N - (intOf i).toNat)
 case atStart => exact ⟨0, by omega, rfl, rfl, rfl, by simp [Sm.sum], by simp [Sm.sum], rfl⟩
 case round =>
  obtain ⟨k, hk, rfl, rfl, ha, hs0, hs1, rfl⟩ := hrel
  obtain ⟨S, hS⟩ : ∃ S, S = Sm.sum (weights.take k) := ⟨_, rfl⟩
  rw [← hS] at hs0 hs1 ⊢
  have HA := Lib.hid (And.intro ha hS)
  clear ha hS
  by_cases hlt : k < N
  ·have hlt2 : k < weights.length := by rw [← HN.out.1]; exact hlt
   obtain ⟨b, off, rfl, hb, hc⟩ := (HR.out.2.below HB.out) (by simp; omega)
   have hg : weights[k]? = some weights[k] := List.getElem?_eq_getElem hlt2
   have hs := all_take_succ (fun x => Sm.within x 0 1048576) weights k _ hg
   have hf := all_false (fun x => Sm.within x 0 1048576) weights k _ hg
   have ht := sum_take weights k _ hg
   have c0 := hc k (iv weights[k]) (by rw [List.getElem?_map, hg]; rfl)
   obtain ⟨x, hx⟩ : ∃ x, x = weights[k] := ⟨_, rfl⟩
   rw [← hx] at hs hf ht c0
   have cI := smWithin_any x 0 1048576 wr
   have hwb := within_bounds (n := x) (a := 0) (b := 1048576)
   obtain ⟨q, hq⟩ : ∃ q, q = Sm.within x 0 1048576 := ⟨_, rfl⟩
   rw [← hq] at cI hwb
   unfold iv at c0
   have CI := Lib.hid cI
   rw [← HA.out.2] at ht
   have HQ := Lib.hid (And.intro hs (And.intro hf (And.intro hq (And.intro ht hwb))))
   have j1 : (k : Int) < N := by omega
   clear hs hf hq hg hx cI hc ht hwb
   go_wp2_with fail
   refine CI.out.mono ?_
   rintro e w2 ⟨rfl, rfl⟩
   clear CI
   cases q with
   | true =>
    have hwb := HQ.out.2.2.2.2 rfl
    have hsx : wrap64 (S + x) = S + x := by unfold wrap64; omega
    go_wp2_with fail
    go_roundw
    case rel => exact ⟨k + 1, by omega, by go_num, by rw [HQ.out.2.2.2.1], by rw [HQ.out.1, HA.out.1, ← HQ.out.2.2.1]; rfl, by rw [HQ.out.2.2.2.1]; omega, by rw [HQ.out.2.2.2.1]; omega, trivial⟩
    case measure => simp [intOf]; omega
   | false =>
    obtain rfl : z = false := by rw [HZ.out, HQ.out.2.1 HQ.out.2.2.1.symm]; rfl
    go_wp2_with fail
    go_ret
    exact ⟨rfl, HB.out⟩
  ·obtain rfl : k = N := by omega
   have hz2 : z = (Sm.within words.length 1 12 && (decide (words.length = weights.length) && (decide (0 < Sm.sum weights) && Sm.names words))) := by
    have h := HA.out.1
    rw [List.take_of_length_le (by rw [← HN.out.1]; omega)] at h
    rw [HZ.out, h]; rfl
   have hS2 : S = Sm.sum weights := by rw [HA.out.2, List.take_of_length_le (by rw [← HN.out.1]; omega)]
   rw [← hS2, ← HN.out.1, ← HN.out.2] at hz2
   have cW := smWithin_any M 1 12 wr
   have cN := smNames_any Aw cw words wr ((HR.out.1.below HB.out).more HB.out.size) (by rw [← HN.out.2]; exact hlw)
   rw [← HN.out.2] at cN
   obtain ⟨q, hq⟩ : ∃ q, q = Sm.within M 1 12 := ⟨_, rfl⟩
   obtain ⟨r, hr⟩ : ∃ r, r = Sm.names words := ⟨_, rfl⟩
   rw [← hq] at hz2 cW
   rw [← hr] at hz2 cN
   have HZ2 := Lib.hid hz2
   have CW := Lib.hid cW
   have CN := Lib.hid cN
   clear hz2 hS2 cW cN hq hr HZ HA
   go_wp2_with fail
   refine CW.out.mono ?_
   rintro e w2 ⟨rfl, rfl⟩
   clear CW
   cases q with
   | false =>
    obtain rfl : z = false := by rw [HZ2.out]; rfl
    go_wp2_with fail
    go_ret
    exact ⟨rfl, HB.out⟩
   | true =>
    by_cases h1 : M = k
    ·subst h1
     by_cases h2 : 0 < S
     ·go_wp2_with fail
      refine CN.out.mono ?_
      rintro e w2 ⟨rfl, rfl⟩
      obtain rfl : z = r := by rw [HZ2.out]; simp [h2]
      go_wp2_with fail
      go_ret
      exact ⟨rfl, HB.out⟩
     ·obtain rfl : z = false := by rw [HZ2.out]; simp [h2]
      go_wp2_with fail
      go_ret
      exact ⟨rfl, HB.out⟩
    ·obtain rfl : z = false := by rw [HZ2.out]; simp [h1]
     have h3 : ¬ (M : Int) = k := by omega
     go_wp2_with fail
     go_ret
     exact ⟨rfl, HB.out⟩
end Go.Proofs.YtkgddcemocfgfaaGreatDoor
end

section
/- The program: names, bounds. -/

namespace Go.Proofs.YtkgddcemocfgfaaGreatDoor
open Go.RowKit
set_option linter.unusedVariables false
set_option linter.unusedSimpArgs false
set_option maxRecDepth 100000

set_option maxHeartbeats 4000000 in
theorem gWithin_any (n a b : Int) (w : World) : Calls Tryz.prog 82 #[.int .i64 n, .int .i64 a, .int .i64 b] w (Ans (.bool (Sm.within n a b)) w) := by
 obtain ⟨z, hz⟩ : ∃ z, z = Sm.within n a b := ⟨_, rfl⟩
 rw [← hz]
 have HZ := Lib.hid hz
 clear hz
 unfold Ans
 by_cases h1 : n ≥ a
 ·by_cases h2 : n ≤ b
  ·obtain rfl : z = true := by rw [HZ.out]; exact decide_eq_true ⟨h1, h2⟩
   go_enter Tryz.func82, Tryz.ntmps82
   go_wp2_with fail
   go_ret
   exact ⟨rfl, rfl⟩
  ·obtain rfl : z = false := by rw [HZ.out]; exact decide_eq_false fun h => h2 h.2
   go_enter Tryz.func82, Tryz.ntmps82
   go_wp2_with fail
   go_ret
   exact ⟨rfl, rfl⟩
 ·obtain rfl : z = false := by rw [HZ.out]; exact decide_eq_false fun h => h1 h.1
  go_enter Tryz.func82, Tryz.ntmps82
  go_wp2_with fail
  go_ret
  exact ⟨rfl, rfl⟩
set_option maxHeartbeats 4000000 in
theorem gLetter_any (c : UInt8) (w : World) : Calls Tryz.prog 166 #[.int .u8 (c.toNat : Int)] w (Ans (.bool (Sm.letter c)) w) := by
 obtain ⟨z, hz⟩ : ∃ z, z = Sm.letter c := ⟨_, rfl⟩
 rw [← hz]
 have HZ := Lib.hid hz
 obtain ⟨n, hn⟩ : ∃ n : Int, n = (c.toNat : Int) := ⟨_, rfl⟩
 rw [← hn]
 have HN := Lib.hid hn
 clear hz hn
 unfold Ans
 by_cases h1 : n ≥ 97
 ·by_cases h2 : n ≤ 122
  ·obtain rfl : z = true := by rw [HZ.out]; exact decide_eq_true (by have := HN.out; omega)
   go_enter Tryz.func166, Tryz.ntmps166
   go_wp2_with fail
   go_ret
   exact ⟨rfl, rfl⟩
  ·obtain rfl : z = false := by rw [HZ.out]; exact decide_eq_false (by have := HN.out; omega)
   go_enter Tryz.func166, Tryz.ntmps166
   go_wp2_with fail
   go_ret
   exact ⟨rfl, rfl⟩
 ·obtain rfl : z = false := by rw [HZ.out]; exact decide_eq_false (by have := HN.out; omega)
  go_enter Tryz.func166, Tryz.ntmps166
  go_wp2_with fail
  go_ret
  exact ⟨rfl, rfl⟩
set_option maxHeartbeats 4000000 in
theorem gDigit_any (c : UInt8) (w : World) : Calls Tryz.prog 167 #[.int .u8 (c.toNat : Int)] w (Ans (.bool (Sm.digit c)) w) := by
 obtain ⟨z, hz⟩ : ∃ z, z = Sm.digit c := ⟨_, rfl⟩
 rw [← hz]
 have HZ := Lib.hid hz
 obtain ⟨n, hn⟩ : ∃ n : Int, n = (c.toNat : Int) := ⟨_, rfl⟩
 rw [← hn]
 have HN := Lib.hid hn
 clear hz hn
 unfold Ans
 by_cases h1 : n ≥ 48
 ·by_cases h2 : n ≤ 57
  ·obtain rfl : z = true := by rw [HZ.out]; exact decide_eq_true (by have := HN.out; omega)
   go_enter Tryz.func167, Tryz.ntmps167
   go_wp2_with fail
   go_ret
   exact ⟨rfl, rfl⟩
  ·obtain rfl : z = false := by rw [HZ.out]; exact decide_eq_false (by have := HN.out; omega)
   go_enter Tryz.func167, Tryz.ntmps167
   go_wp2_with fail
   go_ret
   exact ⟨rfl, rfl⟩
 ·obtain rfl : z = false := by rw [HZ.out]; exact decide_eq_false (by have := HN.out; omega)
  go_enter Tryz.func167, Tryz.ntmps167
  go_wp2_with fail
  go_ret
  exact ⟨rfl, rfl⟩
set_option maxHeartbeats 4000000 in
theorem gIsName_any (s : ByteArray) (w : World) : Calls Tryz.prog 134 #[.string s] w (Ans (.bool (Sm.isName s)) w) := by
 obtain ⟨z, hz⟩ : ∃ z, z = Sm.isName s := ⟨_, rfl⟩
 rw [← hz]
 have HZ := Lib.hid (hz.trans (show Sm.isName s = (decide (1 ≤ (sb s).length ∧ (sb s).length ≤ 12) && (Sm.letter ((sb s).getD 0 0) && (sb s).all fun c => Sm.letter c || Sm.digit c)) from rfl))
 clear hz
 rw [sb_len] at HZ
 unfold Ans
 by_cases h1 : s.size = 0
 ·obtain rfl : z = false := by rw [HZ.out, h1]; rfl
  go_enter Tryz.func134, Tryz.ntmps134
  go_wp2_with fail
  all_goals (go_ret; exact ⟨rfl, rfl⟩)
 ·by_cases h2 : 12 < s.size
  ·obtain rfl : z = false := by rw [HZ.out, decide_eq_false (by omega)]; rfl
   have i1 : ¬ (s.size : Int) < 1 := by omega
   have i2 : (s.size : Int) > 12 := by omega
   go_enter Tryz.func134, Tryz.ntmps134
   go_wp2_with fail
   all_goals (go_ret; exact ⟨rfl, rfl⟩)
  ·have i1 : ¬ (s.size : Int) < 1 := by omega
   have i2 : ¬ (s.size : Int) > 12 := by omega
   have h0 : 0 < s.size := by omega
   have hg := sbGet s 0 h0
   have hzz : z = (Sm.letter (s[0]'h0) && (sb s).all fun c => Sm.letter c || Sm.digit c) := by
    rw [HZ.out, decide_eq_true (by omega), Bool.true_and, List.getD_eq_getElem?_getD, hg]
    rfl
   have cL := gLetter_any (s[0]'h0) w
   obtain ⟨q, hq⟩ : ∃ q, q = Sm.letter (s[0]'h0) := ⟨_, rfl⟩
   rw [← hq] at hzz cL
   have CL := Lib.hid cL
   have HY := Lib.hid hzz
   clear cL hg hzz hq HZ
   cases q with
   | false =>
    obtain rfl : z = false := by rw [HY.out]; rfl
    go_enter Tryz.func134, Tryz.ntmps134
    go_wp2_with fail
    refine CL.out.mono ?_
    rintro e w1 ⟨rfl, rfl⟩
    go_wp2_with fail
    go_ret
    exact ⟨rfl, rfl⟩
   | true =>
    rw [Bool.true_and] at HY
    go_enter Tryz.func134, Tryz.ntmps134
    go_wp2_with fail
    refine CL.out.mono ?_
    rintro e w1 ⟨rfl, rfl⟩
    clear CL
    go_wp2_with fail
    go_loopw [20] (fun i wr => ∃ k : Nat, k ≤ s.size ∧ i = .int .i64 k ∧ ((sb s).take k).all (fun c => Sm.letter c || Sm.digit c) = true ∧ wr = w1) (fun i _ => s.size - (intOf i).toNat)
    case atStart => exact ⟨0, by omega, rfl, rfl, rfl⟩
    case round =>
     obtain ⟨k, hk, rfl, ha, hwr⟩ := hrel
     have HA := Lib.hid (And.intro ha hwr)
     clear ha hwr
     by_cases hlt : k < s.size
     ·have hg := sbGet s k hlt
      have hs := all_take_succ (fun c => Sm.letter c || Sm.digit c) (sb s) k _ hg
      have hf := all_false (fun c => Sm.letter c || Sm.digit c) (sb s) k _ hg
      have j1 : (k : Int) < s.size := by omega
      have cL := gLetter_any (s[k]'hlt) wr
      have cD := gDigit_any (s[k]'hlt) wr
      obtain ⟨q, hq⟩ : ∃ q, q = Sm.letter (s[k]'hlt) := ⟨_, rfl⟩
      obtain ⟨r, hr⟩ : ∃ r, r = Sm.digit (s[k]'hlt) := ⟨_, rfl⟩
      rw [← hq] at cL
      rw [← hr] at cD
      have HQ := Lib.hid (And.intro hs (And.intro hf (And.intro hq hr)))
      have CL := Lib.hid cL
      have CD := Lib.hid cD
      clear hs hf hq hr hg cL cD
      go_wp2_with fail
      refine CL.out.mono ?_
      rintro e w2 ⟨rfl, rfl⟩
      cases q with
      | true =>
       go_wp2_with fail
       go_roundw
       case rel => exact ⟨k + 1, by omega, by go_num, by rw [HQ.out.1, HA.out.1, ← HQ.out.2.2.1]; rfl, HA.out.2⟩
       case measure => simp [intOf]; omega
      | false =>
       go_wp2_with fail
       refine CD.out.mono ?_
       rintro e w3 ⟨rfl, rfl⟩
       cases r with
       | true =>
        go_wp2_with fail
        go_roundw
        case rel => exact ⟨k + 1, by omega, by go_num, by rw [HQ.out.1, HA.out.1, ← HQ.out.2.2.1, ← HQ.out.2.2.2]; rfl, HA.out.2⟩
        case measure => simp [intOf]; omega
       | false =>
        obtain rfl : z = false := by rw [HY.out]; exact HQ.out.2.1 (by rw [← HQ.out.2.2.1, ← HQ.out.2.2.2]; rfl)
        go_wp2_with fail
        go_ret
        exact ⟨rfl, HA.out.2⟩
     ·obtain rfl : k = s.size := by omega
      obtain rfl : z = true := by rw [HY.out, ← HA.out.1, List.take_of_length_le (by rw [sb_len]; omega)]
      go_wp2_with fail
      go_ret
      exact ⟨rfl, HA.out.2⟩

end Go.Proofs.YtkgddcemocfgfaaGreatDoor
end

