import Derived.Shelf.LaysM
import Derived.Shelf.Strconv.Itoa3
import Derived.Shelf.LaysC
import Derived.Shelf.Strconv.AtoiAll
import Derived.Shelf.Strconv.ErrVarAll
import Derived.Shelf.Strings.Prefix
import Derived.Test.YtkgddcemocfgfaaGreatDoorProg
import Derived.Lib.AtoiTie
import Derived.Test.YtkgddcemocfgfaaGreatDoorJZRatioText
import Derived.Test.YtkgddcemocfgfaaGreatDoorJZSmFst
import Derived.Test.YtkgddcemocfgfaaGreatDoorJZSmGc
import Derived.Test.YtkgddcemocfgfaaGreatDoorJZSmRi
import Derived.Test.YtkgddcemocfgfaaGreatDoorJZSmRk

section
/- The reference of schemas: Valid, Print. -/

namespace Go.Proofs.YtkgddcemocfgfaaGreatDoor
open Go.RowKit
set_option linter.unusedVariables false
set_option linter.unusedSimpArgs false
set_option maxRecDepth 100000

namespace Sm
/-- What Valid says. -/
def validE (x : Sc) : Int := if shaped x = false then 1 else if 8192 < (source x).size then 4 else 0
def print (x : Sc) : ByteArray := if validE x = 0 then source x else ⟨#[]⟩
/-- Rows of a schema are not too long. -/
structure FewS (x : Sc) : Prop where
 kinds : ∀ k ∈ x.kinds, k.fields.length ≤ 1000000000 ∧ ∀ f ∈ k.fields, fewF f
 lives : ∀ k ∈ x.lives, k.states.length ≤ 1000000000 ∧ k.moves.length ≤ 1000000000

theorem name_size {s : ByteArray} (h : isName s = true) : s.size ≤ 12 := by
 unfold isName named at h
 rw [Bool.and_eq_true, decide_eq_true_eq, sb_len] at h
 omega
theorem within_out {n a b : Int} (h : within n a b = true) : a ≤ n ∧ n ≤ b := of_decide_eq_true h
theorem span_out {lo hi a b : Int} (h : span lo hi a b = true) : a ≤ lo ∧ lo ≤ hi ∧ hi ≤ b := of_decide_eq_true h
theorem field_small {f : Fd} (h : isField f = true) : Small f := by
 unfold isField at h
 rw [Bool.and_eq_true, Bool.and_eq_true] at h
 obtain ⟨h1, h2, h3⟩ := h
 unfold plainField at h1
 simp only [Bool.and_eq_true, Bool.or_eq_true, decide_eq_true_eq] at h1
 obtain ⟨⟨k0, k1⟩, hn, ho, hu, hlo, hhi, hw⟩ := h1
 unfold leads at h2
 simp only [Bool.and_eq_true, Bool.or_eq_true, Bool.not_eq_true', decide_eq_true_eq] at h2
 obtain ⟨l1, l2⟩ := h2
 have hof : f.of.size ≤ 12 := by
  rcases ho with ho | ho
  ·rcases l1 with l1 | l1 | l1
   ·rw [ho] at l1; cases l1
   ·exact name_size l1
   ·omega
  ·omega
 have hup : f.up.size ≤ 12 := by
  rcases hu with hu | hu
  ·rcases l2 with l2 | l2
   ·rw [hu] at l2; cases l2
   ·exact name_size l2
  ·omega
 have hk : f.kind = 0 ∨ f.kind = 1 ∨ f.kind = 2 ∨ f.kind = 3 ∨ f.kind = 4 ∨ f.kind = 5 ∨ f.kind = 6 ∨ f.kind = 7 ∨ f.kind = 8 := by omega
 have hlh : -1048576 ≤ f.lo ∧ f.lo ≤ 1048576 ∧ -1048576 ≤ f.hi ∧ f.hi ≤ 1048576 := by
  rcases hk with e | e | e | e | e | e | e | e | e
  all_goals (
   rw [e] at hlo hhi
   simp [usesLo, usesHi] at hlo hhi
   unfold fits at h3
   simp [e] at h3
   first
    | (have := within_out h3; omega)
    | (have := span_out h3; omega)
    | omega)
 have hww : f.words.length = f.weights.length ∧ f.words.length ≤ 12 ∧ (∀ s ∈ f.words, s.size ≤ 12) ∧ ∀ n ∈ f.weights, 0 ≤ n ∧ n ≤ 1048576 := by
  rcases hw with hw | hw
  ·have e : f.kind = 3 := of_decide_eq_true hw
   unfold fits at h3
   simp [e] at h3
   unfold isPick at h3
   simp only [Bool.and_eq_true, decide_eq_true_eq, List.all_eq_true] at h3
   obtain ⟨p1, p2, p3, p4, p5⟩ := h3
   have := within_out p2
   unfold names at p5
   rw [List.all_eq_true] at p5
   exact ⟨p3, by omega, fun s hs => name_size (p5 s hs), fun n hn => within_out (p1 n hn)⟩
  ·have a : f.words = [] := List.length_eq_zero_iff.1 hw.1
   have b : f.weights = [] := List.length_eq_zero_iff.1 hw.2
   rw [a, b]
   simp
 have := name_size hn
 exact ⟨k0, k1, by omega, by omega, by omega, by omega, by omega, by omega, by omega, hww.1, by omega, fun s hs => by have := hww.2.2.1 s hs; omega, fun n hn => by have := hww.2.2.2 n hn; omega⟩
theorem kind_small {k : Kd} (h : isKind k = true) : SmallK k := by
 unfold isKind at h
 simp only [Bool.and_eq_true, decide_eq_true_eq, List.all_eq_true] at h
 obtain ⟨h1, h2, h3, h4⟩ := h
 have a := name_size h1
 have b := span_out h2
 exact ⟨by omega, ⟨by omega, by omega⟩, ⟨by omega, by omega⟩, h3, fun f hf => field_small (h4 f hf)⟩
theorem life_small {x : Lf} (h : isLife x = true) : SmallL x := by
 unfold isLife at h
 simp only [Bool.and_eq_true, decide_eq_true_eq, List.all_eq_true] at h
 obtain ⟨h1, h2, h3, h4, h5⟩ := h
 have a := name_size h1
 have b := within_out h2
 unfold names at h3
 rw [List.all_eq_true] at h3
 exact ⟨by omega, by omega, by omega, fun s hs => by have := name_size (h3 s hs); omega, fun m hm => by
  have c := h5 m hm
  have d := within_out c.1
  have e := within_out c.2
  exact ⟨⟨by omega, by omega⟩, ⟨by omega, by omega⟩⟩⟩
theorem rule_small {r : Ru} (h : isRule r = true) : SmallR r := by
 unfold isRule at h
 simp only [Bool.and_eq_true, Bool.or_eq_true, decide_eq_true_eq] at h
 obtain ⟨h1, h2, h3, h4, h5, h6⟩ := h
 have a := name_size h4
 have b := name_size h5
 have c := within_out h6
 have d : r.a.size ≤ 12 := by rcases h1 with h | h; omega; exact name_size h
 have e : r.b.size ≤ 12 := by rcases h2 with h | h; omega; exact name_size h
 exact ⟨by omega, by omega, by omega, by omega, ⟨by omega, by omega⟩⟩
theorem shaped_small {x : Sc} (h : shaped x = true) : SmallS x := by
 unfold shaped at h
 simp only [Bool.and_eq_true, decide_eq_true_eq, List.all_eq_true] at h
 obtain ⟨h1, ⟨h2, h3, h4⟩, h5, h6, h7⟩ := h
 have a := within_out h1
 exact ⟨⟨by omega, by omega⟩, fun k hk => kind_small (h5 k hk), fun k hk => life_small (h6 k hk), fun k hk => rule_small (h7 k hk), by omega, by omega, by omega⟩
end Sm
end Go.Proofs.YtkgddcemocfgfaaGreatDoor
end

section
/- Reading schemas: what the reference's parser does, token by token. Plain mathematics. -/





namespace Go.Proofs.YtkgddcemocfgfaaGreatDoor
open Go.RowKit
set_option linter.unusedVariables false

namespace Sm
/-- How many tokens were read; whether it failed. -/
structure PS where
  i : Nat
  f : Bool
def nil : ByteArray := ⟨#[]⟩
def look (T : List ByteArray) (p : PS) : ByteArray := if p.f = true then nil else T.getD p.i nil
def takeW (T : List ByteArray) (r : Bool) (p : PS) : ByteArray := if r = true then look T p else nil
def takeP (T : List ByteArray) (r : Bool) (p : PS) : PS := if r = true ∧ (look T p).size ≠ 0 then ⟨p.i + 1, p.f⟩ else ⟨p.i, true⟩
/-- The number that a token says; whether it says one. -/
def digitsV (l : List UInt8) : Int := (Rt.val10 l : Int)
def valW (w : List UInt8) : Int × Bool :=
  if w.getD 0 0 = 45 then (if w.length = 1 ∨ 10 < w.length then (0, false) else if (w.drop 1).all digit then (-digitsV (w.drop 1), true) else (0, false))
  else (if w.length = 0 ∨ 9 < w.length then (0, false) else if w.all digit then (digitsV w, true) else (0, false))
def eqW (a b : ByteArray) : Bool := a.toList == b.toList
def numV (T : List ByteArray) (p : PS) : Int := (valW (sb (look T p))).1
def numP (T : List ByteArray) (p : PS) : PS := takeP T (valW (sb (look T p))).2 p
def cntP (T : List ByteArray) (p : PS) : PS := takeP T ((valW (sb (look T p))).2 && within (numV T p) 1 12) p
def nameW (T : List ByteArray) (p : PS) : ByteArray := takeW T (isName (look T p)) p
def nameP (T : List ByteArray) (p : PS) : PS := takeP T (isName (look T p)) p
def dash : ByteArray := ⟨#[45]⟩
def namesR (T : List ByteArray) (p : PS) : Bool := isName (look T p) || eqW (look T p) dash
def namesW (T : List ByteArray) (p : PS) : ByteArray := if eqW (takeW T (namesR T p) p) dash then nil else takeW T (namesR T p) p
def namesP (T : List ByteArray) (p : PS) : PS := takeP T (namesR T p) p
def wantP (T : List ByteArray) (w : ByteArray) (p : PS) : PS := takeP T (eqW (look T p) w) p
/-- The kind of the fields that a token begins; -1: none. -/
def wordOf (w : ByteArray) : Int := first (fun x => eqW w x) wordsL
def wordV (T : List ByteArray) (p : PS) : Int := wordOf (look T p)

/-- The words and the weights of a Pick: at most n more. -/
def picks (T : List ByteArray) : Nat → List (ByteArray × Int) → PS → List (ByteArray × Int) × PS
  | 0, a, p => (a, p)
  | n + 1, a, p => if p.f = true then (a, p) else picks T n (a ++ [(nameW T p, numV T (nameP T p))]) (numP T (nameP T p))
/-- A field's parts, one after the other. -/
def f1 (T : List ByteArray) (p : PS) : PS := nameP T ⟨p.i + 1, p.f⟩
def f2 (T : List ByteArray) (k : Int) (p : PS) : PS := if usesUp k then nameP T p else p
def f3 (T : List ByteArray) (k : Int) (p : PS) : PS := if k = 4 then namesP T p else if usesOf k then nameP T p else p
def f4 (T : List ByteArray) (k : Int) (p : PS) : PS := if usesLo k then numP T p else p
def f5 (T : List ByteArray) (k : Int) (p : PS) : PS := if usesHi k then numP T p else p
def f6 (T : List ByteArray) (k : Int) (p : PS) : List (ByteArray × Int) × PS := if usesWords k then picks T (numV T p).toNat [] (cntP T p) else ([], p)
def fieldV (T : List ByteArray) (p : PS) : Fd :=
  let k := wordV T p
  let p1 := f1 T p
  let p2 := f2 T k p1
  let p3 := f3 T k p2
  let p4 := f4 T k p3
  let p5 := f5 T k p4
  let q := (f6 T k p5).1
  { name := nameW T ⟨p.i + 1, p.f⟩, of := if k = 4 then namesW T p2 else if usesOf k then nameW T p2 else nil, up := if usesUp k then nameW T p1 else nil,
    kind := k, lo := if usesLo k then numV T p3 else 0, hi := if usesHi k then numV T p4 else 0, words := q.map (·.1), weights := q.map (·.2) }
def fieldP (T : List ByteArray) (p : PS) : PS :=
  let k := wordV T p
  (f6 T k (f5 T k (f4 T k (f3 T k (f2 T k (f1 T p)))))).2
end Sm
end Go.Proofs.YtkgddcemocfgfaaGreatDoor
end

section
/- The library's contracts that this seat's proofs use, at its program: written by the guide's own commands (lay-shelf, lay-plain). -/







namespace Go.Proofs
open Go.Shelf
def Tryz.laysM171_ren : Go.Shelf.Ren := ⟨fun | 171 => 92 | 243 => 148 | 246 => 180 | 283 => 197 | 284 => 198 | 285 => 199 | 286 => 200 | 129 => 209 | 317 => 208 | 318 => 210 | 319 => 211 | 320 => 212 | 337 => 220 | 338 => 221 | n => n, fun | 3 => 3 | 9 => 9 | 2 => 2 | 4 => 4 | 171 => 224 | 0 => 0 | 53 => 118 | 37 => 35 | 5 => 5 | 173 => 227 | 212 => 232 | 51 => 122 | 20 => 20 | 213 => 233 | 46 => 121 | 232 => 129 | 233 => 124 | n => n, fun | 17 => 4 | 18 => 7 | 19 => 8 | n => n⟩
theorem Tryz.laysM171 : Go.Proofs.LaysM.n171 Tryz.prog Tryz.laysM171_ren := {
 mixed := by kernel_rfl
 f129 := Tryz.func209.trans (congrArg some (by kernel_rfl))
 f171 := Tryz.func92.trans (congrArg some (by kernel_rfl))
 f243 := Tryz.func148.trans (congrArg some (by kernel_rfl))
 f246 := Tryz.func180.trans (congrArg some (by kernel_rfl))
 f283 := Tryz.func197.trans (congrArg some (by kernel_rfl))
 f284 := Tryz.func198.trans (congrArg some (by kernel_rfl))
 f285 := Tryz.func199.trans (congrArg some (by kernel_rfl))
 f286 := Tryz.func200.trans (congrArg some (by kernel_rfl))
 f317 := Tryz.func208.trans (congrArg some (by kernel_rfl))
 f318 := Tryz.func210.trans (congrArg some (by kernel_rfl))
 f319 := Tryz.func211.trans (congrArg some (by kernel_rfl))
 f320 := Tryz.func212.trans (congrArg some (by kernel_rfl))
 f337 := Tryz.func220.trans (congrArg some (by kernel_rfl))
 f338 := Tryz.func221.trans (congrArg some (by kernel_rfl))
 t0 := Tryz.underlying0
 a0 := Tryz.isAgg0
 z0 := Tryz.sizeOf0
 v0 := Tryz.zeroValue0
 t2 := Tryz.underlying2
 a2 := Tryz.isAgg2
 z2 := Tryz.sizeOf2
 v2 := Tryz.zeroValue2
 t3 := Tryz.underlying3
 a3 := Tryz.isAgg3
 z3 := Tryz.sizeOf3
 v3 := Tryz.zeroValue3
 t4 := Tryz.underlying4
 a4 := Tryz.isAgg4
 z4 := Tryz.sizeOf4
 v4 := Tryz.zeroValue4
 t5 := Tryz.underlying5
 a5 := Tryz.isAgg5
 z5 := Tryz.sizeOf5
 v5 := Tryz.zeroValue5
 t9 := Tryz.underlying9
 a9 := Tryz.isAgg9
 z9 := Tryz.sizeOf9
 v9 := Tryz.zeroValue9
 t20 := Tryz.underlying20
 a20 := Tryz.isAgg20
 z20 := Tryz.sizeOf20
 v20 := Tryz.zeroValue20
 t37 := Tryz.underlying35
 a37 := Tryz.isAgg35
 z37 := Tryz.sizeOf35
 v37 := Tryz.zeroValue35
 t46 := Tryz.underlying121
 a46 := Tryz.isAgg121
 z46 := Tryz.sizeOf121
 v46 := Tryz.zeroValue121
 t51 := Tryz.underlying122
 a51 := Tryz.isAgg122
 z51 := Tryz.sizeOf122
 v51 := Tryz.zeroValue122
 t53 := Tryz.underlying118
 a53 := Tryz.isAgg118
 z53 := Tryz.sizeOf118
 v53 := Tryz.zeroValue118
 t171 := Tryz.underlying224
 a171 := Tryz.isAgg224
 z171 := Tryz.sizeOf224
 v171 := Tryz.zeroValue224
 t173 := Tryz.underlying227
 a173 := Tryz.isAgg227
 z173 := Tryz.sizeOf227
 v173 := Tryz.zeroValue227
 t212 := Tryz.underlying232
 a212 := Tryz.isAgg232
 z212 := Tryz.sizeOf232
 v212 := Tryz.zeroValue232
 t213 := Tryz.underlying233
 a213 := Tryz.isAgg233
 z213 := Tryz.sizeOf233
 t232 := Tryz.underlying129
 a232 := Tryz.isAgg129
 z232 := Tryz.sizeOf129
 v232 := Tryz.zeroValue129
 t233 := Tryz.underlying124
 a233 := Tryz.isAgg124
 z233 := Tryz.sizeOf124
 v233 := Tryz.zeroValue124
 g17 := by kernel_rfl
 g18 := by kernel_rfl
 g19 := by kernel_rfl
 i0 := by kernel_rfl
 i2 := by kernel_rfl
 i3 := by kernel_rfl
 i4 := by kernel_rfl
 i5 := by kernel_rfl
 i9 := by kernel_rfl
 i20 := by kernel_rfl
 i37 := by kernel_rfl
 i46 := by kernel_rfl
 i51 := by kernel_rfl
 i53 := by kernel_rfl
 i171 := by kernel_rfl
 i173 := by kernel_rfl
 i212 := by kernel_rfl
 i232 := by kernel_rfl
 i233 := by kernel_rfl
 m17 := by kernel_rfl
 m18 := by kernel_rfl
 m19 := by kernel_rfl }
open Go.RowKit Go.Sort Go.Lib in
/-- strconv.Itoa: "Itoa is equivalent to FormatInt(int64(i), 10).": i's DECIMAL NUMERAL ('Lib.itoa': a '-' where i is negative, then the digits), FOR EVERY int. The world behind the call: the world before it, new blocks behind the heap (the library's 'var a [24]byte'), draws. (LAID: no walk: one application.) -/
theorem Tryz.strconv_Itoa (n : Int) (h0 : -9223372036854775808 ≤ n) (h1 : n ≤ 9223372036854775807) (w : World) (htab : Lib.TabIs Tryz.prog w "internal/strconv.uint64pow10" .u64 Lib.pow10Tab) :
  Calls Tryz.prog 92 #[.int .i64 n] w fun e w' => e = .returned (.string ⟨(Lib.itoa n).toArray⟩) ∧ ∃ k os, w' = grow (w.drewN k) os := Any.strconv_Itoa Tryz.laysM171 n h0 h1 w htab
def Tryz.laysC172_ren : Go.Shelf.Ren := ⟨fun | 172 => 184 | 244 => 201 | 245 => 202 | 247 => 213 | 279 => 214 | 280 => 215 | 281 => 216 | 282 => 217 | 287 => 222 | 316 => 223 | 171 => 92 | 205 => 224 | 321 => 225 | 322 => 226 | 243 => 148 | 246 => 180 | 283 => 197 | 284 => 198 | 285 => 199 | 286 => 200 | 129 => 209 | 317 => 208 | 318 => 210 | 319 => 211 | 320 => 212 | 337 => 220 | 338 => 221 | n => n, fun | 9 => 9 | 3 => 3 | 75 => 141 | 76 => 142 | 4 => 4 | 5 => 5 | 167 => 235 | 37 => 35 | 0 => 0 | 85 => 236 | 2 => 2 | 168 => 238 | 53 => 118 | 175 => 244 | 46 => 121 | 210 => 247 | 127 => 188 | 145 => 252 | 143 => 250 | 21 => 21 | 171 => 224 | 173 => 227 | 212 => 232 | 51 => 122 | 20 => 20 | 213 => 233 | 232 => 129 | 233 => 124 | 80 => 109 | n => n, fun | 15 => 5 | 16 => 6 | 17 => 4 | 18 => 7 | 19 => 8 | n => n⟩
theorem Tryz.laysC172 : Go.Proofs.LaysC.n172 Tryz.prog Tryz.laysC172_ren := {
 mixed := by kernel_rfl
 f129 := Tryz.func209.trans (congrArg some (by kernel_rfl))
 f171 := Tryz.func92.trans (congrArg some (by kernel_rfl))
 f172 := Tryz.func184.trans (congrArg some (by kernel_rfl))
 f205 := Tryz.func224.trans (congrArg some (by kernel_rfl))
 f243 := Tryz.func148.trans (congrArg some (by kernel_rfl))
 f244 := Tryz.func201.trans (congrArg some (by kernel_rfl))
 f245 := Tryz.func202.trans (congrArg some (by kernel_rfl))
 f246 := Tryz.func180.trans (congrArg some (by kernel_rfl))
 f247 := Tryz.func213.trans (congrArg some (by kernel_rfl))
 f279 := Tryz.func214.trans (congrArg some (by kernel_rfl))
 f280 := Tryz.func215.trans (congrArg some (by kernel_rfl))
 f281 := Tryz.func216.trans (congrArg some (by kernel_rfl))
 f282 := Tryz.func217.trans (congrArg some (by kernel_rfl))
 f283 := Tryz.func197.trans (congrArg some (by kernel_rfl))
 f284 := Tryz.func198.trans (congrArg some (by kernel_rfl))
 f285 := Tryz.func199.trans (congrArg some (by kernel_rfl))
 f286 := Tryz.func200.trans (congrArg some (by kernel_rfl))
 f287 := Tryz.func222.trans (congrArg some (by kernel_rfl))
 f316 := Tryz.func223.trans (congrArg some (by kernel_rfl))
 f317 := Tryz.func208.trans (congrArg some (by kernel_rfl))
 f318 := Tryz.func210.trans (congrArg some (by kernel_rfl))
 f319 := Tryz.func211.trans (congrArg some (by kernel_rfl))
 f320 := Tryz.func212.trans (congrArg some (by kernel_rfl))
 f321 := Tryz.func225.trans (congrArg some (by kernel_rfl))
 f322 := Tryz.func226.trans (congrArg some (by kernel_rfl))
 f337 := Tryz.func220.trans (congrArg some (by kernel_rfl))
 f338 := Tryz.func221.trans (congrArg some (by kernel_rfl))
 t0 := Tryz.underlying0
 a0 := Tryz.isAgg0
 z0 := Tryz.sizeOf0
 v0 := Tryz.zeroValue0
 t2 := Tryz.underlying2
 a2 := Tryz.isAgg2
 z2 := Tryz.sizeOf2
 v2 := Tryz.zeroValue2
 t3 := Tryz.underlying3
 a3 := Tryz.isAgg3
 z3 := Tryz.sizeOf3
 v3 := Tryz.zeroValue3
 t4 := Tryz.underlying4
 a4 := Tryz.isAgg4
 z4 := Tryz.sizeOf4
 v4 := Tryz.zeroValue4
 t5 := Tryz.underlying5
 a5 := Tryz.isAgg5
 z5 := Tryz.sizeOf5
 v5 := Tryz.zeroValue5
 t9 := Tryz.underlying9
 a9 := Tryz.isAgg9
 z9 := Tryz.sizeOf9
 v9 := Tryz.zeroValue9
 t20 := Tryz.underlying20
 a20 := Tryz.isAgg20
 z20 := Tryz.sizeOf20
 v20 := Tryz.zeroValue20
 t21 := Tryz.underlying21
 a21 := Tryz.isAgg21
 z21 := Tryz.sizeOf21
 v21 := Tryz.zeroValue21
 t37 := Tryz.underlying35
 a37 := Tryz.isAgg35
 z37 := Tryz.sizeOf35
 v37 := Tryz.zeroValue35
 t46 := Tryz.underlying121
 a46 := Tryz.isAgg121
 z46 := Tryz.sizeOf121
 v46 := Tryz.zeroValue121
 t51 := Tryz.underlying122
 a51 := Tryz.isAgg122
 z51 := Tryz.sizeOf122
 v51 := Tryz.zeroValue122
 t53 := Tryz.underlying118
 a53 := Tryz.isAgg118
 z53 := Tryz.sizeOf118
 v53 := Tryz.zeroValue118
 t75 := Tryz.underlying141
 a75 := Tryz.isAgg141
 z75 := Tryz.sizeOf141
 v75 := Tryz.zeroValue141
 t76 := Tryz.underlying142
 a76 := Tryz.isAgg142
 z76 := Tryz.sizeOf142
 v76 := Tryz.zeroValue142
 t85 := Tryz.underlying236
 a85 := Tryz.isAgg236
 z85 := Tryz.sizeOf236
 v85 := Tryz.zeroValue236
 t127 := Tryz.underlying188
 a127 := Tryz.isAgg188
 z127 := Tryz.sizeOf188
 v127 := Tryz.zeroValue188
 t143 := Tryz.underlying250
 a143 := Tryz.isAgg250
 z143 := Tryz.sizeOf250
 v143 := Tryz.zeroValue250
 t145 := Tryz.underlying252
 a145 := Tryz.isAgg252
 z145 := Tryz.sizeOf252
 v145 := Tryz.zeroValue252
 t167 := Tryz.underlying235
 a167 := Tryz.isAgg235
 z167 := Tryz.sizeOf235
 v167 := Tryz.zeroValue235
 t168 := Tryz.underlying238
 a168 := Tryz.isAgg238
 z168 := Tryz.sizeOf238
 v168 := Tryz.zeroValue238
 t171 := Tryz.underlying224
 a171 := Tryz.isAgg224
 z171 := Tryz.sizeOf224
 v171 := Tryz.zeroValue224
 t173 := Tryz.underlying227
 a173 := Tryz.isAgg227
 z173 := Tryz.sizeOf227
 v173 := Tryz.zeroValue227
 t175 := Tryz.underlying244
 a175 := Tryz.isAgg244
 z175 := Tryz.sizeOf244
 v175 := Tryz.zeroValue244
 t210 := Tryz.underlying247
 a210 := Tryz.isAgg247
 z210 := Tryz.sizeOf247
 v210 := Tryz.zeroValue247
 t212 := Tryz.underlying232
 a212 := Tryz.isAgg232
 z212 := Tryz.sizeOf232
 v212 := Tryz.zeroValue232
 t213 := Tryz.underlying233
 a213 := Tryz.isAgg233
 z213 := Tryz.sizeOf233
 t232 := Tryz.underlying129
 a232 := Tryz.isAgg129
 z232 := Tryz.sizeOf129
 v232 := Tryz.zeroValue129
 t233 := Tryz.underlying124
 a233 := Tryz.isAgg124
 z233 := Tryz.sizeOf124
 v233 := Tryz.zeroValue124
 g15 := by kernel_rfl
 g16 := by kernel_rfl
 g17 := by kernel_rfl
 g18 := by kernel_rfl
 g19 := by kernel_rfl
 t80 := Tryz.underlying109
 a80 := Tryz.isAgg109
 z80 := Tryz.sizeOf109
 v80 := Tryz.zeroValue109
 i0 := by kernel_rfl
 i2 := by kernel_rfl
 i3 := by kernel_rfl
 i4 := by kernel_rfl
 i5 := by kernel_rfl
 i9 := by kernel_rfl
 i20 := by kernel_rfl
 i21 := by kernel_rfl
 i37 := by kernel_rfl
 i46 := by kernel_rfl
 i51 := by kernel_rfl
 i53 := by kernel_rfl
 i75 := by kernel_rfl
 i76 := by kernel_rfl
 i80 := by kernel_rfl
 i85 := by kernel_rfl
 i127 := by kernel_rfl
 i143 := by kernel_rfl
 i145 := by kernel_rfl
 i167 := by kernel_rfl
 i168 := by kernel_rfl
 i171 := by kernel_rfl
 i173 := by kernel_rfl
 i175 := by kernel_rfl
 i210 := by kernel_rfl
 i212 := by kernel_rfl
 i232 := by kernel_rfl
 i233 := by kernel_rfl
 m15 := by kernel_rfl
 m16 := by kernel_rfl
 m17 := by kernel_rfl
 m18 := by kernel_rfl
 m19 := by kernel_rfl
 c0 := by kernel_rfl
 c2 := by kernel_rfl
 c3 := by kernel_rfl
 c4 := by kernel_rfl
 c5 := by kernel_rfl
 c9 := by kernel_rfl
 c20 := by kernel_rfl
 c21 := by kernel_rfl
 c37 := by kernel_rfl
 c46 := by kernel_rfl
 c51 := by kernel_rfl
 c53 := by kernel_rfl
 c75 := by kernel_rfl
 c76 := by kernel_rfl
 c80 := by kernel_rfl
 c85 := by kernel_rfl
 c127 := by kernel_rfl
 c143 := by kernel_rfl
 c145 := by kernel_rfl
 c167 := by kernel_rfl
 c168 := by kernel_rfl
 c171 := by kernel_rfl
 c173 := by kernel_rfl
 c175 := by kernel_rfl
 c210 := by kernel_rfl
 c212 := by kernel_rfl
 c213 := by kernel_rfl
 c232 := by kernel_rfl
 c233 := by kernel_rfl }
open Go.RowKit in
/-- strconv.Atoi, AT EVERY STRING THAT SPELLS AN int ('Lib.atoiAll .. = .ok v'; of whatever length: leading zeros count): v, AND NO ERROR. The world: as it was, or with the one new row that '[]byte(..)' lays. (LAID: no walk: one application.) -/
theorem Tryz.strconv_Atoi_ok (s : ByteArray) (hmax : s.size ≤ 9223372036854775806) (v : Int) (h : Lib.atoiAll s.data.toList = .ok v) (w : World) :
  Calls Tryz.prog 184 #[.string s] w fun e w' => e = .returned (.tuple #[.int .i64 v, .nilIface]) ∧ (w' = w ∨ ∃ t, w' = Lib.bytesWorld w 5 t) := Any.strconv_Atoi_ok Tryz.laysC172 s hmax v h w
open Go.RowKit in
theorem Tryz.strconv_Atoi_syntax_var (s : ByteArray) (hlim : s.size ≤ 281474976710656) (h : Lib.atoiAll s.data.toList = Lib.NumEnd.syntax) (tp : TypeId) (p : Value) (w : World) (hvar : w.var? Tryz.prog "strconv.ErrSyntax" = some #[.iface tp p]) :
  Calls Tryz.prog 184 #[.string s] w fun e w' => ∃ N, e = .returned (.tuple #[.int .i64 0, .iface 238 (.pointer (some ⟨N, 0, none⟩))]) ∧ w.heap.size ≤ N ∧ w'.heap[N]? = some (.cells #[.string ⟨#[65, 116, 111, 105]⟩, .string s, .iface tp p] 247 (0, 0)) ∧ Below w.heap.size w w' := Any.strconv_Atoi_syntax_var Tryz.laysC172 s hlim h tp p w hvar
def Tryz.lays101_ren : Go.Shelf.Ren := ⟨fun | 101 => 185 | 208 => 203 | 206 => 218 | n => n, fun | 9 => 9 | 4 => 4 | 3 => 3 | n => n, fun | n => n⟩
theorem Tryz.lays101 : Go.Proofs.Lays.n101 Tryz.prog Tryz.lays101_ren := {
 mixed := by kernel_rfl
 f101 := Tryz.func185.trans (congrArg some (by kernel_rfl))
 f206 := Tryz.func218.trans (congrArg some (by kernel_rfl))
 f208 := Tryz.func203.trans (congrArg some (by kernel_rfl))
 t3 := Tryz.underlying3
 a3 := Tryz.isAgg3
 z3 := Tryz.sizeOf3
 v3 := Tryz.zeroValue3
 t4 := Tryz.underlying4
 a4 := Tryz.isAgg4
 z4 := Tryz.sizeOf4
 v4 := Tryz.zeroValue4
 t9 := Tryz.underlying9
 a9 := Tryz.isAgg9
 z9 := Tryz.sizeOf9
 v9 := Tryz.zeroValue9 }
open Go.RowKit Go.Lib in
/-- strings.TrimPrefix: "TrimPrefix returns s without the provided leading prefix string. If s doesn't start with prefix, s is returned unchanged.": IT RETURNS 'Lib.trimPrefix s prefix'; the world is as it was. (LAID: no walk: one application.) -/
theorem Tryz.strings_TrimPrefix (s p : ByteArray) (w : World) :
  Calls Tryz.prog 185 #[.string s, .string p] w fun e w' => e = .returned (.string ⟨(Lib.trimPrefix s.data.toList p.data.toList).toArray⟩) ∧ w' = w := Any.strings_TrimPrefix Tryz.lays101 s p w
end Go.Proofs
end

section
/- The program's reader: numbers of tokens. -/




namespace Go.Proofs.YtkgddcemocfgfaaGreatDoor
open Go.RowKit
set_option linter.unusedVariables false
set_option linter.unusedSimpArgs false
set_option maxRecDepth 100000

namespace Sm
theorem decFrom_all : ∀ (l : List UInt8) (acc : Nat), l.all digit = true → Lib.decFrom acc l = some (l.foldl (fun n c => 10 * n + (c.toNat - 48)) acc) := by
 intro l
 induction l with
 | nil => intro acc _; rfl
 | cons c t ih =>
  intro acc h
  rw [List.all_cons, Bool.and_eq_true] at h
  have hd : 48 ≤ c.toNat ∧ c.toNat ≤ 57 := of_decide_eq_true h.1
  have e : Lib.digitVal c = some (c.toNat - 48) := by unfold Lib.digitVal; rw [if_pos hd]
  rw [Lib.decFrom, e]
  show Lib.decFrom (acc * 10 + (c.toNat - 48)) t = _
  rw [ih _ h.2, List.foldl_cons, Nat.mul_comm acc 10]
theorem decNat_all (l : List UInt8) (hn : l ≠ []) (h : l.all digit = true) : Lib.decNat l = some (Rt.val10 l) := by
 unfold Lib.decNat
 rw [if_neg (by cases l with | nil => exact absurd rfl hn | cons c t => simp), decFrom_all l 0 h]
 rfl
def trimB (l : List UInt8) : List UInt8 := if l.getD 0 0 = 45 then l.drop 1 else l
theorem trim_eq (l : List UInt8) : Lib.trimPrefix l [45] = trimB l := by
 unfold Lib.trimPrefix Lib.hasPrefix trimB
 cases l with
 | nil => rfl
 | cons c t =>
  show (if ((45 == c) && List.isPrefixOf [] t) = true then t else c :: t) = if c = 45 then t else c :: t
  by_cases h : c = 45
  ·subst h; simp
  ·have h2 : ¬ 45 = c := fun x => h x.symm
   simp [h, h2]
theorem valW_is (l : List UInt8) : (valW l).2 = (decide (1 ≤ (trimB l).length ∧ (trimB l).length ≤ 9) && (trimB l).all digit) := by
 unfold valW trimB
 by_cases h : l.getD 0 0 = 45
 ·rw [if_pos h, if_pos h]
  have hl : 0 < l.length := by
   cases l with
   | nil => exact absurd h (by decide)
   | cons c t => simp
  by_cases h2 : l.length = 1 ∨ 10 < l.length
  ·rw [if_pos h2, decide_eq_false (by rw [List.length_drop]; omega)]; rfl
  ·rw [if_neg h2, decide_eq_true (by rw [List.length_drop]; omega)]
   split
   ·rename_i x; rw [x]; rfl
   ·rename_i x; simpa using x
 ·rw [if_neg h, if_neg h]
  by_cases h2 : l.length = 0 ∨ 9 < l.length
  ·rw [if_pos h2, decide_eq_false (by omega)]; rfl
  ·rw [if_neg h2, decide_eq_true (by omega)]
   split
   ·rename_i x; rw [x]; rfl
   ·rename_i x; simpa using x
theorem atoi_valW (l : List UInt8) (h : (valW l).2 = true) : Lib.atoiAll l = .ok (valW l).1 := by
 have h' := h
 rw [valW_is, Bool.and_eq_true, decide_eq_true_eq] at h'
 obtain ⟨hl, ha⟩ := h'
 unfold trimB at hl ha
 by_cases hm : l.getD 0 0 = 45
 ·rw [if_pos hm] at hl ha
  cases l with
  | nil => exact absurd hm (by decide)
  | cons c t =>
   have hc : c = 45 := hm
   subst hc
   have ht : (45 :: t).drop 1 = t := rfl
   rw [ht] at hl ha
   rw [Lib.atoiAll_short _ (by rw [List.length_cons]; omega)]
   have hv : (valW (45 :: t)).1 = -(Rt.val10 t : Int) := by
    unfold valW
    rw [if_pos (show (45 :: t).getD 0 0 = (45 : UInt8) from rfl), if_neg (by rw [List.length_cons]; omega), ht, if_pos ha]
    rfl
   rw [hv]
   rw [show Lib.atoi (45 :: t) = (Lib.decNat t).map fun (m : Nat) => -(m : Int) by simp [Lib.atoi], decNat_all t (by rintro rfl; exact absurd hl.1 (by decide)) ha]
   rfl
 ·rw [if_neg hm] at hl ha
  cases l with
  | nil => exact absurd hl.1 (by decide)
  | cons c t =>
   have hc : ¬ c = 45 := hm
   rw [Lib.atoiAll_short _ (by omega)]
   have hd : 48 ≤ c.toNat ∧ c.toNat ≤ 57 := by rw [List.all_cons, Bool.and_eq_true] at ha; exact of_decide_eq_true ha.1
   have hv : (valW (c :: t)).1 = (Rt.val10 (c :: t) : Int) := by
    unfold valW
    rw [if_neg hm, if_neg (by omega), if_pos ha]
    rfl
   rw [hv]
   have h43 : ¬ c = 43 := fun x => by rw [x] at hd; exact absurd hd.1 (by decide)
   rw [show Lib.atoi (c :: t) = (Lib.decNat (c :: t)).map fun (m : Nat) => (m : Int) by simp [Lib.atoi, hc, h43], decNat_all (c :: t) (by simp) ha]
   rfl
end Sm

set_option maxHeartbeats 4000000 in
theorem gIsNumber_any (s : ByteArray) (w : World) (hs8 : s.size ≤ 8192) : Calls Tryz.prog 154 #[.string s] w (Ans (.bool (Sm.valW (sb s)).2) w) := by
 have cT := fun W => Tryz.strings_TrimPrefix s ⟨#[45]⟩ W
 obtain ⟨d, hd⟩ : ∃ d : ByteArray, d = ⟨(Lib.trimPrefix s.data.toList [45]).toArray⟩ := ⟨_, rfl⟩
 have hsd : sb d = Sm.trimB (sb s) := by
  rw [hd]
  show (Lib.trimPrefix (sb s) [45]).toArray.toList = _
  rw [Sm.trim_eq]
 have hd8 : d.size ≤ 8192 := by
  rw [← sb_len, hsd]
  unfold Sm.trimB
  have := sb_len s
  split
  ·rw [List.length_drop]; omega
  ·omega
 obtain ⟨z, hz⟩ : ∃ z, z = (Sm.valW (sb s)).2 := ⟨_, rfl⟩
 rw [← hz]
 rw [Sm.valW_is, ← hsd, sb_len] at hz
 have cT2 : ∀ W, Calls Tryz.prog 185 #[.string s, .string ⟨#[45]⟩] W fun e w' => e = .returned (.string d) ∧ w' = W := fun W => by rw [hd]; exact cT W
 have HZ := Lib.hid hz
 have CT := Lib.hid cT2
 unfold Ans
 clear cT hd hsd hz cT2
 go_enter Tryz.func154, Tryz.ntmps154
 go_wp2_with fail
 refine (CT.out _).mono ?_
 rintro e w1 ⟨rfl, rfl⟩
 clear CT
 go_wp2_with fail
 go_loopw [9] (fun i wr => ∃ k : Nat, k ≤ d.size ∧ i = .int .i64 k ∧ ((sb d).take k).all Sm.digit = true ∧ wr = w1) (fun i _ => d.size - (intOf i).toNat)
 case atStart => exact ⟨0, by omega, rfl, rfl, rfl⟩
 case round =>
  obtain ⟨k, hk, rfl, ha, hwr⟩ := hrel
  have HA := Lib.hid (And.intro ha hwr)
  clear ha hwr
  by_cases hlt : k < d.size
  ·have hg := sbGet d k hlt
   have hs := all_take_succ Sm.digit (sb d) k _ hg
   have hf := all_false Sm.digit (sb d) k _ hg
   have j1 : (k : Int) < d.size := by omega
   have cD := gDigit_any (d[k]'hlt) wr
   obtain ⟨r, hr⟩ : ∃ r, r = Sm.digit (d[k]'hlt) := ⟨_, rfl⟩
   rw [← hr] at cD
   have HQ := Lib.hid (And.intro hs (And.intro hf hr))
   have CD := Lib.hid cD
   clear hs hf hr hg cD
   go_wp2_with fail
   refine CD.out.mono ?_
   rintro e w3 ⟨rfl, rfl⟩
   cases r with
   | true =>
    go_wp2_with fail
    go_roundw
    case rel => exact ⟨k + 1, by omega, by go_num, by rw [HQ.out.1, HA.out.1, ← HQ.out.2.2]; rfl, HA.out.2⟩
    case measure => simp [intOf]; omega
   | false =>
    obtain rfl : z = false := by rw [HZ.out, HQ.out.2.1 HQ.out.2.2.symm, Bool.and_false]
    go_wp2_with fail
    go_ret
    exact ⟨rfl, HA.out.2⟩
  ·obtain rfl : k = d.size := by omega
   have hni : ¬ (d.size : Int) < d.size := by omega
   have hall : (sb d).all Sm.digit = true := by
    have := HA.out.1
    rwa [List.take_of_length_le (by rw [sb_len]; exact Nat.le_refl _)] at this
   have hz2 : z = decide (1 ≤ d.size ∧ d.size ≤ 9) := by rw [HZ.out, hall, Bool.and_true]
   have HZ2 := Lib.hid hz2
   clear hz2 hall hk hlt
   by_cases h1 : (1 : Int) ≤ d.size
   ·by_cases h2 : (d.size : Int) ≤ 9
    ·obtain rfl : z = true := by rw [HZ2.out]; exact decide_eq_true (by omega)
     go_wp2_with fail
     go_ret
     exact ⟨rfl, HA.out.2⟩
    ·obtain rfl : z = false := by rw [HZ2.out]; exact decide_eq_false (by omega)
     go_wp2_with fail
     go_ret
     exact ⟨rfl, HA.out.2⟩
   ·obtain rfl : z = false := by rw [HZ2.out]; exact decide_eq_false (by omega)
    go_wp2_with fail
    go_ret
    exact ⟨rfl, HA.out.2⟩

/-- What the library's error of a bad number reads as. -/
def ESyn (w : World) : Prop := ∃ tp p, w.var? Tryz.prog "strconv.ErrSyntax" = some #[.iface tp p]
theorem gESyn : Tryz.prog.globalNamed "strconv.ErrSyntax" = some 5 := by kernel_rfl
theorem gvar_below {n : String} {g : Nat} {cs : Array Value} {w w' : World} {B : Nat} (hg : Tryz.prog.globalNamed n = some g) (h : w.var? Tryz.prog n = some cs) (hb : Below B w w') (hB : g < B) : w'.var? Tryz.prog n = some cs := by
 unfold World.var? at h ⊢
 rw [hg] at h ⊢
 simp only [Option.bind_some] at h ⊢
 rw [hb.block g hB]
 exact h
theorem ESyn.below {w w' : World} {B : Nat} (h : ESyn w) (hb : Below B w w') (hB : 5 < B) : ESyn w' := by
 obtain ⟨t, p, h⟩ := h
 exact ⟨t, p, gvar_below gESyn h hb hB⟩
set_option maxHeartbeats 4000000 in
theorem gValueOf_any (s : ByteArray) (w : World) (v : Int) (h : s.size = 0 ∧ v = 0 ∧ ESyn w ∨ s.size ≤ 8192 ∧ (Sm.valW (sb s)).2 = true ∧ v = (Sm.valW (sb s)).1) :
  Calls Tryz.prog 153 #[.string s] w fun e w' => e = .returned (.int .i64 v) ∧ Below w.heap.size w w' := by
 have hc : Calls Tryz.prog 184 #[.string s] w fun e w' => ∃ er, e = .returned (.tuple #[.int .i64 v, er]) ∧ Below w.heap.size w w' := by
  rcases h with ⟨h0, rfl, t, p, hE⟩ | ⟨h8, h1, rfl⟩
  ·have e0 : s = ⟨#[]⟩ := by
    apply ByteArray.ext
    exact Array.eq_empty_of_size_eq_zero h0
   subst e0
   refine (Tryz.strconv_Atoi_syntax_var ⟨#[]⟩ (by decide) (by decide) t p w hE).mono ?_
   rintro e w' ⟨N, rfl, -, -, hb⟩
   exact ⟨_, rfl, hb⟩
  ·refine (Tryz.strconv_Atoi_ok s (by omega) _ (Sm.atoi_valW (sb s) h1) w).mono ?_
   rintro e w' ⟨rfl, hw⟩
   refine ⟨_, rfl, ?_⟩
   rcases hw with rfl | ⟨t, rfl⟩
   ·exact Below.refl _ _
   ·exact Lib.bytesWorld_below _ _ _
 have HC := Lib.hid hc
 clear hc h
 go_enter Tryz.func153, Tryz.ntmps153
 go_wp2_with fail
 refine HC.out.mono ?_
 rintro e w1 ⟨er, rfl, hb⟩
 go_wp2_with fail
 go_ret
 exact ⟨rfl, hb⟩
end Go.Proofs.YtkgddcemocfgfaaGreatDoor
end

