import Derived.Test.YtkgddcemocfgfaaGreatDoorJZShort
import Derived.Test.YtkgddcemocfgfaaGreatDoorJZSmRi
import Derived.Test.YtkgddcemocfgfaaGreatDoorJZWireMathE

section
/- The reference of schemas: Source. -/

namespace Go.Proofs.YtkgddcemocfgfaaGreatDoor
open Go.RowKit
set_option linter.unusedVariables false
set_option linter.unusedSimpArgs false
set_option maxRecDepth 100000

namespace Sm
def addLine (o : ByteArray) (f : Fd) : ByteArray := o ++ line f
def kind0 (o : ByteArray) (k : Kd) : ByteArray := and (and (o ++ ⟨#[10, 107, 105, 110, 100, 32]⟩ ++ k.name) k.lo) k.hi
def kindT (o : ByteArray) (k : Kd) : ByteArray := k.fields.foldl addLine (kind0 o k)
def addState (o : ByteArray) (s : ByteArray) : ByteArray := o ++ ⟨#[32]⟩ ++ s
def moveT (o : ByteArray) (m : Int × Int) : ByteArray := and (and (o ++ ⟨#[10, 109, 111, 118, 101]⟩) m.1) m.2
def life0 (o : ByteArray) (x : Lf) : ByteArray := and (o ++ ⟨#[10, 108, 105, 102, 101, 32]⟩ ++ x.name) x.states.length
def lifeT (o : ByteArray) (x : Lf) : ByteArray := x.moves.foldl moveT (x.states.foldl addState (life0 o x))
def ruleT (o : ByteArray) (r : Ru) : ByteArray := and (o ++ ⟨#[10, 114, 117, 108, 101, 32]⟩ ++ r.name ++ ⟨#[32]⟩ ++ r.kind ++ ⟨#[32]⟩ ++ tok r.a ++ ⟨#[32]⟩ ++ tok r.b) r.n
def src0 (x : Sc) : ByteArray := and ⟨#[115, 99, 104, 101, 109, 97]⟩ x.version
/-- The source of a schema. -/
def source (x : Sc) : ByteArray := x.rules.foldl ruleT (x.lives.foldl lifeT (x.kinds.foldl kindT (src0 x))) ++ ⟨#[10]⟩

def num (n : Int) : Prop := -1099511627776 < n ∧ n < 1099511627776
structure SmallK (k : Kd) : Prop where
 name : k.name.size ≤ 100
 lo : num k.lo
 hi : num k.hi
 few : k.fields.length ≤ 10
 fields : ∀ f ∈ k.fields, Small f
structure SmallL (x : Lf) : Prop where
 name : x.name.size ≤ 100
 few : x.states.length ≤ 20
 fewm : x.moves.length ≤ 40
 states : ∀ s ∈ x.states, s.size ≤ 100
 moves : ∀ m ∈ x.moves, num m.1 ∧ num m.2
structure SmallR (r : Ru) : Prop where
 name : r.name.size ≤ 100
 kind : r.kind.size ≤ 100
 a : r.a.size ≤ 100
 b : r.b.size ≤ 100
 n : num r.n
structure SmallS (x : Sc) : Prop where
 version : num x.version
 kinds : ∀ k ∈ x.kinds, SmallK k
 lives : ∀ k ∈ x.lives, SmallL k
 rules : ∀ k ∈ x.rules, SmallR k
 fewk : x.kinds.length ≤ 10
 fewl : x.lives.length ≤ 10
 fewr : x.rules.length ≤ 20

theorem and_le {s : ByteArray} {n : Int} (h : num n) : (and s n).size ≤ s.size + 23 := and_size s n (by have := h.1; omega) (by have := h.2; omega)
theorem tok_le {s : ByteArray} {n : Nat} (h : s.size ≤ n) (hn : 1 ≤ n) : (tok s).size ≤ n := by
 unfold tok
 split
 ·exact hn
 ·exact h
theorem fold_le {α : Type} (F : ByteArray → α → ByteArray) (c : Nat) (l : List α) (h : ∀ o a, a ∈ l → (F o a).size ≤ o.size + c) (o : ByteArray) : (l.foldl F o).size ≤ o.size + c * l.length := by
 induction l generalizing o with
 | nil => simp
 | cons a t ih =>
  have h1 := h o a (by simp)
  have h2 := ih (fun o b hb => h o b (by simp [hb])) (F o a)
  rw [List.foldl_cons, List.length_cons, Nat.mul_succ]
  omega
theorem line_le {f : Fd} (h : Small f) : (line f).size ≤ 13000 := by
 have s1 : (ByteArray.mk #[32]).size = 1 := rfl
 have s2 : (ByteArray.mk #[10]).size = 1 := rfl
 have hk0 := h.kind0
 have hk1 := h.kind1
 obtain ⟨k, hk⟩ : ∃ k : Nat, f.kind = (k : Int) := Int.eq_ofNat_of_zero_le hk0
 have hw := word_size k (by omega)
 have e0 : (line0 f).size ≤ 107 := by
  unfold line0
  rw [hk, ByteArray.size_append, ByteArray.size_append, ByteArray.size_append, s1, s2]
  have := h.name
  omega
 have e1 : (line1 f).size ≤ 208 := by
  unfold line1
  split
  ·rw [ByteArray.size_append, ByteArray.size_append, s1]; have := h.up; omega
  ·omega
 have e2 : (line2 f).size ≤ 309 := by
  unfold line2
  split
  ·rw [ByteArray.size_append, ByteArray.size_append, s1]; have := tok_le h.of (by decide); omega
  ·omega
 have e3 : (line3 f).size ≤ 332 := by
  unfold line3
  split
  ·have := and_le (s := line2 f) ⟨h.lo0, h.lo1⟩; omega
  ·omega
 have e4 : (line4 f).size ≤ 355 := by
  unfold line4
  split
  ·have := and_le (s := line3 f) ⟨h.hi0, h.hi1⟩; omega
  ·omega
 unfold line
 split
 ·have hf := h.few
  have hp : (pairs f).length ≤ 100 := by unfold pairs; rw [List.length_zip]; omega
  have a1 := and_le (s := line4 f) (n := f.words.length) ⟨by omega, by omega⟩
  have a2 := fold_le pair 124 (pairs f) (fun o p hp => by
   have m := List.of_mem_zip (a := p.1) (b := p.2) (l₁ := f.words) (l₂ := f.weights) hp
   have b1 := and_le (s := o ++ ⟨#[32]⟩ ++ p.1) (n := p.2) (h.weights _ m.2)
   rw [ByteArray.size_append, ByteArray.size_append, s1] at b1
   have b2 := h.words _ m.1
   show (and (o ++ ⟨#[32]⟩ ++ p.1) p.2).size ≤ _
   omega) (and (line4 f) f.words.length)
  omega
 ·omega
theorem kind0_le {o : ByteArray} {k : Kd} (h : SmallK k) : (kind0 o k).size ≤ o.size + 152 := by
 have a1 := and_le (s := o ++ ⟨#[10, 107, 105, 110, 100, 32]⟩ ++ k.name) h.lo
 have a2 := and_le (s := and (o ++ ⟨#[10, 107, 105, 110, 100, 32]⟩ ++ k.name) k.lo) h.hi
 rw [ByteArray.size_append, ByteArray.size_append, show (ByteArray.mk #[10, 107, 105, 110, 100, 32]).size = 6 from rfl] at a1
 have := h.name
 unfold kind0
 omega
theorem fields_le {o : ByteArray} {l : List Fd} (h : ∀ f ∈ l, Small f) : (l.foldl addLine o).size ≤ o.size + 13000 * l.length :=
 fold_le addLine 13000 l (fun o f hf => by unfold addLine; rw [ByteArray.size_append]; have := line_le (h f hf); omega) o
theorem kindT_le {o : ByteArray} {k : Kd} (h : SmallK k) : (kindT o k).size ≤ o.size + 130152 := by
 have a1 := kind0_le (o := o) h
 have a2 := fields_le (o := kind0 o k) h.fields
 have := h.few
 unfold kindT
 omega
theorem life0_le {o : ByteArray} {x : Lf} (h : SmallL x) : (life0 o x).size ≤ o.size + 129 := by
 have hf := h.few
 have a1 := and_le (s := o ++ ⟨#[10, 108, 105, 102, 101, 32]⟩ ++ x.name) (n := x.states.length) ⟨by omega, by omega⟩
 rw [ByteArray.size_append, ByteArray.size_append, show (ByteArray.mk #[10, 108, 105, 102, 101, 32]).size = 6 from rfl] at a1
 have := h.name
 unfold life0
 omega
theorem states_le {o : ByteArray} {l : List ByteArray} (h : ∀ s ∈ l, s.size ≤ 100) : (l.foldl addState o).size ≤ o.size + 101 * l.length :=
 fold_le addState 101 l (fun o s hs => by unfold addState; rw [ByteArray.size_append, ByteArray.size_append, show (ByteArray.mk #[32]).size = 1 from rfl]; have := h s hs; omega) o
theorem move_le {o : ByteArray} {m : Int × Int} (h : num m.1 ∧ num m.2) : (moveT o m).size ≤ o.size + 51 := by
 have a1 := and_le (s := o ++ ⟨#[10, 109, 111, 118, 101]⟩) h.1
 have a2 := and_le (s := and (o ++ ⟨#[10, 109, 111, 118, 101]⟩) m.1) h.2
 rw [ByteArray.size_append, show (ByteArray.mk #[10, 109, 111, 118, 101]).size = 5 from rfl] at a1
 unfold moveT
 omega
theorem moves_le {o : ByteArray} {l : List (Int × Int)} (h : ∀ m ∈ l, num m.1 ∧ num m.2) : (l.foldl moveT o).size ≤ o.size + 51 * l.length :=
 fold_le moveT 51 l (fun o m hm => move_le (h m hm)) o
theorem lifeT_le {o : ByteArray} {x : Lf} (h : SmallL x) : (lifeT o x).size ≤ o.size + 4189 := by
 have a1 := life0_le (o := o) h
 have a2 := states_le (o := life0 o x) h.states
 have a3 := moves_le (o := x.states.foldl addState (life0 o x)) h.moves
 have := h.few
 have := h.fewm
 unfold lifeT
 omega
theorem rule_le {o : ByteArray} {r : Ru} (h : SmallR r) : (ruleT o r).size ≤ o.size + 432 := by
 have a1 := and_le (s := o ++ ⟨#[10, 114, 117, 108, 101, 32]⟩ ++ r.name ++ ⟨#[32]⟩ ++ r.kind ++ ⟨#[32]⟩ ++ tok r.a ++ ⟨#[32]⟩ ++ tok r.b) h.n
 simp only [ByteArray.size_append, show (ByteArray.mk #[32]).size = 1 from rfl, show (ByteArray.mk #[10, 114, 117, 108, 101, 32]).size = 6 from rfl] at a1
 have := h.name
 have := h.kind
 have := tok_le h.a (by decide)
 have := tok_le h.b (by decide)
 unfold ruleT
 omega
end Sm
end Go.Proofs.YtkgddcemocfgfaaGreatDoor
end

section
/- The encoding of a schema: what it is, and its sizes. Plain mathematics. -/



namespace Go.Proofs.YtkgddcemocfgfaaGreatDoor
open Go.RowKit
set_option linter.unusedVariables false

namespace Sm
def encMoves (l : List (Int × Int)) : List Int := l.flatMap fun m => [m.1, m.2]
def encF1 (f : Fd) : List UInt8 := M.encL encS [f.name, f.of, f.up]
def encF2 (f : Fd) : List UInt8 := M.encL M.encI [f.kind, f.lo, f.hi]
def encFd (f : Fd) : List UInt8 := encF1 f ++ encF2 f ++ M.encL encS f.words ++ M.encL M.encI f.weights
def encK1 (k : Kd) : List UInt8 := M.encB (sb k.name)
def encK2 (k : Kd) : List UInt8 := M.encL M.encI [k.lo, k.hi]
def encKd (k : Kd) : List UInt8 := encK1 k ++ encK2 k ++ M.encL encFd k.fields
def encLf (x : Lf) : List UInt8 := M.encB (sb x.name) ++ M.encL encS x.states ++ M.encL M.encI (encMoves x.moves)
def encRu (r : Ru) : List UInt8 := M.encL encS [r.name, r.kind, r.a, r.b] ++ M.encI r.n
/-- The encoding of a schema. -/
def encSc (x : Sc) : List UInt8 := M.encI x.version ++ M.encL encKd x.kinds ++ M.encL encLf x.lives ++ M.encL encRu x.rules

/-- Sizes that are not great, whatever the kind. -/
structure Lax (f : Fd) : Prop where
 kind : num f.kind
 name : f.name.size ≤ 100
 of : f.of.size ≤ 100
 up : f.up.size ≤ 100
 lo : num f.lo
 hi : num f.hi
 few : f.words.length ≤ 100
 fewg : f.weights.length ≤ 100
 words : ∀ s ∈ f.words, s.size ≤ 100
 weights : ∀ n ∈ f.weights, num n
structure LaxK (k : Kd) : Prop where
 name : k.name.size ≤ 100
 lo : num k.lo
 hi : num k.hi
 few : k.fields.length ≤ 10
 fields : ∀ f ∈ k.fields, Lax f
structure LaxS (x : Sc) : Prop where
 version : num x.version
 kinds : ∀ k ∈ x.kinds, LaxK k
 lives : ∀ k ∈ x.lives, SmallL k
 rules : ∀ k ∈ x.rules, SmallR k
 fewk : x.kinds.length ≤ 10
 fewl : x.lives.length ≤ 10
 fewr : x.rules.length ≤ 20
theorem Small.lax {f : Fd} (h : Small f) : Lax f where
 kind := ⟨by have := h.kind0; omega, by have := h.kind1; omega⟩
 name := h.name
 of := h.of
 up := h.up
 lo := ⟨h.lo0, h.lo1⟩
 hi := ⟨h.hi0, h.hi1⟩
 few := h.few
 fewg := h.same ▸ h.few
 words := h.words
 weights := h.weights
theorem SmallK.lax {f : Kd} (h : SmallK f) : LaxK f := ⟨h.name, h.lo, h.hi, h.few, fun f hf => (h.fields f hf).lax⟩
theorem SmallS.lax {x : Sc} (h : SmallS x) : LaxS x := ⟨h.version, fun k hk => (h.kinds k hk).lax, h.lives, h.rules, h.fewk, h.fewl, h.fewr⟩
theorem num_i64 {n : Int} (h : num n) : M.I64 n := by unfold num at h; unfold M.I64; omega

theorem encI_le {n : Int} (h : num n) : (M.encI n).length ≤ 9 := M.encI_len_le n (num_i64 h)
theorem encN_le {n : Nat} (h : n ≤ 1000000) : (M.encI (n : Int)).length ≤ 9 := M.encI_len_le n (M.I64_nat n (by omega))
theorem encS_le {s : ByteArray} (h : s.size ≤ 100) : (encS s).length ≤ 109 := by
 unfold encS M.encB
 rw [List.length_append, sb_len]
 have := encN_le (n := s.size) (by omega)
 omega
theorem flat_le {α : Type} (e : α → List UInt8) (c : Nat) (l : List α) (h : ∀ a ∈ l, (e a).length ≤ c) : (l.flatMap e).length ≤ c * l.length := by
 induction l with
 | nil => simp
 | cons a t ih =>
  have h1 := h a (by simp)
  have h2 := ih fun b hb => h b (by simp [hb])
  rw [List.flatMap_cons, List.length_append, List.length_cons, Nat.mul_succ]
  omega
theorem encL_le {α : Type} (e : α → List UInt8) (c n : Nat) (l : List α) (hl : l.length ≤ n) (hn : n ≤ 1000000) (h : ∀ a ∈ l, (e a).length ≤ c) : (M.encL e l).length ≤ 9 + c * n := by
 unfold M.encL
 rw [List.length_append]
 have h1 := flat_le e c l h
 have h2 := encN_le (n := l.length) (by omega)
 have h3 := Nat.mul_le_mul_left c hl
 omega
theorem encFd_le {f : Fd} (h : Lax f) : (encFd f).length ≤ 13000 := by
 unfold encFd encF1 encF2
 simp only [List.length_append]
 have h1 := encL_le encS 109 3 [f.name, f.of, f.up] (Nat.le_refl _) (by omega) fun a ha => by
  simp only [List.mem_cons, List.not_mem_nil, or_false] at ha
  rcases ha with rfl | rfl | rfl
  ·exact encS_le h.name
  ·exact encS_le h.of
  ·exact encS_le h.up
 have h2 := encL_le M.encI 9 3 [f.kind, f.lo, f.hi] (Nat.le_refl _) (by omega) fun a ha => by
  simp only [List.mem_cons, List.not_mem_nil, or_false] at ha
  rcases ha with rfl | rfl | rfl
  ·exact encI_le h.kind
  ·exact encI_le h.lo
  ·exact encI_le h.hi
 have h3 := encL_le encS 109 100 f.words h.few (by omega) fun a ha => encS_le (h.words a ha)
 have h4 := encL_le M.encI 9 100 f.weights h.fewg (by omega) fun a ha => encI_le (h.weights a ha)
 omega
theorem encB_le {s : ByteArray} (h : s.size ≤ 100) : (M.encB (sb s)).length ≤ 109 := encS_le h
theorem encK2_le {k : Kd} (h : LaxK k) : (encK2 k).length ≤ 27 := by
 exact encL_le M.encI 9 2 [k.lo, k.hi] (Nat.le_refl _) (by omega) fun a ha => by
  simp only [List.mem_cons, List.not_mem_nil, or_false] at ha
  rcases ha with rfl | rfl
  ·exact encI_le h.lo
  ·exact encI_le h.hi
theorem encKd_le {k : Kd} (h : LaxK k) : (encKd k).length ≤ 130200 := by
 unfold encKd encK1
 simp only [List.length_append]
 have h1 := encB_le h.name
 have h2 := encK2_le h
 have h3 := encL_le encFd 13000 10 k.fields h.few (by omega) fun a ha => encFd_le (h.fields a ha)
 omega
theorem encMoves_len (l : List (Int × Int)) : (encMoves l).length = 2 * l.length := by
 unfold encMoves
 induction l with
 | nil => rfl
 | cons a t ih => simp only [List.flatMap_cons, List.length_append, List.length_cons, List.length_nil, ih]; omega
theorem encMoves_num {l : List (Int × Int)} (h : ∀ m ∈ l, num m.1 ∧ num m.2) : ∀ n ∈ encMoves l, num n := by
 intro n hn
 obtain ⟨m, hm, hn⟩ := List.mem_flatMap.1 hn
 simp only [List.mem_cons, List.not_mem_nil, or_false] at hn
 rcases hn with rfl | rfl
 ·exact (h m hm).1
 ·exact (h m hm).2
theorem encLf_le {x : Lf} (h : SmallL x) : (encLf x).length ≤ 4000 := by
 unfold encLf
 simp only [List.length_append]
 have h1 := encB_le h.name
 have h2 := encL_le encS 109 20 x.states h.few (by omega) fun a ha => encS_le (h.states a ha)
 have h3 := encL_le M.encI 9 80 (encMoves x.moves) (by rw [encMoves_len]; have := h.fewm; omega) (by omega) fun a ha => encI_le (encMoves_num h.moves a ha)
 omega
theorem encRu_le {r : Ru} (h : SmallR r) : (encRu r).length ≤ 500 := by
 unfold encRu
 simp only [List.length_append]
 have h1 := encL_le encS 109 4 [r.name, r.kind, r.a, r.b] (Nat.le_refl _) (by omega) fun a ha => by
  simp only [List.mem_cons, List.not_mem_nil, or_false] at ha
  rcases ha with rfl | rfl | rfl | rfl
  ·exact encS_le h.name
  ·exact encS_le h.kind
  ·exact encS_le h.a
  ·exact encS_le h.b
 have h2 := encI_le h.n
 omega
theorem encSc_le {x : Sc} (h : LaxS x) : (encSc x).length ≤ 1400000 := by
 unfold encSc
 simp only [List.length_append]
 have h0 := encI_le h.version
 have h1 := encL_le encKd 130200 10 x.kinds h.fewk (by omega) fun a ha => encKd_le (h.kinds a ha)
 have h2 := encL_le encLf 4000 10 x.lives h.fewl (by omega) fun a ha => encLf_le (h.lives a ha)
 have h3 := encL_le encRu 500 20 x.rules h.fewr (by omega) fun a ha => encRu_le (h.rules a ha)
 omega

/-! ### The encoding tells the schema -/
/-- An encoding that ends by itself. -/
def Pre {α : Type} (P : α → Prop) (e : α → List UInt8) : Prop := ∀ a b, P a → P b → ∀ t u, e a ++ t = e b ++ u → a = b ∧ t = u
theorem Pre.of {α : Type} {P : α → Prop} {e : α → List UInt8} (h : ∀ a b, P a → P b → ∀ t u, e a ++ t = e b ++ u → a = b) : Pre P e := by
 intro a b ha hb t u he
 have hab := h a b ha hb t u he
 subst hab
 exact ⟨rfl, List.append_cancel_left he⟩
end Sm
end Go.Proofs.YtkgddcemocfgfaaGreatDoor
end

