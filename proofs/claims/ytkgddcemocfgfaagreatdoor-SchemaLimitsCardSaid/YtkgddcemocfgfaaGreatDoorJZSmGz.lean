import Derived.Shelf.Strings.OnBuilder
import Derived.Shelf.Strings.BuilderK
import Derived.Shelf.LaysM
import Derived.Shelf.LaysC
import Derived.Test.YtkgddcemocfgfaaGreatDoorProg
import Derived.Test.YtkgddcemocfgfaaGreatDoorJZSmGw

section
/- The program: the source that it writes is the document's. Plain mathematics; and written. -/

namespace Go.Proofs.YtkgddcemocfgfaaGreatDoor
open Go.RowKit
set_option linter.unusedVariables false
set_option linter.unusedSimpArgs false
set_option maxRecDepth 100000

namespace Sm
/-- A token behind a text, with a space between. -/
def glue (o s : ByteArray) : ByteArray := o ++ ⟨#[32]⟩ ++ s
/-- Tokens with a space between. -/
def joinS : List ByteArray → ByteArray
 | [] => ⟨#[]⟩
 | a :: t => t.foldl glue a
/-- A line behind a text. -/
def putLine (o : ByteArray) (t : List ByteArray) : ByteArray := o ++ (joinS t ++ ⟨#[10]⟩)
def itoaB (n : Int) : ByteArray := bs (dec n)
def shpOf (k : Int) : Shp := shpL.getD k.toNat ⟨⟨#[]⟩, 0, 0, 0, 0, 0, false⟩
/-- The tokens of a field. -/
def tokF1 (f : Fd) : List ByteArray := [(shpOf f.kind).word, f.name]
def tokF2 (f : Fd) : List ByteArray := if (shpOf f.kind).up ≠ 0 then tokF1 f ++ [tok f.up] else tokF1 f
def tokF3 (f : Fd) : List ByteArray := if (shpOf f.kind).of ≠ 0 then tokF2 f ++ [tok f.of] else tokF2 f
def tokF4 (f : Fd) : List ByteArray := tokF3 f ++ ([f.lo, f.hi].take (shpOf f.kind).numbers.toNat).map itoaB
def tokF5 (f : Fd) : List ByteArray := if (shpOf f.kind).words = true then tokF4 f ++ [itoaB f.words.length] else tokF4 f
def wordTok (p : ByteArray × Int) : List ByteArray := [p.1, itoaB p.2]
def fieldTok (f : Fd) : List ByteArray := tokF5 f ++ (pairs f).flatMap wordTok
def putField (o : ByteArray) (f : Fd) : ByteArray := putLine o (fieldTok f)
def putKind (o : ByteArray) (k : Kd) : ByteArray := k.fields.foldl putField (putLine o [⟨#[107, 105, 110, 100]⟩, k.name, itoaB k.lo, itoaB k.hi])
def putMove (o : ByteArray) (m : Int × Int) : ByteArray := putLine o [⟨#[109, 111, 118, 101]⟩, itoaB m.1, itoaB m.2]
def putLife (o : ByteArray) (x : Lf) : ByteArray := x.moves.foldl putMove (putLine o [⟨#[108, 105, 102, 101]⟩, x.name, itoaB x.states.length, joinS x.states])
def putRule (o : ByteArray) (r : Ru) : ByteArray := putLine o [⟨#[114, 117, 108, 101]⟩, r.name, r.kind, tok r.a, tok r.b, itoaB r.n]
/-- The source that the program writes. -/
def sourceG (x : Sc) : ByteArray := x.rules.foldl putRule (x.lives.foldl putLife (x.kinds.foldl putKind (putLine ⟨#[]⟩ [⟨#[115, 99, 104, 101, 109, 97]⟩, itoaB x.version])))

theorem fold_pre (t : List ByteArray) (p a : ByteArray) : t.foldl glue (p ++ a) = p ++ t.foldl glue a := by
 induction t generalizing a with
 | nil => rfl
 | cons x t ih =>
  rw [List.foldl_cons, List.foldl_cons, ← ih]
  unfold glue
  rw [ByteArray.append_assoc, ByteArray.append_assoc, ByteArray.append_assoc]
theorem put_nl (o a : ByteArray) (t : List ByteArray) : putLine (o ++ ⟨#[10]⟩) (a :: t) = t.foldl glue (o ++ ⟨#[10]⟩ ++ a) ++ ⟨#[10]⟩ := by
 unfold putLine
 show o ++ ⟨#[10]⟩ ++ (t.foldl glue a ++ ⟨#[10]⟩) = _
 rw [fold_pre]
 exact (ByteArray.append_assoc).symm
theorem lit2 (o : ByteArray) (l m : List UInt8) : o ++ ⟨l.toArray⟩ ++ ⟨m.toArray⟩ = o ++ ⟨(l ++ m).toArray⟩ := by
 rw [ByteArray.append_assoc]
 congr 1
theorem tok_name {s : ByteArray} (h : isName s = true) : tok s = s := by
 unfold tok
 rw [if_neg]
 intro e
 exact name_ne h (by rw [Lib.toList_data] at e; show s.data.size = 0; rw [← Array.length_toList, e]; rfl)
theorem pair_fold (l : List (ByteArray × Int)) (o : ByteArray) : l.foldl pair o = (l.flatMap wordTok).foldl glue o := by
 induction l generalizing o with
 | nil => rfl
 | cons x t ih => rw [List.foldl_cons, ih, List.flatMap_cons, List.foldl_append]; rfl
theorem line_field {f : Fd} (h : isField f = true) : fieldTok f = (shpOf f.kind).word :: (fieldTok f).tail ∧ (fieldTok f).tail.foldl glue (⟨#[10]⟩ ++ (shpOf f.kind).word) = line f := by
 unfold isField at h
 rw [Bool.and_eq_true, Bool.and_eq_true] at h
 obtain ⟨h1, h2, h3⟩ := h
 unfold plainField at h1
 simp only [Bool.and_eq_true, Bool.or_eq_true, decide_eq_true_eq] at h1
 obtain ⟨⟨k0, k1⟩, hn, ho, hu, hlo, hhi, hw⟩ := h1
 unfold leads at h2
 simp only [Bool.and_eq_true, Bool.or_eq_true, Bool.not_eq_true', decide_eq_true_eq] at h2
 obtain ⟨l1, l2⟩ := h2
 have hk : f.kind = 0 ∨ f.kind = 1 ∨ f.kind = 2 ∨ f.kind = 3 ∨ f.kind = 4 ∨ f.kind = 5 ∨ f.kind = 6 ∨ f.kind = 7 ∨ f.kind = 8 := by omega
 have hws : usesWords f.kind = false → pairs f = [] := by
  intro x
  rcases hw with hw | hw
  ·rw [x] at hw; cases hw
  ·unfold pairs
   rw [List.length_eq_zero_iff.1 hw.1]; rfl
 have hup : usesUp f.kind = true → tok f.up = f.up := by
  intro x
  rcases l2 with l2 | l2
  ·rw [x] at l2; cases l2
  ·exact tok_name l2
 unfold fieldTok tokF5 tokF4 tokF3 tokF2 tokF1 line line4 line3 line2 line1 line0
 rcases hk with e | e | e | e | e | e | e | e | e
 all_goals (
  rw [e] at hws hup ⊢
  first
   | rw [hws (by decide)]
   | skip
  first
   | rw [hup (by decide)]
   | skip
  refine ⟨rfl, ?_⟩
  first
   | rfl
   | (rw [pair_fold]; rfl))
theorem field_put {f : Fd} (h : isField f = true) (o : ByteArray) : putField (o ++ ⟨#[10]⟩) f = addLine o f ++ ⟨#[10]⟩ := by
 obtain ⟨h1, h2⟩ := line_field h
 unfold putField addLine
 rw [h1, put_nl, ByteArray.append_assoc (a := o), fold_pre, h2]
theorem fold_nl {α : Type} (F G : ByteArray → α → ByteArray) (l : List α) (h : ∀ a ∈ l, ∀ o, F (o ++ ⟨#[10]⟩) a = G o a ++ ⟨#[10]⟩) (o : ByteArray) : l.foldl F (o ++ ⟨#[10]⟩) = l.foldl G o ++ ⟨#[10]⟩ := by
 induction l generalizing o with
 | nil => rfl
 | cons a t ih => rw [List.foldl_cons, List.foldl_cons, h a (by simp), ih fun b hb => h b (by simp [hb])]
theorem kind_put {k : Kd} (h : isKind k = true) (o : ByteArray) : putKind (o ++ ⟨#[10]⟩) k = kindT o k ++ ⟨#[10]⟩ := by
 unfold isKind at h
 simp only [Bool.and_eq_true] at h
 unfold putKind kindT
 rw [put_nl, fold_nl putField addLine _ fun f hf o => field_put (List.all_eq_true.1 h.2.2.2 f hf) o]
 congr 2
 show glue (glue (o ++ ⟨#[10]⟩ ++ ⟨#[107, 105, 110, 100]⟩ ++ ⟨#[32]⟩ ++ k.name) _) _ = _
 rw [lit2 o [10] [107, 105, 110, 100], lit2 o _ [32]]
 rfl
theorem move_put (o : ByteArray) (m : Int × Int) : putMove (o ++ ⟨#[10]⟩) m = moveT o m ++ ⟨#[10]⟩ := by
 unfold putMove moveT
 rw [put_nl, lit2 o [10] [109, 111, 118, 101]]
 rfl
theorem glue_join (o a : ByteArray) (t : List ByteArray) : glue o (joinS (a :: t)) = (a :: t).foldl glue o := by
 show o ++ ⟨#[32]⟩ ++ t.foldl glue a = t.foldl glue (o ++ ⟨#[32]⟩ ++ a)
 rw [fold_pre]
theorem life_put {x : Lf} (h : isLife x = true) (o : ByteArray) : putLife (o ++ ⟨#[10]⟩) x = lifeT o x ++ ⟨#[10]⟩ := by
 unfold isLife at h
 simp only [Bool.and_eq_true] at h
 have h1 := (within_out h.2.1).1
 unfold putLife lifeT
 rw [put_nl, fold_nl putMove moveT _ fun m _ o => move_put o m]
 congr 2
 obtain ⟨a, t, hat⟩ : ∃ a t, x.states = a :: t := by
  cases hx : x.states with
  | nil => rw [hx] at h1; exact absurd h1 (by decide)
  | cons a t => exact ⟨a, t, rfl⟩
 show glue (glue (o ++ ⟨#[10]⟩ ++ ⟨#[108, 105, 102, 101]⟩ ++ ⟨#[32]⟩ ++ x.name) (itoaB x.states.length)) (joinS x.states) = x.states.foldl glue (life0 o x)
 unfold life0
 rw [hat, glue_join, lit2 o [10] [108, 105, 102, 101], lit2 o _ [32]]
 rfl
theorem rule_put (o : ByteArray) (r : Ru) : putRule (o ++ ⟨#[10]⟩) r = ruleT o r ++ ⟨#[10]⟩ := by
 unfold putRule ruleT
 rw [put_nl]
 show glue (glue (glue (glue (o ++ ⟨#[10]⟩ ++ ⟨#[114, 117, 108, 101]⟩ ++ ⟨#[32]⟩ ++ r.name) _) _) _) _ ++ _ = _
 rw [lit2 o [10] [114, 117, 108, 101], lit2 o _ [32]]
 rfl
/-- What the program writes is the document's source. -/
theorem source_put {x : Sc} (h : shaped x = true) : sourceG x = source x := by
 unfold shaped at h
 simp only [Bool.and_eq_true] at h
 unfold sourceG source
 have e : putLine ⟨#[]⟩ [⟨#[115, 99, 104, 101, 109, 97]⟩, itoaB x.version] = src0 x ++ ⟨#[10]⟩ := by
  unfold putLine
  have : ∀ b : ByteArray, (⟨#[]⟩ : ByteArray) ++ b = b := fun b => ByteArray.empty_append
  rw [this]
  rfl
 rw [e, fold_nl putKind kindT _ fun k hk o => kind_put (List.all_eq_true.1 h.2.2.1 k hk) o, fold_nl putLife lifeT _ fun k hk o => life_put (List.all_eq_true.1 h.2.2.2.1 k hk) o, fold_nl putRule ruleT _ fun r _ o => rule_put o r]
end Sm
set_option maxHeartbeats 2000000 in
theorem gWritten_any (s : ByteArray) (w : World) : Calls Tryz.prog 94 #[.string s] w fun e w' => e = .returned (.string (Sm.tok s)) ∧ w' = w := by
 obtain ⟨Z, hZ⟩ : ∃ z, z = Sm.tok s := ⟨_, rfl⟩
 rw [← hZ]
 unfold Sm.tok at hZ
 have HZ := Lib.hid hZ
 clear hZ
 by_cases h : s.toList = []
 ·have h2 : s.toList.isEmpty = true := by rw [h]; rfl
  go_enter Tryz.func94, Tryz.ntmps94
  go_wp2_with fail
  go_ret
  rw [HZ.out, if_pos h]
  exact ⟨rfl, rfl⟩
 ·have h2 : s.toList.isEmpty = false := by rw [Bool.eq_false_iff, ne_eq, List.isEmpty_iff]; exact h
  go_enter Tryz.func94, Tryz.ntmps94
  go_wp2_with fail
  go_ret
  rw [HZ.out, if_neg h]
  exact ⟨rfl, rfl⟩
end Go.Proofs.YtkgddcemocfgfaaGreatDoor
end

section
/- The library's contracts that this seat's proofs use, at its program: written by the guide's own commands (lay-shelf, lay-plain). -/





namespace Go.Proofs
open Go.Shelf
def Tryz.lays169_ren : Go.Shelf.Ren := ⟨fun | 169 => 95 | n => n, fun | 70 => 137 | 9 => 9 | 0 => 0 | 72 => 139 | 37 => 35 | 127 => 188 | 3 => 3 | 5 => 5 | n => n, fun | n => n⟩
theorem Tryz.lays169 : Go.Proofs.Lays.n169 Tryz.prog Tryz.lays169_ren := {
 mixed := by kernel_rfl
 f169 := Tryz.func95.trans (congrArg some (by kernel_rfl))
 t0 := Tryz.underlying0
 a0 := Tryz.isAgg0
 z0 := Tryz.sizeOf0
 v0 := Tryz.zeroValue0
 t3 := Tryz.underlying3
 a3 := Tryz.isAgg3
 z3 := Tryz.sizeOf3
 v3 := Tryz.zeroValue3
 t9 := Tryz.underlying9
 a9 := Tryz.isAgg9
 z9 := Tryz.sizeOf9
 v9 := Tryz.zeroValue9
 t37 := Tryz.underlying35
 a37 := Tryz.isAgg35
 z37 := Tryz.sizeOf35
 v37 := Tryz.zeroValue35
 t70 := Tryz.underlying137
 a70 := Tryz.isAgg137
 z70 := Tryz.sizeOf137
 v70 := Tryz.zeroValue137
 t72 := Tryz.underlying139
 a72 := Tryz.isAgg139
 z72 := Tryz.sizeOf139
 v72 := Tryz.zeroValue139
 t127 := Tryz.underlying188
 a127 := Tryz.isAgg188
 z127 := Tryz.sizeOf188
 v127 := Tryz.zeroValue188 }
theorem Tryz.Builder_Extra_169 : Builder.Extra Tryz.prog Tryz.lays169_ren := {
 sizeBuilder := by kernel_rfl
 liesBuilder := by kernel_rfl
 t5 := Tryz.underlying5
 a5 := Tryz.isAgg5
 z5 := Tryz.sizeOf5
 v5 := Tryz.zeroValue5
 infoByte := by kernel_rfl
 cellsByte := by kernel_rfl
 sizeByte := by kernel_rfl
 neB5 := by decide }
def Tryz.lays156_ren : Go.Shelf.Ren := ⟨fun | 156 => 91 | 165 => 147 | 166 => 90 | 169 => 95 | 240 => 146 | 241 => 179 | 276 => 178 | 277 => 196 | n => n, fun | 31 => 45 | 9 => 9 | 3 => 3 | 4 => 4 | 0 => 0 | 20 => 20 | 72 => 139 | 76 => 142 | 70 => 137 | 37 => 35 | 75 => 141 | 127 => 188 | 164 => 206 | 5 => 5 | 80 => 109 | n => n, fun | n => n⟩
theorem Tryz.lays156 : Go.Proofs.Lays.n156 Tryz.prog Tryz.lays156_ren := {
 mixed := by kernel_rfl
 f156 := Tryz.func91.trans (congrArg some (by kernel_rfl))
 f165 := Tryz.func147.trans (congrArg some (by kernel_rfl))
 f166 := Tryz.func90.trans (congrArg some (by kernel_rfl))
 f169 := Tryz.func95.trans (congrArg some (by kernel_rfl))
 f240 := Tryz.func146.trans (congrArg some (by kernel_rfl))
 f241 := Tryz.func179.trans (congrArg some (by kernel_rfl))
 f276 := Tryz.func178.trans (congrArg some (by kernel_rfl))
 f277 := Tryz.func196.trans (congrArg some (by kernel_rfl))
 t0 := Tryz.underlying0
 a0 := Tryz.isAgg0
 z0 := Tryz.sizeOf0
 v0 := Tryz.zeroValue0
 t3 := Tryz.underlying3
 a3 := Tryz.isAgg3
 z3 := Tryz.sizeOf3
 v3 := Tryz.zeroValue3
 t4 := Tryz.underlying4
 a4 := Tryz.isAgg4
 z4 := Tryz.sizeOf4
 v4 := Tryz.zeroValue4
 t9 := Tryz.underlying9
 a9 := Tryz.isAgg9
 z9 := Tryz.sizeOf9
 v9 := Tryz.zeroValue9
 t20 := Tryz.underlying20
 a20 := Tryz.isAgg20
 z20 := Tryz.sizeOf20
 v20 := Tryz.zeroValue20
 t31 := Tryz.underlying45
 a31 := Tryz.isAgg45
 z31 := Tryz.sizeOf45
 v31 := Tryz.zeroValue45
 t37 := Tryz.underlying35
 a37 := Tryz.isAgg35
 z37 := Tryz.sizeOf35
 v37 := Tryz.zeroValue35
 t70 := Tryz.underlying137
 a70 := Tryz.isAgg137
 z70 := Tryz.sizeOf137
 v70 := Tryz.zeroValue137
 t72 := Tryz.underlying139
 a72 := Tryz.isAgg139
 z72 := Tryz.sizeOf139
 v72 := Tryz.zeroValue139
 t75 := Tryz.underlying141
 a75 := Tryz.isAgg141
 z75 := Tryz.sizeOf141
 v75 := Tryz.zeroValue141
 t76 := Tryz.underlying142
 a76 := Tryz.isAgg142
 z76 := Tryz.sizeOf142
 v76 := Tryz.zeroValue142
 t127 := Tryz.underlying188
 a127 := Tryz.isAgg188
 z127 := Tryz.sizeOf188
 v127 := Tryz.zeroValue188
 t164 := Tryz.underlying206
 a164 := Tryz.isAgg206
 z164 := Tryz.sizeOf206
 v164 := Tryz.zeroValue206 }
theorem Tryz.Builder_Extra_156 : Builder.Extra Tryz.prog Tryz.lays156_ren := {
 sizeBuilder := by kernel_rfl
 liesBuilder := by kernel_rfl
 t5 := Tryz.underlying5
 a5 := Tryz.isAgg5
 z5 := Tryz.sizeOf5
 v5 := Tryz.zeroValue5
 infoByte := by kernel_rfl
 cellsByte := by kernel_rfl
 sizeByte := by kernel_rfl
 neB5 := by decide }
open Go.RowKit in
/-- No element: the empty string; the world is as it was. (Whatever the slice's address and capacity: a nil slice too.) (LAID: no walk: one application.) -/
theorem Tryz.strings_Join_none (a : Option Addr) (c : Nat) (sep : ByteArray) (w : World) :
  Calls Tryz.prog 91 #[.slice a 0 c, .string sep] w fun e w' => e = .returned (.string ⟨#[]⟩) ∧ w' = w := Any.strings_Join_none Tryz.lays156 Tryz.Builder_Extra_156 a c sep w
open Go.RowKit in
/-- strings.Join: "Join concatenates the elements of its first argument to create a single string. The separator string sep is placed between elements in the resulting string.": HOWEVER MANY ELEMENTS. Below the heap's end the world is as it was. (LAID: no walk: one application.) -/
theorem Tryz.strings_Join (bk o c : Nat) (xs : List ByteArray) (sep : ByteArray) (w : World) (hcells : ∀ (j : Nat) x, xs[j]? = some x → w.cell? ⟨bk, o + j, none⟩ = some (.string x)) (hbk : bk < w.heap.size) (hN : xs.length ≤ 140737488355328) (hcap : xs.length ≤ c) (hlen : (Lib.join (xs.map (·.data.toList)) sep.data.toList).length ≤ 140737488355328) :
  Calls Tryz.prog 91 #[.slice (some ⟨bk, o, none⟩) xs.length c, .string sep] w fun e w' => e = .returned (.string ⟨(Lib.join (xs.map (·.data.toList)) sep.data.toList).toArray⟩) ∧ Below w.heap.size w w' := Any.strings_Join Tryz.lays156 Tryz.Builder_Extra_156 bk o c xs sep w hcells hbk hN hcap hlen
open Go.RowKit in
/-- (*strings.Builder).String: "String returns the accumulated string.": WHATEVER THE BUILDER HOLDS; THE FORM '_k': OVER 'Lib.IsBuilderF' (a builder that 'String()' may have read), AND WITH THE FRAME THAT REACHES ABOVE THE BUILDER: 'Lib.OthersKept': every block that is not b and is no row of uint8's stands as it stood: the iterator of a range among them. (LAID: no walk: one application.) -/
theorem Tryz.Builder_String_any_k (B b : Nat) (l : List UInt8) (w : World) (h : Lib.IsBuilderF 139 5 B b (Lib.byteCells l) w) (hBw : B ≤ w.heap.size) :
  Calls Tryz.prog 95 #[.pointer (some ⟨b, 0, none⟩)] w fun e w' => e = .returned (.string ⟨l.toArray⟩) ∧ (Lib.IsBuilderF 139 5 B b (Lib.byteCells l) w' ∧ Below B w w' ∧ Lib.OthersKept 5 (some b) w w') := Any.Builder_String_any_k Tryz.lays169 Tryz.Builder_Extra_169 B b l w h hBw
end Go.Proofs
end

section
/- The program: a line behind a text (the library's Join, WriteString), the closure of source. -/


namespace Go.Proofs.YtkgddcemocfgfaaGreatDoor
open Go.RowKit
set_option linter.unusedVariables false
set_option linter.unusedSimpArgs false
set_option maxRecDepth 100000

namespace Sm
theorem fold_join (t : List ByteArray) (a : ByteArray) : t.foldl glue a = ⟨(a.data.toList ++ Lib.joinTail [32] (t.map (·.data.toList))).toArray⟩ := by
 induction t generalizing a with
 | nil => simp [Lib.joinTail]
 | cons x t ih =>
  rw [List.foldl_cons, ih]
  unfold glue
  simp [Lib.joinTail, ByteArray.data_append]
theorem join_eq (l : List ByteArray) : (⟨(Lib.join (l.map (·.data.toList)) [32]).toArray⟩ : ByteArray) = joinS l := by
 cases l with
 | nil => rfl
 | cons a t =>
  rw [List.map_cons, Lib.join_cons]
  exact (fold_join t a).symm
theorem join_len (l : List ByteArray) : (Lib.join (l.map (·.data.toList)) [32]).length = (joinS l).size := by
 rw [← join_eq]
 show _ = (Lib.join (l.map (·.data.toList)) [32]).toArray.size
 rw [List.size_toArray]
end Sm
theorem bld_new {T e : TypeId} {B b : Nat} {bs : List Value} {W W' : World} (h : Lib.IsBuilderF T e B b bs W) (hb : Below W.heap.size W W') : Lib.IsBuilderF T e B b bs W' := by
 unfold Lib.IsBuilderF Lib.BuilderAtF at h ⊢
 refine h.imp ?_ ?_ <;> (
  rintro ⟨h1, v, h2, h3, h4⟩
  refine ⟨h1, v, (hb.block b (Array.getElem?_eq_some_iff.1 h2).1).trans h2, ?_, h4⟩
  exact h3.kept (row := none) ⟨hb.os, hb.tape, hb.output, hb.size, fun k hk _ => hb.block k hk⟩ (Classical.em _))
theorem gJoin_any (bk o c : Nat) (xs : List ByteArray) (w : World) (hcells : ∀ (j : Nat) x, xs[j]? = some x → w.cell? ⟨bk, o + j, none⟩ = some (.string x)) (hbk : bk < w.heap.size) (hN : xs.length ≤ 140737488355328) (hcap : xs.length ≤ c) (hlen : (Sm.joinS xs).size ≤ 140737488355328) :
  Calls Tryz.prog 91 #[.slice (some ⟨bk, o, none⟩) xs.length c, .string ⟨#[32]⟩] w fun e w' => e = .returned (.string (Sm.joinS xs)) ∧ Below w.heap.size w w' := by
 rw [← Sm.join_eq]
 exact Tryz.strings_Join bk o c xs ⟨#[32]⟩ w hcells hbk hN hcap (by rw [show (ByteArray.mk #[32]).data.toList = [32] from rfl, Sm.join_len]; exact hlen)
theorem gWrite_any (B b : Nat) (bs : List Value) (s : ByteArray) (w : World) (h : Lib.IsBuilderF 139 5 B b bs w) (hlen : bs.length + s.size ≤ 140737488355328) (hBw : B ≤ w.heap.size) :
  Calls Tryz.prog 90 #[.pointer (some ⟨b, 0, none⟩), .string s] w fun e w' => e = .returned (.tuple #[.int .i64 s.size, .nilIface]) ∧ (Lib.BuilderAtF 139 5 B b (.pointer (some ⟨b, 0, none⟩)) (bs ++ Lib.strCells s) w' ∧ Below B w w' ∧ Lib.OthersKept 5 (some b) w w') :=
 Any.Builder_WriteString_k { Tryz.lays156 with } Tryz.Builder_Extra_156 B b bs s w h hlen hBw
set_option maxHeartbeats 2000000 in
theorem gPut_any (bk o c vb b B : Nat) (xs : List ByteArray) (l : List UInt8) (w : World) (hcells : ∀ (j : Nat) x, xs[j]? = some x → w.cell? ⟨bk, o + j, none⟩ = some (.string x)) (hbk : bk < w.heap.size) (hN : xs.length ≤ 10000) (hcap : xs.length ≤ c) (hlen : (Sm.joinS xs).size ≤ 1000000) (hl : l.length ≤ 100000000)
  (hv : w.cell? ⟨vb, 0, none⟩ = some (.pointer (some ⟨b, 0, none⟩))) (hb : Lib.IsBuilderF 139 5 B b (Lib.byteCells l) w) (hB : B ≤ w.heap.size) :
  Calls Tryz.prog 89 #[.slice (some ⟨bk, o, none⟩) xs.length c, .pointer (some ⟨vb, 0, none⟩)] w fun e w' => (∃ v, e = .returned v) ∧ Lib.IsBuilderF 139 5 B b (Lib.byteCells (l ++ sb (Sm.joinS xs ++ ⟨#[10]⟩))) w' ∧ Below B w w' ∧ Lib.OthersKept 5 (some b) w w' := by
 have cJ := fun V (hV : Below w.heap.size w V) => gJoin_any bk o c xs V (fun j x hx => by rw [hV.cell hbk]; exact hcells j x hx) (Nat.lt_of_lt_of_le hbk hV.size) (by omega) hcap (by omega)
 obtain ⟨js, hjs⟩ : ∃ z, z = Sm.joinS xs := ⟨_, rfl⟩
 rw [← hjs] at hlen ⊢
 simp only [← hjs] at cJ
 obtain ⟨n, hn⟩ : ∃ n, n = xs.length := ⟨_, rfl⟩
 rw [← hn]
 simp only [← hn] at cJ
 have hvl : vb < w.heap.size := by
  cases hx : w.heap[vb]? with
  | none => simp [World.cell?, hx] at hv
  | some o => exact (Array.getElem?_eq_some_iff.1 hx).1
 have q0 : ∀ q : BelS w.heap.size w, q.at.cell? ⟨vb, 0, none⟩ = some (.pointer (some ⟨b, 0, none⟩)) := fun q => (q.out.cell hvl).trans hv
 have qJ : ∀ q : BelS w.heap.size w, Calls Tryz.prog 91 #[.slice (some ⟨bk, o, none⟩) n c, .string ⟨#[32]⟩] q.at fun e w' => e = .returned (.string js) ∧ ∃ x : BelS w.heap.size w, w' = x.at := fun q =>
  (cJ q.at q.out).mono fun e w' ⟨h1, h2⟩ => ⟨h1, BelS.of (q.out.trans (h2.mono q.out.size))⟩
 have hcat : ¬ 9223372036854775807 < js.size + 1 := by omega
 have CJ := Lib.hid cJ
 have HB := Lib.hid (And.intro hb (And.intro hB (And.intro hlen hl)))
 clear cJ hb hB hlen hl hjs hn hcells hN hcap
 go_enter Tryz.func89, Tryz.ntmps89
 go_wp2_with fail
 refine wp_region_headB 4 w.heap.size (by kernel_rfl) (by kernel_rfl) ?_
 dsimp only [List.take, List.drop]
 go_big_quiet_step (fail)
 go_big_quiet_step (fail)
 go_big_quiet_step (exact (qJ _).mono fun e w2 h => ⟨h.1, h.2⟩)
 go_big_quiet_step (fail)
 refine wpQuiet_nil ?_
 intro w2' hw'
 obtain ⟨q, rfl⟩ := hw'
 have hbq := q.out
 obtain ⟨w1, hw1⟩ : ∃ w, w = q.at := ⟨_, rfl⟩
 rw [← hw1] at hbq ⊢
 have hjs1 : (js ++ ⟨#[10]⟩ : ByteArray).size = js.size + 1 := by rw [ByteArray.size_append]; rfl
 have hb1 : Lib.IsBuilderF 139 5 B b (Lib.byteCells l) w1 := bld_new HB.out.1 hbq
 have cW := gWrite_any B b (Lib.byteCells l) (js ++ ⟨#[10]⟩) w1 hb1 (by rw [Lib.byteCells_length, hjs1]; have := HB.out.2.2; omega) (Nat.le_trans HB.out.2.1 hbq.size)
 have ecells : Lib.byteCells l ++ Lib.strCells (js ++ ⟨#[10]⟩) = Lib.byteCells (l ++ sb (js ++ ⟨#[10]⟩)) := by
  unfold Lib.byteCells Lib.strCells sb
  rw [List.map_append]
 rw [ecells] at cW
 obtain ⟨out, hout⟩ : ∃ z, z = Lib.byteCells (l ++ sb (js ++ ⟨#[10]⟩)) := ⟨_, rfl⟩
 rw [← hout] at cW
 have CW := Lib.hid cW
 have HO := Lib.hid hout
 have HQ := Lib.hid hbq
 clear cW hout hbq hb1 ecells hjs1 CJ
 go_wp2_with fail
 subst hw1
 refine CW.out.mono ?_
 rintro e w3 ⟨rfl, ha, hb, hc⟩
 have HR := Lib.hid (show (∃ v : Value, (Ending.returned (.tuple #[]) : Ending) = .returned v) ∧ Lib.IsBuilderF 139 5 B b (Lib.byteCells (l ++ sb (js ++ ⟨#[10]⟩))) w3 ∧ Below B w w3 ∧ Lib.OthersKept 5 (some b) w w3 from
  ⟨⟨_, rfl⟩, .inr (by rw [← HO.out]; exact ha), (HQ.out.mono HB.out.2.1).trans hb, Lib.OthersKept.trans (fun k x hk _ _ => (HQ.out.block k (Array.getElem?_eq_some_iff.1 hk).1).trans hk) hc⟩)
 clear ha hb hc
 go_wp2_with fail
 first
  | (go_ret; exact ⟨⟨_, rfl⟩, HR.out.2⟩)
  | exact bodyPost_fall (results_none rfl _ _ _) rfl HR.out
  | exact bodyPost_fall (results_none rfl _ _ _) rfl ⟨⟨_, rfl⟩, HR.out.2⟩
end Go.Proofs.YtkgddcemocfgfaaGreatDoor
end

