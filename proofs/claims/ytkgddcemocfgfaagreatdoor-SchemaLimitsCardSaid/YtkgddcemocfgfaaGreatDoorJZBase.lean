import Derived.Test.YtkgddcemocfgfaaGreatDoorProg
import Derived.WalkKit
import Derived.Lib.Hide
import Derived.Outline
import Derived.Laws.BitsAllLaws
import Derived.Laws.BitsAll
import Derived.Deep.QuietTactic
import Derived.BigQuiet
import Derived.Deep.LoopGhost
import Derived.Deep.MidRow
import Derived.Deep.WholeRow
import Derived.StillTailTactics
import Derived.BigRegion
import Derived.IntWalk
import Derived.Deep.RegionWith
import Derived.WalkLawsBesides
import Derived.Lib.ItoaLen
import Derived.Below
import Derived.Deep.DeepCutAuto
import Derived.Deep.Light
import Derived.Laws.BytesArg
import Derived.Laws.EntriesVeiled
import Derived.Laws.ResultCell
import Derived.Laws.StructEq
import Derived.Lib.AppendStr
import Derived.Lib.ConvBytes
import Derived.Lib.Slices
import Derived.Lib.Small
import Derived.Lib.Strings
import Derived.Lib.Walk
import Derived.WalkSpells
import Derived.Test.YtkgddcemocfgfaaGreatDoorJZFacts
import Derived.Test.YtkgddcemocfgfaaGreatDoorJZHashMath
import Derived.Test.YtkgddcemocfgfaaGreatDoorJZRatioText
import Derived.Test.YtkgddcemocfgfaaGreatDoorJZShort
import Derived.Test.YtkgddcemocfgfaaGreatDoorJZWireG0

section
/- Words of 32 bits in the walk's spelling. -/









namespace Go.Proofs.YtkgddcemocfgfaaGreatDoor
open Go.RowKit

/-- A word's number, and its value. -/
def nv (x : H.W) : Int := (x.toNat : Int)
theorem wbyte (c : UInt8) : IntKind.u32.wrap (c.toNat : Int) = nv (H.u c) := by
 have := c.toNat_lt
 rw [IntKind.wrap_u32']
 unfold nv H.u
 rw [BitVec.toNat_ofNat]
 omega
end Go.Proofs.YtkgddcemocfgfaaGreatDoor
end

section
/- Words: a whole block of memory and its cells. -/








namespace Go.Proofs.YtkgddcemocfgfaaGreatDoor
open Go.RowKit

/-- Block b is a variable of type t that holds vs. -/
def Blk (w : World) (b : Nat) (vs : List Value) (t : TypeId) : Prop := w.heap[b]? = some (.cells vs.toArray t (0, 0))
section
variable {w w' : World} {b : Nat} {vs : List Value} {t : TypeId}
theorem Blk.cell (h : Blk w b vs t) (j : Nat) (v : Value) (hv : vs[j]? = some v) : w.cell? ⟨b, j, none⟩ = some v := by
 rw [cell_of_row w b j _ _ _ h]; simpa using hv
theorem Blk.frozen (h : Blk w b vs t) (j : Nat) : w.frozen? ⟨b, j, none⟩ = false := frozen_of_row w b j _ t h
theorem Blk.new (w : World) (vs : List Value) (t : TypeId) : Blk (w.alloc (.cells vs.toArray t)) w.heap.size vs t := heap_alloc_new w _
theorem Blk.lt (h : Blk w b vs t) : b < w.heap.size := (Array.getElem?_eq_some_iff.1 h).1
theorem Blk.alloc (h : Blk w b vs t) (o : Obj) : Blk (w.alloc o) b vs t := (Below.heap_alloc w o b h.lt).trans h
theorem Blk.set (h : Blk w b vs t) (i : Nat) (v : Value) : Blk (w.setCell ⟨b, i, none⟩ v) b (vs.set i v) t := by
 have := heap_setCell_same w b i _ t v h
 unfold Blk
 rw [this]
 simp
theorem Blk.other (h : Blk w b vs t) (a : Addr) (v : Value) (hn : b ≠ a.block) : Blk (w.setCell a v) b vs t := (heap_setCell_other w a b v hn).trans h
theorem Blk.drew (h : Blk w b vs t) : Blk w.drew b vs t := h
theorem Blk.drewN (h : Blk w b vs t) (n : Nat) : Blk (w.drewN n) b vs t := h
theorem Blk.below {B : Nat} (h : Blk w b vs t) (hb : Below B w w') (hB : b < B) : Blk w' b vs t := (hb.block b hB).trans h
theorem Blk.range (h : Blk w b vs t) : w.rangeAt b 0 vs := fun j v hv => by rw [Nat.zero_add]; exact h.cell j v hv
theorem Blk.there (h : Blk w b vs t) (o n : Nat) (hn : o + n ≤ vs.length) : w.there b o n := fun j hj =>
 ⟨by rw [h.cell (o + j) _ (List.getElem?_eq_getElem (by omega))]; rfl, h.frozen _⟩
end
theorem size_setCell (w : World) (a : Addr) (v : Value) : (w.setCell a v).heap.size = w.heap.size := by simp [World.setCell]
theorem i64_in (x : Int) (h1 : -9223372036854775808 ≤ x) (h2 : x ≤ 9223372036854775807) : IntKind.i64.wrap x = x := IntWalk.i64_in x ⟨h1, h2⟩
/-- A whole variable is written. -/
theorem set_all : ∀ (vs us : List Value) (o : Nat) (w : World) (b : Nat) (t : TypeId), Blk w b us t → o + vs.length ≤ us.length → Blk (w.setCells b o vs) b (us.take o ++ vs ++ us.drop (o + vs.length)) t := by
 intro vs
 induction vs with
 | nil => intro us o w b t h hl; rw [World.setCells]; simpa using h
 | cons v r ih =>
  intro us o w b t h hl
  simp only [List.length_cons] at hl
  rw [World.setCells]
  have h1 := ih _ (o + 1) _ b t (h.set o v) (by simp; omega)
  have e : (us.set o v).take (o + 1) ++ r ++ (us.set o v).drop (o + 1 + r.length) = us.take o ++ (v :: r) ++ us.drop (o + (v :: r).length) := by
   rw [List.take_succ_eq_append_getElem (by simp; omega), List.getElem_set_self, List.take_set_of_le (Nat.le_refl _), List.drop_set_of_lt (by omega), List.length_cons]
   simp only [List.append_assoc, List.singleton_append]
   rw [show o + 1 + r.length = o + (r.length + 1) by omega]
  rwa [e] at h1
theorem Blk.whole {w : World} {b : Nat} {us : List Value} {t : TypeId} (h : Blk w b us t) (vs : List Value) (hl : vs.length = us.length) : Blk (w.setCells b 0 vs) b vs t := by
 have := set_all vs us 0 w b t h (by omega)
 simpa [hl] using this
theorem drewN_below {B : Nat} {w w' : World} (h : Below B w w') (n : Nat) : Below B w (w'.drewN n) := ⟨h.os, h.tape, h.output, h.size, h.block⟩
end Go.Proofs.YtkgddcemocfgfaaGreatDoor
end

section
/- A region that draws its order, where every operation yields one value in every world that is as it was below a block. -/





namespace Go.Proofs.YtkgddcemocfgfaaGreatDoor
open Go.RowKit
set_option linter.unusedVariables false

/-- The worlds that are as w below block B. -/
def BelT (B : Nat) (w : World) : Type := { w' : World // Below B w w' }
def BelT.at {B : Nat} {w : World} (x : BelT B w) : World := x.val
theorem BelT.out {B : Nat} {w : World} (x : BelT B w) : Below B w x.at := x.property
theorem BelT.of {B : Nat} {w w' : World} (h : Below B w w') : ∃ x : BelT B w, w' = x.at := ⟨⟨w', h⟩, rfl⟩
instance {B : Nat} {w : World} : Nonempty (BelT B w) := ⟨⟨w, Below.refl _ _⟩⟩
/-- A region that draws its order, where every operation yields one value in every world that is as it was below B; a callee may make memory. -/
theorem wp_region_below {P : Program} {id : Nat} {Q : Exit → Act → World → Prop} {a : Act} {w : World} {l : List Oper} (B : Nat) (hm : P.follows .mixedOrders = true) (hB : Region.lexB .any l.toArray = true)
  (h : wpQuiet P l.toArray (fun w' => ∃ x : BelT B w, w' = x.at) (fun a' => ∀ w', (∃ x : BelT B w, w' = x.at) → Q .normal a' w') l a) : (Code.region id l.toArray true).wp P Q a w :=
 wp_region_quiet (C := fun w' => ∃ x : BelT B w, w' = x.at) hm hB (BelT.of ⟨rfl, rfl, rfl, Nat.le_refl _, fun _ _ => rfl⟩) (by simpa using h)

end Go.Proofs.YtkgddcemocfgfaaGreatDoor
end

section
/- Strings in drawn regions; decimal digits. -/






namespace Go.Proofs.YtkgddcemocfgfaaGreatDoor
open Go.RowKit
set_option linter.unusedVariables false
set_option maxRecDepth 100000

theorem size_bs (l : List UInt8) : (bs l).size = l.length := by simp [bs, ByteArray.size]
theorem bs_add (x y : List UInt8) : bs x ++ bs y = bs (x ++ y) := ByteArray.mk_append_mk x y
theorem run_add_str (X Y : Operand) (w : World) (x y : List UInt8) (hx : x.length ≤ 8388608) (hy : y.length ≤ 8388608) :
  (do eqGuard .add 9 X Y (.string (bs x)) (.string (bs y)); binOp .add 9 (.string (bs x)) (.string (bs y)) : Sem Value).run Tryz.prog w = .ok (.string (bs (x ++ y))) w := by
 go_simp
 rw [if_neg (by rw [size_bs, size_bs]; omega), bs_add]
theorem run_quo10 (n : Nat) (X Y : Operand) (W : World) (h : n < 9223372036854775808) : (do eqGuard .quo 3 X Y (.int .i64 n) (.int .i64 10); binOp .quo 3 (.int .i64 n) (.int .i64 10) : Sem Value).run Tryz.prog W = .ok (.int .i64 ((n / 10 : Nat) : Int)) W := by
 have e : ((n / 10 : Nat) : Int) = (n : Int).tdiv 10 := by rw [Int.tdiv_eq_ediv_of_nonneg (by omega)]; omega
 have e2 : IntKind.i64.wrap ((n : Int).tdiv 10) = (n : Int).tdiv 10 := i64_in _ (by rw [← e]; omega) (by rw [← e]; omega)
 rw [e]
 clear e h
 generalize (n : Int) = x at *
 go_simp
theorem run_rem10 (n : Nat) (X Y : Operand) (W : World) : (do eqGuard .rem 3 X Y (.int .i64 n) (.int .i64 10); binOp .rem 3 (.int .i64 n) (.int .i64 10) : Sem Value).run Tryz.prog W = .ok (.int .i64 ((n % 10 : Nat) : Int)) W := by
 have e : ((n % 10 : Nat) : Int) = (n : Int).tmod 10 := by rw [Int.tmod_eq_emod_of_nonneg (by omega)]; omega
 rw [e]
 clear e
 generalize (n : Int) = x at *
 go_simp
theorem run_add48 (k : Nat) (X Y : Operand) (W : World) (h : k < 10) : (do eqGuard .add 3 X Y (.int .i64 48) (.int .i64 k); binOp .add 3 (.int .i64 48) (.int .i64 k) : Sem Value).run Tryz.prog W = .ok (.int .i64 (48 + (k : Int))) W := by
 have e2 : IntKind.i64.wrap (48 + (k : Int)) = 48 + (k : Int) := i64_in _ (by omega) (by omega)
 have e3 : wrap64 (48 + (k : Int)) = 48 + (k : Int) := IntWalk.wrap64_in _ (by omega)
 clear h
 generalize (k : Int) = x at *
 go_simp
theorem run_conv8 (k : Nat) (W : World) (h : k < 10) : (convert 3 5 (.int .i64 (48 + (k : Int)))).run Tryz.prog W = .ok (bv (UInt8.ofNat (48 + k))) W := by
 have e : bv (UInt8.ofNat (48 + k)) = .int .u8 (48 + (k : Int)) := by
  unfold bv
  congr 1
  rw [Rt.ofNat_dig h]; omega
 rw [e]
 have h2 : IntKind.u8.wrap (48 + (k : Int)) = 48 + (k : Int) := by rw [IntKind.wrap_u8]; omega
 go_simp
/-- What a slice of bytes reads as. -/
def Fact.rowB (l : List UInt8) : Fact :=
 ⟨fun v w => ∃ A c, v = .slice A l.length c ∧ RdB w w.heap.size A l ∧ l.length ≤ c ∧ c ≤ maxLen, fun _ _ _ ⟨A, c, h1, h2, h3, h4⟩ hb => ⟨A, c, h1, (h2.below hb).more hb.size, h3, h4⟩⟩
theorem build_u8 (w : World) (x : UInt8) : (Instr.buildSlice 35 1 #[(0, bv x)]).run Tryz.prog w = .ok (.slice (some ⟨w.heap.size, 0, none⟩) 1 1) (w.alloc (.cells #[bv x] 5)) := by
 unfold bv
 go_simp
theorem dec_len21 (n : Nat) (h : n < 9223372036854775808) : (Lib.decDigits n).length ≤ 21 := by
 have h1 := Lib.itoa_length_le (n : Int) (by omega) (by omega)
 rw [Rt.itoa_pos (by omega)] at h1
 simpa using h1
end Go.Proofs.YtkgddcemocfgfaaGreatDoor
end

section
/- Words without a program's own functions: rows that read, blocks, what a call leaves, conversions of strings; for seats that hold neither wire nor hash (there WireW, WireG0, WireG1, HashBlk and Below0 say the same). -/


































namespace Go.Proofs.YtkgddcemocfgfaaGreatDoor
open Go.RowKit
set_option linter.unusedVariables false


























end Go.Proofs.YtkgddcemocfgfaaGreatDoor
end

