import Derived.Test.YtkelfcgomeojeaaDoorProg
import Derived.WalkKit
import Derived.Lib.Hide
import Derived.Outline
import Derived.Laws.BitsAllLaws
import Derived.Laws.BitsAll
import Derived.Deep.QuietTactic
import Derived.BigQuiet
import Derived.Deep.LoopGhost
import Derived.Deep.MidRow
import Derived.Deep.WholeRow
import Derived.StillTailTactics
import Derived.BigRegion
import Derived.IntWalk
import Derived.Lib.SlBytesConst
import Derived.Lib.SlBuf
import Derived.Test.YtkelfcgomeojeaaDoorJSnoc
import Derived.Test.YtkelfcgomeojeaaDoorJWireD
import Derived.Test.YtkelfcgomeojeaaDoorJWireK0

section
/- Words of 32 bits in the walk's spelling. -/









namespace Go.Proofs.YtkelfcgomeojeaaDoor
open Go.RowKit

/-- A word's number, and its value. -/
def nv (x : H.W) : Int := (x.toNat : Int)
def wv (x : H.W) : Value := .int .u32 (nv x)
theorem nv_lo (x : H.W) : 0 ≤ nv x := by unfold nv; omega
theorem nv_hi (x : H.W) : nv x < 4294967296 := by unfold nv; have := x.isLt; omega
theorem wxor (x y : H.W) : bits .xor .u32 (nv x) (nv y) = nv (H.oxor x y) := by
  unfold nv H.oxor
  rw [u32_xor_nat _ _ x.isLt y.isLt, BitVec.toNat_xor]
theorem wand (x y : H.W) : bits .and .u32 (nv x) (nv y) = nv (H.oand x y) := by
  unfold nv H.oand
  rw [u32_and_nat _ _ x.isLt y.isLt, BitVec.toNat_and]
theorem wor (x y : H.W) : bits .or .u32 (nv x) (nv y) = nv (H.oor x y) := by
  unfold nv H.oor
  rw [u32_or_nat _ _ x.isLt y.isLt, BitVec.toNat_or]
theorem wadd' (x y : H.W) : (nv x + nv y) % 4294967296 = nv (H.oadd x y) := by
  unfold nv H.oadd
  rw [BitVec.toNat_add]; omega
theorem wadd (x y : H.W) : IntKind.u32.wrap (nv x + nv y) = nv (H.oadd x y) := by
  rw [IntKind.wrap_u32', wadd']
theorem wshl (x : H.W) (n : Nat) : nv x * 2 ^ n % 4294967296 = nv (H.oshl x n) := by
  unfold nv H.oshl
  rw [BitVec.toNat_shiftLeft, Nat.shiftLeft_eq, Int.natCast_emod, Int.natCast_mul, Int.natCast_pow]
  rfl
theorem wshr (x : H.W) (n : Nat) : nv x / 2 ^ n = nv (H.oshr x n) := by
  unfold nv H.oshr
  rw [BitVec.toNat_ushiftRight, Nat.shiftRight_eq_div_pow, Int.natCast_ediv, Int.natCast_pow]
  rfl
theorem wnot (x : H.W) : (4294967295 : Int) - nv x = nv (H.onot x) := by
  unfold nv H.onot
  rw [BitVec.toNat_not]; have := x.isLt; omega
theorem wnot' (x : H.W) : bits .xor .u32 (if IntKind.u32.signed = true then -1 else IntKind.u32.max) (nv x) = nv (H.onot x) := by
  rw [← wnot]
  unfold nv
  rw [show (if IntKind.u32.signed = true then (-1 : Int) else IntKind.u32.max) = ((4294967295 : Nat) : Int) from by decide, u32_xor_nat _ _ (by omega) x.isLt]
  have h := BitVec.toNat_not (x := x)
  have h2 : (~~~x) = (4294967295#32 ^^^ x) := by
    rw [show (4294967295#32 : BitVec 32) = BitVec.allOnes 32 from by decide, BitVec.allOnes_xor]
  rw [h2, BitVec.toNat_xor] at h
  have h3 : (4294967295#32 : BitVec 32).toNat = 4294967295 := by decide
  rw [h3] at h
  rw [h]
  have := x.isLt
  omega
theorem wshl24 (x : H.W) : IntKind.u32.wrap (nv x * 16777216) = nv (H.oshl x 24) := by rw [← wshl x 24, IntKind.wrap_u32']; rfl
theorem wshl16 (x : H.W) : IntKind.u32.wrap (nv x * 65536) = nv (H.oshl x 16) := by rw [← wshl x 16, IntKind.wrap_u32']; rfl
theorem wshl8 (x : H.W) : IntKind.u32.wrap (nv x * 256) = nv (H.oshl x 8) := by rw [← wshl x 8, IntKind.wrap_u32']; rfl
theorem wshr3 (x : H.W) : nv x / 8 = nv (H.oshr x 3) := wshr x 3
theorem wshr10 (x : H.W) : nv x / 1024 = nv (H.oshr x 10) := wshr x 10
theorem wbyte (c : UInt8) : IntKind.u32.wrap (c.toNat : Int) = nv (H.u c) := by
  have := c.toNat_lt
  rw [IntKind.wrap_u32']
  unfold nv H.u
  rw [BitVec.toNat_ofNat]
  omega
theorem ret_u32 {a b : Int} (h : a = b) : Ending.returned (.int .u32 a) = .returned (.int .u32 b) := by rw [h]
theorem oor_comm (x y : H.W) : H.oor x y = H.oor y x := by
  unfold H.oor
  apply BitVec.eq_of_toNat_eq
  rw [BitVec.toNat_or, BitVec.toNat_or, Nat.or_comm]
theorem and31 (n : Nat) (h : 1 ≤ n) (h2 : n ≤ 31) : bits .and .u64 (IntKind.u64.wrap (-(n : Int))) 31 = ((32 - n : Nat) : Int) := by
  have : ∀ m : Fin 32, m.val ≠ 0 → bits .and .u64 (IntKind.u64.wrap (-(m.val : Int))) 31 = ((32 - m.val : Nat) : Int) := by decide +kernel
  exact this ⟨n, by omega⟩ (by simp; omega)

theorem rotl_any (x : H.W) (n : Nat) (w : World) (h : 1 ≤ n) (h2 : n ≤ 31) :
    Calls Tryd.prog 80 #[.int .u32 (nv x), .int .i64 (-(n : Int))] w fun e w' => e = .returned (.int .u32 (nv (H.rotr x n))) ∧ w = w' := by
  have ha := and31 n h h2
  have hx := nv_lo x
  have hx' := nv_hi x
  obtain ⟨m, hm⟩ : ∃ m, m = 32 - n := ⟨_, rfl⟩
  rw [← hm] at ha
  have m1 : m + n ≤ 32 := by omega
  have m2 : 32 ≤ m + n := by omega
  clear hm
  go_enter Tryd.func80, Tryd.ntmps80
  go_wp2
  go_ret
  refine ⟨ret_u32 ?_, rfl⟩
  rw [wshl, wshr, wor]
  unfold H.rotr
  rw [oor_comm, show 32 - m = n by omega, show m = 32 - n by omega]

theorem rotr_any (x : H.W) (n : Nat) (w : World) (h : 1 ≤ n) (h2 : n ≤ 31) :
    Calls Tryd.prog 79 #[.int .u32 (nv x), .int .i64 (n : Int)] w fun e w' => e = .returned (.int .u32 (nv (H.rotr x n))) ∧ w = w' := by
  have hx := nv_lo x
  have hx' := nv_hi x
  go_enter Tryd.func79, Tryd.ntmps79
  go_wp2_with (refine (rotl_any _ n _ h h2).mono ?_; rintro e w' ⟨rfl, rfl⟩)
  go_ret
  exact ⟨rfl, rfl⟩

theorem rrotr_any (x : H.W) (n : Nat) (w : World) (h : 1 ≤ n) (h2 : n ≤ 31) :
    Calls Tryd.prog 76 #[.int .u32 (nv x), .int .i64 (n : Int)] w fun e w' => e = .returned (.int .u32 (nv (H.rotr x n))) ∧ ∃ m, w' = w.drewN m := by
  have hx := nv_lo x
  have hx' := nv_hi x
  go_enter Tryd.func76, Tryd.ntmps76
  go_wp2
  go_quiet (fail)
  go_wp2
  go_ret
  refine ⟨ret_u32 ?_, _, rfl⟩
  rw [wshl, wshr, wor]
  rfl

theorem quiet_left {P : Program} {f : FuncId} {args : Array Value} {w : World} {n : Nat} {v : Value}
    (h : Calls P f args (w.drewN n) fun e w' => e = .returned v ∧ w.drewN n = w') : Calls P f args (w.drewN n) fun e w'' => e = .returned v ∧ ∃ m, w'' = w.drewN m :=
  h.mono fun _ _ ⟨he, hm⟩ => ⟨he, n, hm.symm⟩
theorem rotr_z (x : H.W) (z : Int) (w : World) (h : 1 ≤ z) (h2 : z ≤ 31) :
    Calls Tryd.prog 79 #[.int .u32 (nv x), .int .i64 z] w fun e w' => e = .returned (.int .u32 (nv (H.rotr x z.toNat))) ∧ w = w' := by
  obtain ⟨n, rfl⟩ := Int.eq_ofNat_of_zero_le (show 0 ≤ z by omega)
  exact rotr_any x n w (by omega) (by omega)
theorem rrotr_z (x : H.W) (z : Int) (w : World) (h : 1 ≤ z) (h2 : z ≤ 31) :
    Calls Tryd.prog 76 #[.int .u32 (nv x), .int .i64 z] w fun e w' => e = .returned (.int .u32 (nv (H.rotr x z.toNat))) ∧ ∃ m, w' = w.drewN m := by
  obtain ⟨n, rfl⟩ := Int.eq_ofNat_of_zero_le (show 0 ≤ z by omega)
  exact rrotr_any x n w (by omega) (by omega)
end Go.Proofs.YtkelfcgomeojeaaDoor
end

section
/- Words: a whole block of memory and its cells. -/








namespace Go.Proofs.YtkelfcgomeojeaaDoor
open Go.RowKit

/-- Block b is a variable of type t that holds vs. -/
def Blk (w : World) (b : Nat) (vs : List Value) (t : TypeId) : Prop := w.heap[b]? = some (.cells vs.toArray t (0, 0))
section
variable {w w' : World} {b : Nat} {vs : List Value} {t : TypeId}
theorem Blk.cell (h : Blk w b vs t) (j : Nat) (v : Value) (hv : vs[j]? = some v) : w.cell? ⟨b, j, none⟩ = some v := by
  rw [cell_of_row w b j _ _ _ h]; simpa using hv
theorem Blk.frozen (h : Blk w b vs t) (j : Nat) : w.frozen? ⟨b, j, none⟩ = false := frozen_of_row w b j _ t h
theorem Blk.new (w : World) (vs : List Value) (t : TypeId) : Blk (w.alloc (.cells vs.toArray t)) w.heap.size vs t := heap_alloc_new w _
theorem Blk.lt (h : Blk w b vs t) : b < w.heap.size := (Array.getElem?_eq_some_iff.1 h).1
theorem Blk.alloc (h : Blk w b vs t) (o : Obj) : Blk (w.alloc o) b vs t := (Below.heap_alloc w o b h.lt).trans h
theorem Blk.set (h : Blk w b vs t) (i : Nat) (v : Value) : Blk (w.setCell ⟨b, i, none⟩ v) b (vs.set i v) t := by
  have := heap_setCell_same w b i _ t v h
  unfold Blk
  rw [this]
  simp
theorem Blk.other (h : Blk w b vs t) (a : Addr) (v : Value) (hn : b ≠ a.block) : Blk (w.setCell a v) b vs t := (heap_setCell_other w a b v hn).trans h
theorem Blk.drew (h : Blk w b vs t) : Blk w.drew b vs t := h
theorem Blk.drewN (h : Blk w b vs t) (n : Nat) : Blk (w.drewN n) b vs t := h
theorem Blk.below {B : Nat} (h : Blk w b vs t) (hb : Below B w w') (hB : b < B) : Blk w' b vs t := (hb.block b hB).trans h
theorem Blk.range (h : Blk w b vs t) : w.rangeAt b 0 vs := fun j v hv => by rw [Nat.zero_add]; exact h.cell j v hv
theorem Blk.sub (h : Blk w b vs t) (o : Nat) (xs : List Value) (hx : ∀ j, j < xs.length → vs[o + j]? = xs[j]?) : w.rangeAt b o xs := fun j v hv => by
  have hj := (List.getElem?_eq_some_iff.1 hv).1
  exact h.cell (o + j) v (by rw [hx j hj, hv])
theorem Blk.there (h : Blk w b vs t) (o n : Nat) (hn : o + n ≤ vs.length) : w.there b o n := fun j hj =>
  ⟨by rw [h.cell (o + j) _ (List.getElem?_eq_getElem (by omega))]; rfl, h.frozen _⟩
end
theorem size_setCell (w : World) (a : Addr) (v : Value) : (w.setCell a v).heap.size = w.heap.size := by simp [World.setCell]
theorem i64_in (x : Int) (h1 : -9223372036854775808 ≤ x) (h2 : x ≤ 9223372036854775807) : IntKind.i64.wrap x = x := IntWalk.i64_in x ⟨h1, h2⟩
theorem getD_at {α : Type} (l : List α) (i : Nat) (d : α) (h : i < l.length) : l[i]? = some (l.getD i d) := by
  simp [List.getElem?_eq_getElem h]
/-- A row that is filled from its head. -/
theorem fill_at (xs : List Value) (k n : Nat) (z : Value) (hx : xs.length = k) (h : k < n) : (xs ++ List.replicate (n - k) z)[k]? = some z := by
  rw [List.getElem?_append_right (by omega), hx, Nat.sub_self, List.getElem?_replicate, if_pos (by omega)]
theorem fill_set (xs : List Value) (k n : Nat) (z v : Value) (hx : xs.length = k) (h : k < n) : (xs ++ List.replicate (n - k) z).set k v = (xs ++ [v]) ++ List.replicate (n - (k + 1)) z := by
  rw [show n - k = (n - (k + 1)) + 1 by omega, List.replicate_succ, List.set_append_right _ _ (by omega), hx, Nat.sub_self, List.set_cons_zero, List.append_assoc]
  rfl
/-- A whole variable is written. -/
theorem set_all : ∀ (vs us : List Value) (o : Nat) (w : World) (b : Nat) (t : TypeId), Blk w b us t → o + vs.length ≤ us.length → Blk (w.setCells b o vs) b (us.take o ++ vs ++ us.drop (o + vs.length)) t := by
  intro vs
  induction vs with
  | nil => intro us o w b t h hl; rw [World.setCells]; simpa using h
  | cons v r ih =>
    intro us o w b t h hl
    simp only [List.length_cons] at hl
    rw [World.setCells]
    have h1 := ih _ (o + 1) _ b t (h.set o v) (by simp; omega)
    have e : (us.set o v).take (o + 1) ++ r ++ (us.set o v).drop (o + 1 + r.length) = us.take o ++ (v :: r) ++ us.drop (o + (v :: r).length) := by
      rw [List.take_succ_eq_append_getElem (by simp; omega), List.getElem_set_self, List.take_set_of_le (Nat.le_refl _), List.drop_set_of_lt (by omega), List.length_cons]
      simp only [List.append_assoc, List.singleton_append]
      rw [show o + 1 + r.length = o + (r.length + 1) by omega]
    rwa [e] at h1
theorem Blk.whole {w : World} {b : Nat} {us : List Value} {t : TypeId} (h : Blk w b us t) (vs : List Value) (hl : vs.length = us.length) : Blk (w.setCells b 0 vs) b vs t := by
  have := set_all vs us 0 w b t h (by omega)
  simpa [hl] using this
theorem Blk.outside {b : Nat} {us : List Value} {t : TypeId} (vs : List Value) : ∀ (c o : Nat) (w : World), Blk w b us t → b ≠ c → Blk (w.setCells c o vs) b us t := by
  induction vs with
  | nil => intro c o w h _; exact h
  | cons v r ih => intro c o w h hn; rw [World.setCells]; exact ih c _ _ (h.other ⟨c, o, none⟩ v hn) hn
theorem words_cells (l : List H.W) : ∀ u ∈ l.map wv, u.oneCell' = true := by
  intro u hu
  obtain ⟨c, _, rfl⟩ := List.mem_map.1 hu
  rfl
theorem drewN_below {B : Nat} {w w' : World} (h : Below B w w') (n : Nat) : Below B w (w'.drewN n) := ⟨h.os, h.tape, h.output, h.size, h.block⟩
end Go.Proofs.YtkelfcgomeojeaaDoor
end

section
/- Variables of arrays: what is laid in them, what is loaded; a literal's bytes. -/




namespace Go.Proofs.YtkelfcgomeojeaaDoor
open Go.RowKit
set_option linter.unusedVariables false

theorem conv_lit (w : World) (C : Array Value) (n c : Nat) : (convert 51 51 (.slice (some ⟨w.heap.size, 0, none⟩) n c)).run Tryd.prog (w.alloc (.cells C 5)) = .ok (.slice (some ⟨w.heap.size, 0, none⟩) n c) (w.alloc (.cells C 5 (C.size, C.size + 1))) :=
  Lib.run_convert_bytes_const w _ _ C n c Tryd.underlying51 Tryd.underlying5
theorem rd_lit (w : World) (xs : List Value) (t : TypeId) (p : Nat × Nat) : Rd (w.alloc (.cells xs.toArray t p)) (w.alloc (.cells xs.toArray t p)).heap.size (some ⟨w.heap.size, 0, none⟩) xs := fun _ =>
  ⟨w.heap.size, 0, rfl, by simp, fun j u hu => by rw [← hu]; unfold World.cell?; rw [heap_alloc_new w (.cells xs.toArray t p)]; simp⟩
/-- A row in a variable of its own. -/
theorem row_new (w : World) (t : TypeId) (n : Nat) (Z R : List Value) (hZ : Z.length = n) (hR : R.length = n) :
    ∃ W2, W2 = (w.alloc (.cells Z.toArray t)).setCells w.heap.size 0 R ∧ (w.alloc (.cells Z.toArray t)).there w.heap.size 0 R.toArray.size ∧ Blk W2 w.heap.size R t ∧ Below w.heap.size w W2 :=
  ⟨_, rfl, (Blk.new w Z _).there 0 _ (by rw [List.size_toArray, hZ, hR]; omega), (Blk.new w Z _).whole R (by rw [hZ, hR]), below_setCells _ (Nat.le_refl _) _ _ _ ((Below.refl _ _).alloc (Nat.le_refl _) _)⟩
theorem wpList_load_wanted {P : Program} {ops : Array Oper} {rest : List Oper} {op : Oper} {a : Act} {w : World} {Q : Exit → Act → World → Prop} (ty : TypeId) (x : Operand) (ho : op.op = .load ty x) (hw : Region.wanted op (yielded ops a.tmps) = true)
    (b o : Nat) (hx : a.eval x = .pointer (some ⟨b, o, none⟩)) (cs : List Value) (d : TypeDesc) (hc : w.rangeAt b o cs)
    (hu : P.underlying ty = some d) (hd : d.isRow = true) (hi : (P.info? ty).map (·.size) = some cs.length)
    (h : wpList P ops Q rest (a.put op.dst (.agg cs.toArray)) w) : wpList P ops Q (op :: rest) a w :=
  wpList_step fun K hK => by simp only [hw, if_true]; exact wp_load_mid ty x ho b o hx cs d hc hu hd hi (hK _ _ h)
theorem row_load (w : World) (b : Nat) (t e : TypeId) (n : Nat) (R : List Value) (hb : Blk w b R t) (ht : Tryd.prog.underlying t = some (.array n e)) (hs : (Tryd.prog.info? t).map (·.size) = some R.toArray.size) :
    (Instr.loadAt t (.pointer (some ⟨b, 0, none⟩))).run Tryd.prog w = .ok (.agg R.toArray) w :=
  run_loadAt_mid (P := Tryd.prog) w b 0 t R _ hb.range ht rfl (by rw [← List.size_toArray]; exact hs)

end Go.Proofs.YtkelfcgomeojeaaDoor
end

