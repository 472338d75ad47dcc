import Derived.Deep.LoopGhost
import Derived.Deep.MidRow
import Derived.Deep.WholeRow
import Derived.StillTailTactics
import Derived.BigRegion
import Derived.IntWalk
import Derived.Lib.SlBytesConst
import Derived.Lib.SlBuf
import Derived.Test.YtcmepgjbplpnbaaDoorJHashBits
import Derived.Test.YtcmepgjbplpnbaaDoorJWireK1
import Derived.Test.YtcmepgjbplpnbaaDoorJWireW

section
/- Words: a whole block of memory and its cells. -/








namespace Go.Proofs.YtcmepgjbplpnbaaDoor
open Go.RowKit

/-- Block b is a variable of type t that holds vs. -/
def Blk (w : World) (b : Nat) (vs : List Value) (t : TypeId) : Prop := w.heap[b]? = some (.cells vs.toArray t (0, 0))
section
variable {w w' : World} {b : Nat} {vs : List Value} {t : TypeId}
theorem Blk.cell (h : Blk w b vs t) (j : Nat) (v : Value) (hv : vs[j]? = some v) : w.cell? ⟨b, j, none⟩ = some v := by
  rw [cell_of_row w b j _ _ _ h]; simpa using hv
theorem Blk.frozen (h : Blk w b vs t) (j : Nat) : w.frozen? ⟨b, j, none⟩ = false := frozen_of_row w b j _ t h
theorem Blk.new (w : World) (vs : List Value) (t : TypeId) : Blk (w.alloc (.cells vs.toArray t)) w.heap.size vs t := heap_alloc_new w _
theorem Blk.lt (h : Blk w b vs t) : b < w.heap.size := (Array.getElem?_eq_some_iff.1 h).1
theorem Blk.alloc (h : Blk w b vs t) (o : Obj) : Blk (w.alloc o) b vs t := (Below.heap_alloc w o b h.lt).trans h
theorem Blk.set (h : Blk w b vs t) (i : Nat) (v : Value) : Blk (w.setCell ⟨b, i, none⟩ v) b (vs.set i v) t := by
  have := heap_setCell_same w b i _ t v h
  unfold Blk
  rw [this]
  simp
theorem Blk.other (h : Blk w b vs t) (a : Addr) (v : Value) (hn : b ≠ a.block) : Blk (w.setCell a v) b vs t := (heap_setCell_other w a b v hn).trans h
theorem Blk.drew (h : Blk w b vs t) : Blk w.drew b vs t := h
theorem Blk.drewN (h : Blk w b vs t) (n : Nat) : Blk (w.drewN n) b vs t := h
theorem Blk.below {B : Nat} (h : Blk w b vs t) (hb : Below B w w') (hB : b < B) : Blk w' b vs t := (hb.block b hB).trans h
theorem Blk.range (h : Blk w b vs t) : w.rangeAt b 0 vs := fun j v hv => by rw [Nat.zero_add]; exact h.cell j v hv
theorem Blk.sub (h : Blk w b vs t) (o : Nat) (xs : List Value) (hx : ∀ j, j < xs.length → vs[o + j]? = xs[j]?) : w.rangeAt b o xs := fun j v hv => by
  have hj := (List.getElem?_eq_some_iff.1 hv).1
  exact h.cell (o + j) v (by rw [hx j hj, hv])
theorem Blk.there (h : Blk w b vs t) (o n : Nat) (hn : o + n ≤ vs.length) : w.there b o n := fun j hj =>
  ⟨by rw [h.cell (o + j) _ (List.getElem?_eq_getElem (by omega))]; rfl, h.frozen _⟩
end
theorem size_setCell (w : World) (a : Addr) (v : Value) : (w.setCell a v).heap.size = w.heap.size := by simp [World.setCell]
theorem i64_in (x : Int) (h1 : -9223372036854775808 ≤ x) (h2 : x ≤ 9223372036854775807) : IntKind.i64.wrap x = x := IntWalk.i64_in x ⟨h1, h2⟩
theorem getD_at {α : Type} (l : List α) (i : Nat) (d : α) (h : i < l.length) : l[i]? = some (l.getD i d) := by
  simp [List.getElem?_eq_getElem h]
/-- A row that is filled from its head. -/
theorem fill_at (xs : List Value) (k n : Nat) (z : Value) (hx : xs.length = k) (h : k < n) : (xs ++ List.replicate (n - k) z)[k]? = some z := by
  rw [List.getElem?_append_right (by omega), hx, Nat.sub_self, List.getElem?_replicate, if_pos (by omega)]
theorem fill_set (xs : List Value) (k n : Nat) (z v : Value) (hx : xs.length = k) (h : k < n) : (xs ++ List.replicate (n - k) z).set k v = (xs ++ [v]) ++ List.replicate (n - (k + 1)) z := by
  rw [show n - k = (n - (k + 1)) + 1 by omega, List.replicate_succ, List.set_append_right _ _ (by omega), hx, Nat.sub_self, List.set_cons_zero, List.append_assoc]
  rfl
/-- A whole variable is written. -/
theorem set_all : ∀ (vs us : List Value) (o : Nat) (w : World) (b : Nat) (t : TypeId), Blk w b us t → o + vs.length ≤ us.length → Blk (w.setCells b o vs) b (us.take o ++ vs ++ us.drop (o + vs.length)) t := by
  intro vs
  induction vs with
  | nil => intro us o w b t h hl; rw [World.setCells]; simpa using h
  | cons v r ih =>
    intro us o w b t h hl
    simp only [List.length_cons] at hl
    rw [World.setCells]
    have h1 := ih _ (o + 1) _ b t (h.set o v) (by simp; omega)
    have e : (us.set o v).take (o + 1) ++ r ++ (us.set o v).drop (o + 1 + r.length) = us.take o ++ (v :: r) ++ us.drop (o + (v :: r).length) := by
      rw [List.take_succ_eq_append_getElem (by simp; omega), List.getElem_set_self, List.take_set_of_le (Nat.le_refl _), List.drop_set_of_lt (by omega), List.length_cons]
      simp only [List.append_assoc, List.singleton_append]
      rw [show o + 1 + r.length = o + (r.length + 1) by omega]
    rwa [e] at h1
theorem Blk.whole {w : World} {b : Nat} {us : List Value} {t : TypeId} (h : Blk w b us t) (vs : List Value) (hl : vs.length = us.length) : Blk (w.setCells b 0 vs) b vs t := by
  have := set_all vs us 0 w b t h (by omega)
  simpa [hl] using this
theorem Blk.outside {b : Nat} {us : List Value} {t : TypeId} (vs : List Value) : ∀ (c o : Nat) (w : World), Blk w b us t → b ≠ c → Blk (w.setCells c o vs) b us t := by
  induction vs with
  | nil => intro c o w h _; exact h
  | cons v r ih => intro c o w h hn; rw [World.setCells]; exact ih c _ _ (h.other ⟨c, o, none⟩ v hn) hn
theorem words_cells (l : List H.W) : ∀ u ∈ l.map wv, u.oneCell' = true := by
  intro u hu
  obtain ⟨c, _, rfl⟩ := List.mem_map.1 hu
  rfl
theorem drewN_below {B : Nat} {w w' : World} (h : Below B w w') (n : Nat) : Below B w (w'.drewN n) := ⟨h.os, h.tape, h.output, h.size, h.block⟩
end Go.Proofs.YtcmepgjbplpnbaaDoor
end

section
/- Variables of arrays: what is laid in them, what is loaded; a literal's bytes. -/




namespace Go.Proofs.YtcmepgjbplpnbaaDoor
open Go.RowKit
set_option linter.unusedVariables false

theorem conv_lit (w : World) (C : Array Value) (n c : Nat) : (convert 57 57 (.slice (some ⟨w.heap.size, 0, none⟩) n c)).run Tryd.prog (w.alloc (.cells C 5)) = .ok (.slice (some ⟨w.heap.size, 0, none⟩) n c) (w.alloc (.cells C 5 (C.size, C.size + 1))) :=
  Lib.run_convert_bytes_const w _ _ C n c Tryd.underlying57 Tryd.underlying5
theorem rd_lit (w : World) (xs : List Value) (t : TypeId) (p : Nat × Nat) : Rd (w.alloc (.cells xs.toArray t p)) (w.alloc (.cells xs.toArray t p)).heap.size (some ⟨w.heap.size, 0, none⟩) xs := fun _ =>
  ⟨w.heap.size, 0, rfl, by simp, fun j u hu => by rw [← hu]; unfold World.cell?; rw [heap_alloc_new w (.cells xs.toArray t p)]; simp⟩
/-- A row in a variable of its own. -/
theorem row_new (w : World) (t : TypeId) (n : Nat) (Z R : List Value) (hZ : Z.length = n) (hR : R.length = n) :
    ∃ W2, W2 = (w.alloc (.cells Z.toArray t)).setCells w.heap.size 0 R ∧ (w.alloc (.cells Z.toArray t)).there w.heap.size 0 R.toArray.size ∧ Blk W2 w.heap.size R t ∧ Below w.heap.size w W2 :=
  ⟨_, rfl, (Blk.new w Z _).there 0 _ (by rw [List.size_toArray, hZ, hR]; omega), (Blk.new w Z _).whole R (by rw [hZ, hR]), below_setCells _ (Nat.le_refl _) _ _ _ ((Below.refl _ _).alloc (Nat.le_refl _) _)⟩
theorem wpList_load_wanted {P : Program} {ops : Array Oper} {rest : List Oper} {op : Oper} {a : Act} {w : World} {Q : Exit → Act → World → Prop} (ty : TypeId) (x : Operand) (ho : op.op = .load ty x) (hw : Region.wanted op (yielded ops a.tmps) = true)
    (b o : Nat) (hx : a.eval x = .pointer (some ⟨b, o, none⟩)) (cs : List Value) (d : TypeDesc) (hc : w.rangeAt b o cs)
    (hu : P.underlying ty = some d) (hd : d.isRow = true) (hi : (P.info? ty).map (·.size) = some cs.length)
    (h : wpList P ops Q rest (a.put op.dst (.agg cs.toArray)) w) : wpList P ops Q (op :: rest) a w :=
  wpList_step fun K hK => by simp only [hw, if_true]; exact wp_load_mid ty x ho b o hx cs d hc hu hd hi (hK _ _ h)
theorem row_load (w : World) (b : Nat) (t e : TypeId) (n : Nat) (R : List Value) (hb : Blk w b R t) (ht : Tryd.prog.underlying t = some (.array n e)) (hs : (Tryd.prog.info? t).map (·.size) = some R.toArray.size) :
    (Instr.loadAt t (.pointer (some ⟨b, 0, none⟩))).run Tryd.prog w = .ok (.agg R.toArray) w :=
  run_loadAt_mid (P := Tryd.prog) w b 0 t R _ hb.range ht rfl (by rw [← List.size_toArray]; exact hs)

end Go.Proofs.YtcmepgjbplpnbaaDoor
end

