import Derived.Deep.LoopGhost
import Derived.Deep.MidRow
import Derived.Deep.WholeRow
import Derived.StillTailTactics
import Derived.BigRegion
import Derived.IntWalk
import Derived.Test.YtjdidnonfmdfmaaDoorJHashBits
import Derived.Test.YtjdidnonfmdfmaaDoorJWireW

section
/- Words: a whole block of memory and its cells. -/








namespace Go.Proofs.YtjdidnonfmdfmaaDoor
open Go.RowKit

/-- Block b is a variable of type t that holds vs. -/
def Blk (w : World) (b : Nat) (vs : List Value) (t : TypeId) : Prop := w.heap[b]? = some (.cells vs.toArray t (0, 0))
section
variable {w w' : World} {b : Nat} {vs : List Value} {t : TypeId}
theorem Blk.cell (h : Blk w b vs t) (j : Nat) (v : Value) (hv : vs[j]? = some v) : w.cell? ⟨b, j, none⟩ = some v := by
  rw [cell_of_row w b j _ _ _ h]; simpa using hv
theorem Blk.frozen (h : Blk w b vs t) (j : Nat) : w.frozen? ⟨b, j, none⟩ = false := frozen_of_row w b j _ t h
theorem Blk.new (w : World) (vs : List Value) (t : TypeId) : Blk (w.alloc (.cells vs.toArray t)) w.heap.size vs t := heap_alloc_new w _
theorem Blk.lt (h : Blk w b vs t) : b < w.heap.size := (Array.getElem?_eq_some_iff.1 h).1
theorem Blk.alloc (h : Blk w b vs t) (o : Obj) : Blk (w.alloc o) b vs t := (Below.heap_alloc w o b h.lt).trans h
theorem Blk.set (h : Blk w b vs t) (i : Nat) (v : Value) : Blk (w.setCell ⟨b, i, none⟩ v) b (vs.set i v) t := by
  have := heap_setCell_same w b i _ t v h
  unfold Blk
  rw [this]
  simp
theorem Blk.other (h : Blk w b vs t) (a : Addr) (v : Value) (hn : b ≠ a.block) : Blk (w.setCell a v) b vs t := (heap_setCell_other w a b v hn).trans h
theorem Blk.drew (h : Blk w b vs t) : Blk w.drew b vs t := h
theorem Blk.drewN (h : Blk w b vs t) (n : Nat) : Blk (w.drewN n) b vs t := h
theorem Blk.below {B : Nat} (h : Blk w b vs t) (hb : Below B w w') (hB : b < B) : Blk w' b vs t := (hb.block b hB).trans h
theorem Blk.range (h : Blk w b vs t) : w.rangeAt b 0 vs := fun j v hv => by rw [Nat.zero_add]; exact h.cell j v hv
theorem Blk.sub (h : Blk w b vs t) (o : Nat) (xs : List Value) (hx : ∀ j, j < xs.length → vs[o + j]? = xs[j]?) : w.rangeAt b o xs := fun j v hv => by
  have hj := (List.getElem?_eq_some_iff.1 hv).1
  exact h.cell (o + j) v (by rw [hx j hj, hv])
theorem Blk.there (h : Blk w b vs t) (o n : Nat) (hn : o + n ≤ vs.length) : w.there b o n := fun j hj =>
  ⟨by rw [h.cell (o + j) _ (List.getElem?_eq_getElem (by omega))]; rfl, h.frozen _⟩
end
theorem size_setCell (w : World) (a : Addr) (v : Value) : (w.setCell a v).heap.size = w.heap.size := by simp [World.setCell]
theorem i64_in (x : Int) (h1 : -9223372036854775808 ≤ x) (h2 : x ≤ 9223372036854775807) : IntKind.i64.wrap x = x := IntWalk.i64_in x ⟨h1, h2⟩
theorem getD_at {α : Type} (l : List α) (i : Nat) (d : α) (h : i < l.length) : l[i]? = some (l.getD i d) := by
  simp [List.getElem?_eq_getElem h]
/-- A row that is filled from its head. -/
theorem fill_at (xs : List Value) (k n : Nat) (z : Value) (hx : xs.length = k) (h : k < n) : (xs ++ List.replicate (n - k) z)[k]? = some z := by
  rw [List.getElem?_append_right (by omega), hx, Nat.sub_self, List.getElem?_replicate, if_pos (by omega)]
theorem fill_set (xs : List Value) (k n : Nat) (z v : Value) (hx : xs.length = k) (h : k < n) : (xs ++ List.replicate (n - k) z).set k v = (xs ++ [v]) ++ List.replicate (n - (k + 1)) z := by
  rw [show n - k = (n - (k + 1)) + 1 by omega, List.replicate_succ, List.set_append_right _ _ (by omega), hx, Nat.sub_self, List.set_cons_zero, List.append_assoc]
  rfl
/-- A whole variable is written. -/
theorem set_all : ∀ (vs us : List Value) (o : Nat) (w : World) (b : Nat) (t : TypeId), Blk w b us t → o + vs.length ≤ us.length → Blk (w.setCells b o vs) b (us.take o ++ vs ++ us.drop (o + vs.length)) t := by
  intro vs
  induction vs with
  | nil => intro us o w b t h hl; rw [World.setCells]; simpa using h
  | cons v r ih =>
    intro us o w b t h hl
    simp only [List.length_cons] at hl
    rw [World.setCells]
    have h1 := ih _ (o + 1) _ b t (h.set o v) (by simp; omega)
    have e : (us.set o v).take (o + 1) ++ r ++ (us.set o v).drop (o + 1 + r.length) = us.take o ++ (v :: r) ++ us.drop (o + (v :: r).length) := by
      rw [List.take_succ_eq_append_getElem (by simp; omega), List.getElem_set_self, List.take_set_of_le (Nat.le_refl _), List.drop_set_of_lt (by omega), List.length_cons]
      simp only [List.append_assoc, List.singleton_append]
      rw [show o + 1 + r.length = o + (r.length + 1) by omega]
    rwa [e] at h1
theorem Blk.whole {w : World} {b : Nat} {us : List Value} {t : TypeId} (h : Blk w b us t) (vs : List Value) (hl : vs.length = us.length) : Blk (w.setCells b 0 vs) b vs t := by
  have := set_all vs us 0 w b t h (by omega)
  simpa [hl] using this
theorem Blk.outside {b : Nat} {us : List Value} {t : TypeId} (vs : List Value) : ∀ (c o : Nat) (w : World), Blk w b us t → b ≠ c → Blk (w.setCells c o vs) b us t := by
  induction vs with
  | nil => intro c o w h _; exact h
  | cons v r ih => intro c o w h hn; rw [World.setCells]; exact ih c _ _ (h.other ⟨c, o, none⟩ v hn) hn
theorem words_cells (l : List H.W) : ∀ u ∈ l.map wv, u.oneCell' = true := by
  intro u hu
  obtain ⟨c, _, rfl⟩ := List.mem_map.1 hu
  rfl
theorem drewN_below {B : Nat} {w w' : World} (h : Below B w w') (n : Nat) : Below B w (w'.drewN n) := ⟨h.os, h.tape, h.output, h.size, h.block⟩
end Go.Proofs.YtjdidnonfmdfmaaDoor
end

