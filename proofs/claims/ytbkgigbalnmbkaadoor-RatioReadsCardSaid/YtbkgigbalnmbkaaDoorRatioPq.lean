/- Fractions in memory. -/
import Derived.Test.YtbkgigbalnmbkaaDoorRatioPp
import Derived.Test.YtbkgigbalnmbkaaDoorRatioPm
namespace Go.Proofs.YtbkgigbalnmbkaaDoor
open Go.RowKit
set_option linter.unusedVariables false
set_option maxRecDepth 100000

/-- The named blocks hold these fractions. -/
def Rats (W : World) (L : List (Nat × Int × Int)) : Prop := ∀ e ∈ L, Blk W e.1 (Rc e.2.1 e.2.2) 23
theorem Rats.step {W w' : World} {L : List (Nat × Int × Int)} (h : Rats W L) (hb : Below W.heap.size W w') : Rats w' L := fun e he => (h e he).below hb (h e he).lt
theorem Rats.new {W : World} {L : List (Nat × Int × Int)} (h : Rats W L) (x y : Int) : Rats (W.alloc (.cells (Rc x y).toArray 23)) ((W.heap.size, x, y) :: L) := fun e he => by
  rcases List.mem_cons.1 he with rfl | he
  · exact Blk.new W (Rc x y) _
  · exact (h e he).alloc _
theorem Rats.get {W : World} {L : List (Nat × Int × Int)} (h : Rats W L) {b : Nat} {x y : Int} (hm : (b, x, y) ∈ L) : ((W.cell? ⟨b, 0, none⟩ = some (.int .i64 x) ∧ W.cell? ⟨b, 1, none⟩ = some (.int .i64 y)) ∧ b < W.heap.size) :=
  ⟨(Rc_facts (h _ hm)).1, (h _ hm).lt⟩
theorem Rats.tail {W : World} {e : Nat × Int × Int} {L : List (Nat × Int × Int)} (h : Rats W (e :: L)) : Rats W L := fun x hx => h x (.tail _ hx)
theorem Rats.three (w : World) (a a' b b' c c' : Int) : Rats (((w.alloc (.cells (Rc a a').toArray 23)).alloc (.cells (Rc b b').toArray 23)).alloc (.cells (Rc c c').toArray 23)) [(w.heap.size, a, a'), (w.heap.size + 1, b, b'), (w.heap.size + 2, c, c')] := fun e he => by
  obtain ⟨h1, h2, h3, -⟩ := three_new w (Rc a a') (Rc b b') (Rc c c') 23 23 23
  simp only [List.mem_cons, List.not_mem_nil, or_false] at he
  rcases he with rfl | rfl | rfl
  · exact h1
  · exact h2
  · exact h3
theorem below_three {w w1 : World} (hb : Below w.heap.size w w1) (a a' b b' c c' : Int) : Below w.heap.size w (((w1.alloc (.cells (Rc a a').toArray 23)).alloc (.cells (Rc b b').toArray 23)).alloc (.cells (Rc c c').toArray 23)) :=
  hb.trans ((three_new w1 (Rc a a') (Rc b b') (Rc c c') 23 23 23).2.2.2.mono hb.size)

/-- What is answered is valid, the zero value beside an error too. -/
theorem ok_box {r : Rat} {x y e : Int} (h : Rt.box r = (x, y, e)) : Rt.Ok x y := by
  rcases Rt.box_ends r with ⟨P, Q, h1, h2, -, -⟩ | h1
  · rw [h1] at h
    simp only [Prod.mk.injEq] at h
    obtain ⟨rfl, rfl, -⟩ := h
    exact h2
  · rw [h1] at h
    simp only [Prod.mk.injEq] at h
    obtain ⟨rfl, rfl, -⟩ := h
    exact Or.inl ⟨rfl, rfl⟩
theorem ok_add {a a' b b' x y e : Int} (h : Rt.Ok a a') (k : Rt.Ok b b') (hh : Rt.add3 a a' b b' = (x, y, e)) : Rt.Ok x y := ok_box ((Rt.add3_ok h k).symm.trans hh)
theorem ok_mul {a a' b b' x y e : Int} (h : Rt.Ok a a') (k : Rt.Ok b b') (hh : Rt.mul3 a a' b b' = (x, y, e)) : Rt.Ok x y := ok_box ((Rt.mul3_ok h k).symm.trans hh)

/-! The calls at valid fractions. -/
section
variable {a a' b b' : Int}
theorem add_ok (h : Rt.Ok a a') (k : Rt.Ok b b') (W : World) : Calls Tryd.prog 24 #[Rv a a', Rv b b'] W (Says (T3 (Rt.add3 a a' b b')) W) := add_any _ _ _ _ W (Ok_in h).1 (Ok_in h).2 (Ok_in k).1 (Ok_in k).2
theorem sub_ok (h : Rt.Ok a a') (k : Rt.Ok b b') (W : World) : Calls Tryd.prog 26 #[Rv a a', Rv b b'] W (Says (T3 (Rt.sub3 a a' b b')) W) := sub_any _ _ _ _ W (Ok_in h).1 (Ok_in h).2 (Ok_in k).1 (Ok_in k).2
theorem mul_ok (h : Rt.Ok a a') (k : Rt.Ok b b') (W : World) : Calls Tryd.prog 25 #[Rv a a', Rv b b'] W (Says (T3 (Rt.mul3 a a' b b')) W) := mul_any _ _ _ _ W (Ok_in h).1 (Ok_in h).2 (Ok_in k).1 (Ok_in k).2
theorem cmp_ok (h : Rt.Ok a a') (k : Rt.Ok b b') (W : World) : Calls Tryd.prog 27 #[Rv a a', Rv b b'] W (Says (.int .i64 (Rt.cmp3 a a' b b')) W) := compare_any _ _ _ _ W (Ok_in h).1 (Ok_in h).2 (Ok_in k).1 (Ok_in k).2
theorem flo_ok (h : Rt.Ok a a') (W : World) : Calls Tryd.prog 28 #[Rv a a'] W (Says (.int .i64 (Rt.flo a a')) W) := floor_any _ _ W (Ok_in h).1 (Ok_in h).2
end
end Go.Proofs.YtbkgigbalnmbkaaDoor
