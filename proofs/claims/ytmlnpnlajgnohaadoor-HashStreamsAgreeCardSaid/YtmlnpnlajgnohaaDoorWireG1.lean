/- Words: what a call leaves; a slice that reads. -/
import Derived.Test.YtmlnpnlajgnohaaDoorWireD0
import Derived.Test.YtmlnpnlajgnohaaDoorWireG0
import Derived.Deep.QuietTactic
import Derived.Lib.ConvBytes
import Derived.BigQuiet
namespace Go.Proofs.YtmlnpnlajgnohaaDoor
open Go.RowKit
set_option linter.unusedVariables false

theorem below_drewN {B : Nat} {a w : World} (h : Below B a w) (n : Nat) : Below B a (w.drewN n) := ⟨h.os, h.tape, h.output, h.size, h.block⟩
/-- It says b, and nothing that was there has changed. -/
def Tells (b : Bool) (w : World) (e : Ending) (w' : World) : Prop := e = .returned (.bool b) ∧ Below w.heap.size w w'

theorem cell_one (w : World) (x : Value) (t : TypeId) : ∀ (j : Nat) (u : Value), [x][j]? = some u → (w.alloc (.cells #[x] t)).cell? ((⟨w.heap.size, 0, none⟩ : Addr).add j) = some u := by
  intro j u hu
  match j, hu with
  | 0, hu => simp at hu; subst hu; simp [Addr.add]

theorem rd_new (w : World) (xs : List Value) (t : TypeId) : Rd (w.alloc (.cells xs.toArray t)) (w.alloc (.cells xs.toArray t)).heap.size (some ⟨w.heap.size, 0, none⟩) xs := fun _ =>
  ⟨w.heap.size, 0, rfl, by simp, fun j u hu => by
    rw [cell_of_row _ _ _ _ _ _ (heap_alloc_new w _)]
    simpa using hu⟩
theorem behind0 {w w' : World} {B : Nat} (h : Below B w w') (hB : w.heap.size ≤ B) : Below w.heap.size w w' := h.mono hB
theorem behind1 {w w' : World} {B : Nat} {o : Obj} (h : Below B (w.alloc o) w') (hB : w.heap.size ≤ B) : Below w.heap.size w w' := ((Below.refl _ _).alloc (Nat.le_refl _) o).trans (h.mono hB)
theorem own_rd {w : World} {B base n size : Nat} {e : TypeId} {v : Value} {xs : List Value} (h : w.ownsRow base e size v n xs) :
    ∃ A c, v = .slice A n c ∧ Rd w w.heap.size A xs ∧ n ≤ c ∧ c ≤ maxLen := by
  have h' := h
  rcases h'.2 with ⟨rfl, rfl⟩ | ⟨g, cap, cur, rfl, hb, hg, hnc, hm, hs, ht⟩
  · exact ⟨none, 0, rfl, Rd.of_own h, Nat.le_refl _, by decide⟩
  · exact ⟨_, cap, rfl, Rd.of_own h, hnc, hm⟩

/-- Bytes in memory. -/
def Gives (l : List UInt8) (W : World) (e : Ending) (w' : World) : Prop :=
  ∃ A c, e = .returned (.slice A l.length c) ∧ RdB w' w'.heap.size A l ∧ l.length ≤ c ∧ c ≤ maxLen ∧ Below W.heap.size W w'
theorem makes_gives {l : List UInt8} {W : World} {e : Ending} {w' : World} (h : Makes l W e w') : Gives l W e w' := by
  obtain ⟨v, h1, h2, h3⟩ := h
  obtain ⟨A, c, rfl, h4, h5, h6⟩ := own_rd (B := 0) h2
  exact ⟨A, c, h1, h4, h5, h6, h3⟩
theorem gives_behind {l : List UInt8} {W : World} {o : Obj} {e : Ending} {w' : World} (h : Gives l (W.alloc o) e w') : Gives l W e w' := by
  obtain ⟨A, c, h1, h2, h3, h4, h5⟩ := h
  exact ⟨A, c, h1, h2, h3, h4, behind1 h5 (by simp)⟩
/-- The bytes of a string in a new row. -/
theorem conv_str (W : World) (s : ByteArray) : ∃ W' c, (convert 9 22 (.string s)).run Tryd.prog W = .ok (.slice (some ⟨W.heap.size, 0, none⟩) s.size c) W' ∧
    (∀ (j : Nat) (u : Value), ((sb s).map bv)[j]? = some u → W'.cell? ((⟨W.heap.size, 0, none⟩ : Addr).add j) = some u) ∧ Below W.heap.size W W' := by
  refine ⟨Lib.bytesWorld W 5 s, _, Lib.run_convert_string_bytes W _ _ 5 s Tryd.underlying9 Tryd.underlying22 Tryd.underlying5, fun j u hu => ?_, ?_⟩
  · have hj := (List.getElem?_eq_some_iff.1 hu).1
    rw [List.length_map, sb_len] at hj
    rw [Addr.add_mid, Nat.zero_add, Lib.bytesWorld_cell W _ s j hj, ← hu, List.getElem?_map]
    have h2 : j < s.data.toList.length := by rw [Array.length_toList]; exact hj
    simp only [sb, List.getD_eq_getElem?_getD, List.getElem?_eq_getElem h2, Option.map_some, Option.getD_some]
    rfl
  · refine ⟨?_, ?_, ?_, by rw [Lib.bytesWorld_size]; omega, fun k hk => Lib.bytesWorld_at_old W _ s k hk⟩
    all_goals rfl

end Go.Proofs.YtmlnpnlajgnohaaDoor
