import Derived.Deep.QuietTactic
import Derived.Lib.ConvBytes
import Derived.BigQuiet
import Derived.ArgAppend
import Derived.Test.YtkgddcemocfgfaaGreatDoorJZWireG0
import Derived.Test.YtkgddcemocfgfaaGreatDoorJZWireMathE

section
/- The contract of wire.Bytes. -/

namespace Go.Proofs.YtkgddcemocfgfaaGreatDoor
open Go.RowKit
set_option linter.unusedVariables false

/-- A new row that holds these bytes; nothing that was there has changed. -/
def Makes (l : List UInt8) (w : World) (e : Ending) (w' : World) : Prop := ∃ v, e = .returned v ∧ w'.ownsRow w.heap.size 5 1 v l.length (l.map bv) ∧ Below w.heap.size w w'

end Go.Proofs.YtkgddcemocfgfaaGreatDoor
end

section
/- Words: what a call leaves; a slice that reads. -/





namespace Go.Proofs.YtkgddcemocfgfaaGreatDoor
open Go.RowKit
set_option linter.unusedVariables false

theorem below_drewN {B : Nat} {a w : World} (h : Below B a w) (n : Nat) : Below B a (w.drewN n) := ⟨h.os, h.tape, h.output, h.size, h.block⟩
/-- It says b, and nothing that was there has changed. -/
def Tells (b : Bool) (w : World) (e : Ending) (w' : World) : Prop := e = .returned (.bool b) ∧ Below w.heap.size w w'

theorem cell_one (w : World) (x : Value) (t : TypeId) : ∀ (j : Nat) (u : Value), [x][j]? = some u → (w.alloc (.cells #[x] t)).cell? ((⟨w.heap.size, 0, none⟩ : Addr).add j) = some u := by
 intro j u hu
 match j, hu with
 | 0, hu => simp at hu; subst hu; simp [Addr.add]

theorem rd_new (w : World) (xs : List Value) (t : TypeId) : Rd (w.alloc (.cells xs.toArray t)) (w.alloc (.cells xs.toArray t)).heap.size (some ⟨w.heap.size, 0, none⟩) xs := fun _ =>
 ⟨w.heap.size, 0, rfl, by simp, fun j u hu => by
  rw [cell_of_row _ _ _ _ _ _ (heap_alloc_new w _)]
  simpa using hu⟩
theorem own_rd {w : World} {B base n size : Nat} {e : TypeId} {v : Value} {xs : List Value} (h : w.ownsRow base e size v n xs) :
  ∃ A c, v = .slice A n c ∧ Rd w w.heap.size A xs ∧ n ≤ c ∧ c ≤ maxLen := by
 have h' := h
 rcases h'.2 with ⟨rfl, rfl⟩ | ⟨g, cap, cur, rfl, hb, hg, hnc, hm, hs, ht⟩
 ·exact ⟨none, 0, rfl, Rd.of_own h, Nat.le_refl _, by decide⟩
 ·exact ⟨_, cap, rfl, Rd.of_own h, hnc, hm⟩

/-- The bytes of a string in a new row. -/
theorem conv_str (W : World) (s : ByteArray) : ∃ W' c, (convert 9 35 (.string s)).run Tryz.prog W = .ok (.slice (some ⟨W.heap.size, 0, none⟩) s.size c) W' ∧
  (∀ (j : Nat) (u : Value), ((sb s).map bv)[j]? = some u → W'.cell? ((⟨W.heap.size, 0, none⟩ : Addr).add j) = some u) ∧ Below W.heap.size W W' := by
 refine ⟨Lib.bytesWorld W 5 s, _, Lib.run_convert_string_bytes W _ _ 5 s Tryz.underlying9 Tryz.underlying35 Tryz.underlying5, fun j u hu => ?_, ?_⟩
 ·have hj := (List.getElem?_eq_some_iff.1 hu).1
  rw [List.length_map, sb_len] at hj
  rw [Addr.add_mid, Nat.zero_add, Lib.bytesWorld_cell W _ s j hj, ← hu, List.getElem?_map]
  have h2 : j < s.data.toList.length := by rw [Array.length_toList]; exact hj
  simp only [sb, List.getD_eq_getElem?_getD, List.getElem?_eq_getElem h2, Option.map_some, Option.getD_some]
  rfl
 ·refine ⟨?_, ?_, ?_, by rw [Lib.bytesWorld_size]; omega, fun k hk => Lib.bytesWorld_at_old W _ s k hk⟩
  all_goals rfl

end Go.Proofs.YtkgddcemocfgfaaGreatDoor
end

section
/- The contract of wire.Ints. -/


namespace Go.Proofs.YtkgddcemocfgfaaGreatDoor
open Go.RowKit
set_option linter.unusedVariables false

end Go.Proofs.YtkgddcemocfgfaaGreatDoor
end

section
/- The contract of wire.Strings. -/


namespace Go.Proofs.YtkgddcemocfgfaaGreatDoor
open Go.RowKit
set_option linter.unusedVariables false

def encS (s : ByteArray) : List UInt8 := M.encB (sb s)
theorem encB_pos (l : List UInt8) : 1 ≤ (M.encB l).length := by
 unfold M.encB; rw [List.length_append]; have := M.encI_pos l.length; omega
theorem encB_ge (l : List UInt8) : l.length ≤ (M.encB l).length := by
 unfold M.encB; rw [List.length_append]; omega
end Go.Proofs.YtkgddcemocfgfaaGreatDoor
end

section
/- Appends of ints onto a slice of the call's own. -/



namespace Go.Proofs.YtkgddcemocfgfaaGreatDoor
open Go.RowKit
set_option linter.unusedVariables false
set_option maxRecDepth 100000

theorem info_i64 : (Tryz.prog.info? 3).map (fun i => (i.zero, i.size, i.bytes)) = some (some (.int .i64 0), 1, 8) := by kernel_rfl
end Go.Proofs.YtkgddcemocfgfaaGreatDoor
end

section
/- The contract of dioramaref01.Short at any bound. -/

namespace Go.Proofs.YtkgddcemocfgfaaGreatDoor
open Go.RowKit
set_option linter.unusedVariables false
set_option maxRecDepth 100000

def shortAt (n : Nat) (s : ByteArray) : ByteArray := if s.size > n then s.extract 0 n else s
theorem shortAt_size (n : Nat) (s : ByteArray) : (shortAt n s).size ≤ n := by
 unfold shortAt
 split
 ·simp; omega
 ·omega
theorem shortAt_any (n : Nat) (s : ByteArray) (w : World) (hn : n ≤ 1000000) : Calls Tryz.prog 25 #[.string s, .int .i64 n] w fun e w' => e = .returned (.string (shortAt n s)) ∧ w' = w := by
 have h0 : (0 : Int) ≤ n := by omega
 unfold shortAt
 by_cases h : s.size > n
 ·rw [if_pos h]
  have h1 : (n : Int) < s.size := by omega
  have h2 : (n : Int) ≤ s.size := by omega
  go_enter Tryz.func25, Tryz.ntmps25
  go_wp2_with fail
  go_ret
  exact ⟨rfl, rfl⟩
 ·rw [if_neg h]
  have h1 : ¬ (n : Int) < s.size := by omega
  go_enter Tryz.func25, Tryz.ntmps25
  go_wp2_with fail
  go_ret
  exact ⟨rfl, rfl⟩
end Go.Proofs.YtkgddcemocfgfaaGreatDoor
end

