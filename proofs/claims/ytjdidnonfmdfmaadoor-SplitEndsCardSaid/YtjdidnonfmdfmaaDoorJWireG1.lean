import Derived.Laws.BytesArg
import Derived.Deep.QuietTactic
import Derived.Lib.ConvBytes
import Derived.BigQuiet
import Derived.Test.YtjdidnonfmdfmaaDoorJWireW

section
/- The contract of wire.Bytes. -/

namespace Go.Proofs.YtjdidnonfmdfmaaDoor
open Go.RowKit
set_option linter.unusedVariables false

/-- A new row that holds these bytes; nothing that was there has changed. -/
def Makes (l : List UInt8) (w : World) (e : Ending) (w' : World) : Prop := ∃ v, e = .returned v ∧ w'.ownsRow w.heap.size 5 1 v l.length (l.map bv) ∧ Below w.heap.size w w'

set_option maxHeartbeats 1000000 in
theorem bytes_any (s : ByteArray) (w : World) (hs : s.size ≤ 1000000000) : Calls Tryd.prog 58 #[.string s] w (Makes (M.encB (sb s)) w) := by
  obtain ⟨i0, hi, hz0, hz1, hz2⟩ := info_parts info_u8
  have hI := M.I64_nat s.size (by omega)
  have hlen := M.encI_len_le s.size hI
  have hf : M.encB (sb s) = M.encI s.size ++ sb s := by unfold M.encB; rw [sb_len]
  have hl := sb_len s
  have Hf := Lib.hid hf
  have Hl := Lib.hid hl
  clear hf hl
  go_enter Tryd.func58, Tryd.ntmps58
  go_wp2_with fail
  refine (int_any s.size _ hI).mono ?_
  rintro e w' ⟨v, rfl, hown, hbel⟩
  have hB := hbel.size
  have hmx : (M.encI s.size).length + s.size ≤ maxLen := by unfold maxLen; omega
  go_wp2_with (at_builtin; refine Lib.wpList_append_own_string _ rfl (.tmp 5) (.tmp 6) 52 9 rfl w.heap.size 5 i0 Tryd.underlying52 Tryd.underlying9 hi hz0 hz1 hz2 _ _ _ rfl hown s rfl hmx (by omega) hB ?_; intro v' w1 hown' hgrow _)
  go_ret
  refine ⟨v', rfl, ?_, hbel.grown hgrow hB (fun k hk => (hown.lt k hk).1)⟩
  rw [Hf.out, List.length_append, Hl.out, List.map_append]
  exact hown'

end Go.Proofs.YtjdidnonfmdfmaaDoor
end

section
/- The conversion of a []byte to a string. -/


namespace Go.Proofs.YtjdidnonfmdfmaaDoor
open Go.RowKit
set_option linter.unusedVariables false

def bs (l : List UInt8) : ByteArray := ⟨l.toArray⟩
theorem sb_bs (l : List UInt8) : sb (bs l) = l := by simp [sb, bs]
theorem bs_sb (s : ByteArray) : bs (sb s) = s := by cases s; simp [sb, bs]
theorem strOf (l : List UInt8) : strOfNums (l.map fun c => (c.toNat : Int)) = bs l := by
  unfold strOfNums bs
  congr 1
  apply congrArg
  rw [List.map_map]
  conv => rhs; rw [← List.map_id l]
  apply List.map_congr_left
  intro c _
  simp

theorem conv_bytes (w : World) (B : Nat) (A : Option Addr) (l : List UInt8) (c : Nat) (hr : RdB w B A l) :
    (convert 52 9 (.slice A l.length c)).run Tryd.prog w = .ok (.string (bs l)) w := by
  cases hl : l with
  | nil =>
    cases A with
    | none => exact run_convert_bytes_nil w _ _ Tryd.underlying52 Tryd.underlying5 _ _ _ Tryd.underlying9
    | some ad =>
      rw [run_convert_bytes_string w _ _ _ _ _ _ Tryd.underlying52 Tryd.underlying5 Tryd.underlying9]
      exact run_bytesToString w ad 0 c [] (run_loadCells_list (P := Tryd.prog) w ad [] (fun j v hj => by simp at hj))
  | cons a t =>
    obtain ⟨b, off, rfl, hb, hcell⟩ := hr (by rw [hl]; simp)
    rw [← hl, ← strOf l]
    refine run_convert_bytes_arg w _ _ Tryd.underlying52 Tryd.underlying5 b off l.length c (l.map fun c => (c.toNat : Int)) (by simp) (fun i hi => ?_) _ Tryd.underlying9
    refine hcell i _ ?_
    simp [hi, bv]

end Go.Proofs.YtjdidnonfmdfmaaDoor
end

section
/- Words: what a call leaves; a slice that reads. -/





namespace Go.Proofs.YtjdidnonfmdfmaaDoor
open Go.RowKit
set_option linter.unusedVariables false

theorem below_drewN {B : Nat} {a w : World} (h : Below B a w) (n : Nat) : Below B a (w.drewN n) := ⟨h.os, h.tape, h.output, h.size, h.block⟩
/-- It says b, and nothing that was there has changed. -/
def Tells (b : Bool) (w : World) (e : Ending) (w' : World) : Prop := e = .returned (.bool b) ∧ Below w.heap.size w w'

theorem cell_one (w : World) (x : Value) (t : TypeId) : ∀ (j : Nat) (u : Value), [x][j]? = some u → (w.alloc (.cells #[x] t)).cell? ((⟨w.heap.size, 0, none⟩ : Addr).add j) = some u := by
  intro j u hu
  match j, hu with
  | 0, hu => simp at hu; subst hu; simp [Addr.add]

theorem rd_new (w : World) (xs : List Value) (t : TypeId) : Rd (w.alloc (.cells xs.toArray t)) (w.alloc (.cells xs.toArray t)).heap.size (some ⟨w.heap.size, 0, none⟩) xs := fun _ =>
  ⟨w.heap.size, 0, rfl, by simp, fun j u hu => by
    rw [cell_of_row _ _ _ _ _ _ (heap_alloc_new w _)]
    simpa using hu⟩
theorem behind0 {w w' : World} {B : Nat} (h : Below B w w') (hB : w.heap.size ≤ B) : Below w.heap.size w w' := h.mono hB
theorem behind1 {w w' : World} {B : Nat} {o : Obj} (h : Below B (w.alloc o) w') (hB : w.heap.size ≤ B) : Below w.heap.size w w' := ((Below.refl _ _).alloc (Nat.le_refl _) o).trans (h.mono hB)
theorem own_rd {w : World} {B base n size : Nat} {e : TypeId} {v : Value} {xs : List Value} (h : w.ownsRow base e size v n xs) :
    ∃ A c, v = .slice A n c ∧ Rd w w.heap.size A xs ∧ n ≤ c ∧ c ≤ maxLen := by
  have h' := h
  rcases h'.2 with ⟨rfl, rfl⟩ | ⟨g, cap, cur, rfl, hb, hg, hnc, hm, hs, ht⟩
  · exact ⟨none, 0, rfl, Rd.of_own h, Nat.le_refl _, by decide⟩
  · exact ⟨_, cap, rfl, Rd.of_own h, hnc, hm⟩

/-- Bytes in memory. -/
def Gives (l : List UInt8) (W : World) (e : Ending) (w' : World) : Prop :=
  ∃ A c, e = .returned (.slice A l.length c) ∧ RdB w' w'.heap.size A l ∧ l.length ≤ c ∧ c ≤ maxLen ∧ Below W.heap.size W w'
theorem makes_gives {l : List UInt8} {W : World} {e : Ending} {w' : World} (h : Makes l W e w') : Gives l W e w' := by
  obtain ⟨v, h1, h2, h3⟩ := h
  obtain ⟨A, c, rfl, h4, h5, h6⟩ := own_rd (B := 0) h2
  exact ⟨A, c, h1, h4, h5, h6, h3⟩
theorem gives_behind {l : List UInt8} {W : World} {o : Obj} {e : Ending} {w' : World} (h : Gives l (W.alloc o) e w') : Gives l W e w' := by
  obtain ⟨A, c, h1, h2, h3, h4, h5⟩ := h
  exact ⟨A, c, h1, h2, h3, h4, behind1 h5 (by simp)⟩
/-- The bytes of a string in a new row. -/
theorem conv_str (W : World) (s : ByteArray) : ∃ W' c, (convert 9 52 (.string s)).run Tryd.prog W = .ok (.slice (some ⟨W.heap.size, 0, none⟩) s.size c) W' ∧
    (∀ (j : Nat) (u : Value), ((sb s).map bv)[j]? = some u → W'.cell? ((⟨W.heap.size, 0, none⟩ : Addr).add j) = some u) ∧ Below W.heap.size W W' := by
  refine ⟨Lib.bytesWorld W 5 s, _, Lib.run_convert_string_bytes W _ _ 5 s Tryd.underlying9 Tryd.underlying52 Tryd.underlying5, fun j u hu => ?_, ?_⟩
  · have hj := (List.getElem?_eq_some_iff.1 hu).1
    rw [List.length_map, sb_len] at hj
    rw [Addr.add_mid, Nat.zero_add, Lib.bytesWorld_cell W _ s j hj, ← hu, List.getElem?_map]
    have h2 : j < s.data.toList.length := by rw [Array.length_toList]; exact hj
    simp only [sb, List.getD_eq_getElem?_getD, List.getElem?_eq_getElem h2, Option.map_some, Option.getD_some]
    rfl
  · refine ⟨?_, ?_, ?_, by rw [Lib.bytesWorld_size]; omega, fun k hk => Lib.bytesWorld_at_old W _ s k hk⟩
    all_goals rfl

end Go.Proofs.YtjdidnonfmdfmaaDoor
end

