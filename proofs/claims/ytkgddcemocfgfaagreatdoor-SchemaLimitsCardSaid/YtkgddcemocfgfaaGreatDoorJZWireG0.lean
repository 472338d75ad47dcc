import Derived.Test.YtkgddcemocfgfaaGreatDoorProg
import Derived.WalkKit
import Derived.Lib.Hide
import Derived.Outline
import Derived.Lib.Strings
import Derived.Lib.Slices
import Derived.Lib.Small
import Derived.Lib.Walk
import Derived.Deep.Light
import Derived.WalkSpells
import Derived.Deep.LoopGhost
import Derived.Deep.DeepCutAuto
import Derived.Lib.AppendStr
import Derived.Deep.MidRow
import Derived.Laws.BytesArg
import Derived.Test.YtkgddcemocfgfaaGreatDoorJZWireMathE

section
/- The contract of wire.magnitude: what it returns; the world is as it was. -/










namespace Go.Proofs.YtkgddcemocfgfaaGreatDoor
open Go.RowKit

end Go.Proofs.YtkgddcemocfgfaaGreatDoor
end

section
/- The contract of wire.Int: it returns a new row that holds the encoding; nothing that was there has changed. -/



namespace Go.Proofs.YtkgddcemocfgfaaGreatDoor
open Go.RowKit
set_option linter.unusedVariables false

def bv (c : UInt8) : Value := .int .u8 (c.toNat : Int)
theorem info_u8 : (Tryz.prog.info? 5).map (fun i => (i.zero, i.size, i.bytes)) = some (some (.int .u8 0), 1, 1) := by kernel_rfl

theorem one_cells (l : List UInt8) : ∀ u ∈ l.map bv, u.oneCell' = true := by
 intro u hu
 obtain ⟨c, _, rfl⟩ := List.mem_map.1 hu
 rfl
def IntPost (n : Int) (w : World) (e : Ending) (w' : World) : Prop := ∃ v, e = .returned v ∧ w'.ownsRow w.heap.size 5 1 v (M.encI n).length ((M.encI n).map bv) ∧ Below w.heap.size w w'

end Go.Proofs.YtkgddcemocfgfaaGreatDoor
end

section
/- Words: a slice that reads as a list of cells; a cut of it; what is kept. -/




namespace Go.Proofs.YtkgddcemocfgfaaGreatDoor
open Go.RowKit
set_option linter.unusedVariables false

/-- The slice's head leads, below block B, to a row of cells that begins with xs. -/
def Rd (w : World) (B : Nat) (A : Option Addr) (xs : List Value) : Prop :=
 0 < xs.length → ∃ b off, A = some ⟨b, off, none⟩ ∧ b < B ∧ ∀ (j : Nat) (u : Value), xs[j]? = some u → w.cell? ⟨b, off + j, none⟩ = some u

def cutA (A : Option Addr) (lo cap : Nat) : Option Addr := if cap = lo then A else A.map (·.add lo)

section
variable {w w' : World} {B B' : Nat} {A : Option Addr} {xs : List Value}
theorem Rd.nil : Rd w B A [] := fun h => absurd h (by simp)
theorem Rd.keep (h : Rd w B A xs) (hk : ∀ p : Addr, p.block < B → w'.cell? p = w.cell? p) : Rd w' B A xs := fun hn => by
 obtain ⟨b, off, e, hb, hc⟩ := h hn
 exact ⟨b, off, e, hb, fun j u hu => (hk _ hb).trans (hc j u hu)⟩
theorem Rd.more (h : Rd w B A xs) (hB : B ≤ B') : Rd w B' A xs := fun hn => by
 obtain ⟨b, off, e, hb, hc⟩ := h hn
 exact ⟨b, off, e, Nat.lt_of_lt_of_le hb hB, hc⟩
theorem Rd.below (h : Rd w B A xs) (hb : Below B w w') : Rd w' B A xs := h.keep fun _ hp => hb.cell hp
theorem Rd.alloc (h : Rd w B A xs) (hB : B ≤ w.heap.size) (o : Obj) : Rd (w.alloc o) B A xs := h.keep fun p hp => World.cell?_alloc_lt w o p (Nat.lt_of_lt_of_le hp hB)
theorem Rd.cut (h : Rd w B A xs) {lo hi cap : Nat} (hh : hi ≤ xs.length) (hc : hi ≤ cap) : Rd w B (cutA A lo cap) ((xs.take hi).drop lo) := fun hn => by
 have hlt : lo < hi := by simp at hn; omega
 obtain ⟨b, off, rfl, hb, hcell⟩ := h (by omega)
 refine ⟨b, off + lo, ?_, hb, fun j u hu => ?_⟩
 ·unfold cutA
  rw [if_neg (by omega)]
  simp [Addr.add]
 ·have h1 : ((xs.take hi).drop lo)[j]? = some u := hu
  rw [List.getElem?_drop] at h1
  have h2 : xs[lo + j]? = some u := by
   rw [List.getElem?_take] at h1
   split at h1
   ·exact h1
   ·cases h1
  have := hcell _ u h2
  rw [show off + lo + j = off + (lo + j) from by omega]
  exact this
theorem Rd.drop (h : Rd w B A xs) {lo cap : Nat} (hc : xs.length ≤ cap) : Rd w B (cutA A lo cap) (xs.drop lo) := by
 have := h.cut (lo := lo) (hi := xs.length) (cap := cap) (Nat.le_refl _) hc
 rwa [List.take_length] at this
theorem Rd.of_own {base n size : Nat} {e : TypeId} {c : Nat} (h : w.ownsRow base e size (.slice A n c) n xs) : Rd w w.heap.size A xs := fun hn => by
 rcases h.2 with ⟨hv, h0⟩ | ⟨g, cap, cur, hv, hb, hg, hnc, hm, hs, ht⟩
 ·subst h0
  have h1 := h.1
  rw [Nat.zero_mul] at h1
  omega
 ·injection hv with hA _ _
  subst hA
  refine ⟨g, 0, rfl, (Array.getElem?_eq_some_iff.1 hg).1, fun j u hu => ?_⟩
  rw [cell_of_row w g (0 + j) _ _ _ hg]
  rw [← ht, List.getElem?_take] at hu
  split at hu
  ·rw [Nat.zero_add]; simpa using hu
  ·cases hu
end

/-- A slice value of bytes that reads as l. -/
def RdB (w : World) (B : Nat) (A : Option Addr) (l : List UInt8) : Prop := Rd w B A (l.map bv)

/-- The row of the call's own, not empty: its head, its cells. -/
theorem own_form {w : World} {base n : Nat} {e : TypeId} {v : Value} {xs : List Value} (h : w.ownsRow base e 1 v n xs) (hn : 0 < n) :
  ∃ g cap, v = .slice (some ⟨g, 0, none⟩) n cap ∧ base ≤ g ∧ g < w.heap.size ∧ n ≤ cap ∧ cap ≤ maxLen ∧ ∀ (j : Nat) (u : Value), xs[j]? = some u → w.cell? ((⟨g, 0, none⟩ : Addr).add j) = some u := by
 rcases h.2 with ⟨_, h0⟩ | ⟨g, cap, cur, hv, hb, hg, hnc, hm, hs, ht⟩
 ·omega
 ·refine ⟨g, cap, hv, hb, (Array.getElem?_eq_some_iff.1 hg).1, hnc, hm, fun j u hu => ?_⟩
  have e : (⟨g, 0, none⟩ : Addr).add j = ⟨g, j, none⟩ := by simp [Addr.add]; omega
  rw [e, cell_of_row w g j _ _ _ hg]
  rw [← ht, List.getElem?_take] at hu
  split at hu
  ·simpa using hu
  ·cases hu
theorem own_below {w w' : World} {B base n size : Nat} {e : TypeId} {v : Value} {xs : List Value} (h : w.ownsRow base e size v n xs) (hb : Below B w w') (hB : w.heap.size ≤ B) : w'.ownsRow base e size v n xs :=
 h.kept (row := some w'.heap.size) ⟨hb.os, hb.tape, hb.output, hb.size, fun k hk _ => hb.block k (by omega)⟩ (by
  rcases hv : v.ownBlock with _ | k
  ·exact .inl rfl
  ·right
   have := (h.lt k hv).2
   intro e
   injection e with e
   have := hb.size
   omega)
theorem own_len {w : World} {base n size : Nat} {e : TypeId} {v : Value} {xs : List Value} (h : w.ownsRow base e size v n xs) : xs.length = n * size := h.1

def iv (n : Int) : Value := .int .i64 n
def sv (s : ByteArray) : Value := .string s
def sb (s : ByteArray) : List UInt8 := s.data.toList
theorem sb_len (s : ByteArray) : (sb s).length = s.size := by simp [sb]
end Go.Proofs.YtkgddcemocfgfaaGreatDoor
end

section
/- The conversion of a []byte to a string. -/


namespace Go.Proofs.YtkgddcemocfgfaaGreatDoor
open Go.RowKit
set_option linter.unusedVariables false

def bs (l : List UInt8) : ByteArray := ⟨l.toArray⟩
theorem bs_sb (s : ByteArray) : bs (sb s) = s := by cases s; simp [sb, bs]
theorem strOf (l : List UInt8) : strOfNums (l.map fun c => (c.toNat : Int)) = bs l := by
 unfold strOfNums bs
 congr 1
 apply congrArg
 rw [List.map_map]
 conv => rhs; rw [← List.map_id l]
 apply List.map_congr_left
 intro c _
 simp

theorem conv_bytes (w : World) (B : Nat) (A : Option Addr) (l : List UInt8) (c : Nat) (hr : RdB w B A l) :
  (convert 35 9 (.slice A l.length c)).run Tryz.prog w = .ok (.string (bs l)) w := by
 cases hl : l with
 | nil =>
  cases A with
  | none => exact run_convert_bytes_nil w _ _ Tryz.underlying35 Tryz.underlying5 _ _ _ Tryz.underlying9
  | some ad =>
   rw [run_convert_bytes_string w _ _ _ _ _ _ Tryz.underlying35 Tryz.underlying5 Tryz.underlying9]
   exact run_bytesToString w ad 0 c [] (run_loadCells_list (P := Tryz.prog) w ad [] (fun j v hj => by simp at hj))
 | cons a t =>
  obtain ⟨b, off, rfl, hb, hcell⟩ := hr (by rw [hl]; simp)
  rw [← hl, ← strOf l]
  refine run_convert_bytes_arg w _ _ Tryz.underlying35 Tryz.underlying5 b off l.length c (l.map fun c => (c.toNat : Int)) (by simp) (fun i hi => ?_) _ Tryz.underlying9
  refine hcell i _ ?_
  simp [hi, bv]

end Go.Proofs.YtkgddcemocfgfaaGreatDoor
end

