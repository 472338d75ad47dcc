import Derived.Deep.DeepCutAuto
import Derived.Lib.AppendStr
import Derived.Deep.MidRow
import Derived.Test.YtjdidnonfmdfmaaDoorJWireB

section
/- Words: a slice that reads as a list of cells; a cut of it; what is kept. -/




namespace Go.Proofs.YtjdidnonfmdfmaaDoor
open Go.RowKit
set_option linter.unusedVariables false

/-- The slice's head leads, below block B, to a row of cells that begins with xs. -/
def Rd (w : World) (B : Nat) (A : Option Addr) (xs : List Value) : Prop :=
  0 < xs.length → ∃ b off, A = some ⟨b, off, none⟩ ∧ b < B ∧ ∀ (j : Nat) (u : Value), xs[j]? = some u → w.cell? ⟨b, off + j, none⟩ = some u

def cutA (A : Option Addr) (lo cap : Nat) : Option Addr := if cap = lo then A else A.map (·.add lo)

section
variable {w w' : World} {B B' : Nat} {A : Option Addr} {xs : List Value}
theorem Rd.nil : Rd w B A [] := fun h => absurd h (by simp)
theorem Rd.keep (h : Rd w B A xs) (hk : ∀ p : Addr, p.block < B → w'.cell? p = w.cell? p) : Rd w' B A xs := fun hn => by
  obtain ⟨b, off, e, hb, hc⟩ := h hn
  exact ⟨b, off, e, hb, fun j u hu => (hk _ hb).trans (hc j u hu)⟩
theorem Rd.more (h : Rd w B A xs) (hB : B ≤ B') : Rd w B' A xs := fun hn => by
  obtain ⟨b, off, e, hb, hc⟩ := h hn
  exact ⟨b, off, e, Nat.lt_of_lt_of_le hb hB, hc⟩
theorem Rd.below (h : Rd w B A xs) (hb : Below B w w') : Rd w' B A xs := h.keep fun _ hp => hb.cell hp
theorem Rd.alloc (h : Rd w B A xs) (hB : B ≤ w.heap.size) (o : Obj) : Rd (w.alloc o) B A xs := h.keep fun p hp => World.cell?_alloc_lt w o p (Nat.lt_of_lt_of_le hp hB)
theorem Rd.cut (h : Rd w B A xs) {lo hi cap : Nat} (hh : hi ≤ xs.length) (hc : hi ≤ cap) : Rd w B (cutA A lo cap) ((xs.take hi).drop lo) := fun hn => by
  have hlt : lo < hi := by simp at hn; omega
  obtain ⟨b, off, rfl, hb, hcell⟩ := h (by omega)
  refine ⟨b, off + lo, ?_, hb, fun j u hu => ?_⟩
  · unfold cutA
    rw [if_neg (by omega)]
    simp [Addr.add]
  · have h1 : ((xs.take hi).drop lo)[j]? = some u := hu
    rw [List.getElem?_drop] at h1
    have h2 : xs[lo + j]? = some u := by
      rw [List.getElem?_take] at h1
      split at h1
      · exact h1
      · cases h1
    have := hcell _ u h2
    rw [show off + lo + j = off + (lo + j) from by omega]
    exact this
theorem Rd.drop (h : Rd w B A xs) {lo cap : Nat} (hc : xs.length ≤ cap) : Rd w B (cutA A lo cap) (xs.drop lo) := by
  have := h.cut (lo := lo) (hi := xs.length) (cap := cap) (Nat.le_refl _) hc
  rwa [List.take_length] at this
theorem Rd.of_own {base n size : Nat} {e : TypeId} {c : Nat} (h : w.ownsRow base e size (.slice A n c) n xs) : Rd w w.heap.size A xs := fun hn => by
  rcases h.2 with ⟨hv, h0⟩ | ⟨g, cap, cur, hv, hb, hg, hnc, hm, hs, ht⟩
  · subst h0
    have h1 := h.1
    rw [Nat.zero_mul] at h1
    omega
  · injection hv with hA _ _
    subst hA
    refine ⟨g, 0, rfl, (Array.getElem?_eq_some_iff.1 hg).1, fun j u hu => ?_⟩
    rw [cell_of_row w g (0 + j) _ _ _ hg]
    rw [← ht, List.getElem?_take] at hu
    split at hu
    · rw [Nat.zero_add]; simpa using hu
    · cases hu
end

/-- Cuts of a []byte: 's[lo:hi]', 's[lo:]', 's[:hi]', 's[:hi:mx]'. -/
theorem elem_u8s : Tryd.prog.underlying 52 = some (.slice (Tryd.prog.elem 52)) := by kernel_rfl
theorem size_u8s (W : World) : (sizeOf (Tryd.prog.elem 52)).run Tryd.prog W = .ok 1 W := by kernel_rfl
theorem cut_lh (W : World) (A : Option Addr) (len cap lo hi : Nat) (a b : Int) (ha : a = lo) (hb : b = hi) (h1 : lo ≤ hi) (h2 : hi ≤ cap) :
    (Instr.slice 52 (.slice A len cap) (some (.int .i64 a)) (some (.int .i64 b)) none).run Tryd.prog W = .ok (.slice (cutA A lo cap) (hi - lo) (cap - lo)) W := by
  subst ha hb
  rw [run_slice_lh (P := Tryd.prog) (w := W) (t := 52) (a := A) (len := len) (cap := cap) elem_u8s .i64 .i64 _ _ (by omega) (by omega) (by omega), size_u8s]
  simp [sliced, cutA]
theorem cut_l (W : World) (A : Option Addr) (len cap lo : Nat) (a : Int) (ha : a = lo) (h1 : lo ≤ len) (h2 : len ≤ cap) :
    (Instr.slice 52 (.slice A len cap) (some (.int .i64 a)) none none).run Tryd.prog W = .ok (.slice (cutA A lo cap) (len - lo) (cap - lo)) W := by
  subst ha
  rw [run_slice_l (P := Tryd.prog) (w := W) (t := 52) (a := A) (len := len) (cap := cap) elem_u8s .i64 _ (by omega) (by omega), size_u8s]
  simp [sliced, cutA]
theorem cut_h (W : World) (A : Option Addr) (len cap hi : Nat) (b : Int) (hb : b = hi) (h2 : hi ≤ cap) :
    (Instr.slice 52 (.slice A len cap) none (some (.int .i64 b)) none).run Tryd.prog W = .ok (.slice (cutA A 0 cap) hi cap) W := by
  subst hb
  rw [run_slice_h (P := Tryd.prog) (w := W) (t := 52) (a := A) (len := len) (cap := cap) elem_u8s .i64 _ (by omega) (by omega), size_u8s]
  simp [sliced, cutA]
theorem cut_hm (W : World) (A : Option Addr) (len cap hi mx : Nat) (b c : Int) (hb : b = hi) (hc : c = mx) (h1 : hi ≤ mx) (h2 : mx ≤ cap) :
    (Instr.slice 52 (.slice A len cap) none (some (.int .i64 b)) (some (.int .i64 c))).run Tryd.prog W = .ok (.slice (cutA A 0 mx) hi mx) W := by
  subst hb hc
  rw [run_slice_hm (P := Tryd.prog) (w := W) (t := 52) (a := A) (len := len) (cap := cap) elem_u8s .i64 .i64 _ _ (by omega) (by omega) (by omega), size_u8s]
  simp [sliced, cutA]

/-- A slice value of bytes that reads as l. -/
def RdB (w : World) (B : Nat) (A : Option Addr) (l : List UInt8) : Prop := Rd w B A (l.map bv)

/-- The row of the call's own, not empty: its head, its cells. -/
theorem own_form {w : World} {base n : Nat} {e : TypeId} {v : Value} {xs : List Value} (h : w.ownsRow base e 1 v n xs) (hn : 0 < n) :
    ∃ g cap, v = .slice (some ⟨g, 0, none⟩) n cap ∧ base ≤ g ∧ g < w.heap.size ∧ n ≤ cap ∧ cap ≤ maxLen ∧ ∀ (j : Nat) (u : Value), xs[j]? = some u → w.cell? ((⟨g, 0, none⟩ : Addr).add j) = some u := by
  rcases h.2 with ⟨_, h0⟩ | ⟨g, cap, cur, hv, hb, hg, hnc, hm, hs, ht⟩
  · omega
  · refine ⟨g, cap, hv, hb, (Array.getElem?_eq_some_iff.1 hg).1, hnc, hm, fun j u hu => ?_⟩
    have e : (⟨g, 0, none⟩ : Addr).add j = ⟨g, j, none⟩ := by simp [Addr.add]; omega
    rw [e, cell_of_row w g j _ _ _ hg]
    rw [← ht, List.getElem?_take] at hu
    split at hu
    · simpa using hu
    · cases hu
theorem own_below {w w' : World} {B base n size : Nat} {e : TypeId} {v : Value} {xs : List Value} (h : w.ownsRow base e size v n xs) (hb : Below B w w') (hB : w.heap.size ≤ B) : w'.ownsRow base e size v n xs :=
  h.kept (row := some w'.heap.size) ⟨hb.os, hb.tape, hb.output, hb.size, fun k hk _ => hb.block k (by omega)⟩ (by
    rcases hv : v.ownBlock with _ | k
    · exact .inl rfl
    · right
      have := (h.lt k hv).2
      intro e
      injection e with e
      have := hb.size
      omega)
theorem own_len {w : World} {base n size : Nat} {e : TypeId} {v : Value} {xs : List Value} (h : w.ownsRow base e size v n xs) : xs.length = n * size := h.1

def iv (n : Int) : Value := .int .i64 n
def sv (s : ByteArray) : Value := .string s
def sb (s : ByteArray) : List UInt8 := s.data.toList
theorem sb_len (s : ByteArray) : (sb s).length = s.size := by simp [sb]
theorem strCells_sb (s : ByteArray) : Lib.strCells s = (sb s).map bv := rfl

theorem size_setCells (b : Nat) : ∀ (vs : List Value) (o : Nat) (w : World), (w.setCells b o vs).heap.size = w.heap.size := by
  intro vs
  induction vs with
  | nil => intro o w; rfl
  | cons v r ih => intro o w; rw [World.setCells, ih]; simp [World.setCell]
theorem below_setCells {B : Nat} {a : World} (b : Nat) (hb : B ≤ b) : ∀ (vs : List Value) (o : Nat) (w : World), Below B a w → Below B a (w.setCells b o vs) := by
  intro vs
  induction vs with
  | nil => intro o w h; exact h
  | cons v r ih => intro o w h; rw [World.setCells]; exact ih _ _ (h.setCell (p := ⟨b, o, none⟩) hb v)
theorem there_new (w : World) (cs : Array Value) (t : TypeId) (n : Nat) (h : cs.size = n) : (w.alloc (.cells cs t)).there w.heap.size 0 n := fun j hj => by
  have hh := heap_alloc_new w (.cells cs t)
  refine ⟨?_, frozen_of_row _ _ _ cs t hh⟩
  rw [cell_of_row _ _ _ cs t _ hh]
  simp; omega
end Go.Proofs.YtjdidnonfmdfmaaDoor
end

