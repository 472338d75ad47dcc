/- Words without a program's own functions: rows that read, blocks, what a call leaves, conversions of strings; for seats that hold neither wire nor hash (there WireW, WireG0, WireG1, HashBlk and Below0 say the same). -/
import Derived.Test.YtkenfgifhebnpaaDoorProg
import Derived.Below
import Derived.BigQuiet
import Derived.BigRegion
import Derived.Deep.DeepCutAuto
import Derived.Deep.Light
import Derived.Deep.LoopGhost
import Derived.Deep.MidRow
import Derived.Deep.QuietTactic
import Derived.Deep.RegionWith
import Derived.Deep.WholeRow
import Derived.IntWalk
import Derived.Laws.BitsAll
import Derived.Laws.BitsAllLaws
import Derived.Laws.BytesArg
import Derived.Laws.EntriesVeiled
import Derived.Laws.ResultCell
import Derived.Laws.StructEq
import Derived.Lib.AppendStr
import Derived.Lib.ConvBytes
import Derived.Lib.Hide
import Derived.Lib.Slices
import Derived.Lib.Small
import Derived.Lib.Strings
import Derived.Lib.Walk
import Derived.Outline
import Derived.StillTailTactics
import Derived.WalkKit
import Derived.WalkLawsBesides
import Derived.WalkSpells
namespace Go.Proofs.YtkenfgifhebnpaaDoor
open Go.RowKit
set_option linter.unusedVariables false

def bv (c : UInt8) : Value := .int .u8 (c.toNat : Int)


/-- The slice's head leads, below block B, to a row of cells that begins with xs. -/
def Rd (w : World) (B : Nat) (A : Option Addr) (xs : List Value) : Prop :=
  0 < xs.length → ∃ b off, A = some ⟨b, off, none⟩ ∧ b < B ∧ ∀ (j : Nat) (u : Value), xs[j]? = some u → w.cell? ⟨b, off + j, none⟩ = some u

def cutA (A : Option Addr) (lo cap : Nat) : Option Addr := if cap = lo then A else A.map (·.add lo)

section
variable {w w' : World} {B B' : Nat} {A : Option Addr} {xs : List Value}
theorem Rd.nil : Rd w B A [] := fun h => absurd h (by simp)
theorem Rd.keep (h : Rd w B A xs) (hk : ∀ p : Addr, p.block < B → w'.cell? p = w.cell? p) : Rd w' B A xs := fun hn => by
  obtain ⟨b, off, e, hb, hc⟩ := h hn
  exact ⟨b, off, e, hb, fun j u hu => (hk _ hb).trans (hc j u hu)⟩
theorem Rd.more (h : Rd w B A xs) (hB : B ≤ B') : Rd w B' A xs := fun hn => by
  obtain ⟨b, off, e, hb, hc⟩ := h hn
  exact ⟨b, off, e, Nat.lt_of_lt_of_le hb hB, hc⟩
theorem Rd.below (h : Rd w B A xs) (hb : Below B w w') : Rd w' B A xs := h.keep fun _ hp => hb.cell hp
theorem Rd.alloc (h : Rd w B A xs) (hB : B ≤ w.heap.size) (o : Obj) : Rd (w.alloc o) B A xs := h.keep fun p hp => World.cell?_alloc_lt w o p (Nat.lt_of_lt_of_le hp hB)
theorem Rd.cut (h : Rd w B A xs) {lo hi cap : Nat} (hh : hi ≤ xs.length) (hc : hi ≤ cap) : Rd w B (cutA A lo cap) ((xs.take hi).drop lo) := fun hn => by
  have hlt : lo < hi := by simp at hn; omega
  obtain ⟨b, off, rfl, hb, hcell⟩ := h (by omega)
  refine ⟨b, off + lo, ?_, hb, fun j u hu => ?_⟩
  · unfold cutA
    rw [if_neg (by omega)]
    simp [Addr.add]
  · have h1 : ((xs.take hi).drop lo)[j]? = some u := hu
    rw [List.getElem?_drop] at h1
    have h2 : xs[lo + j]? = some u := by
      rw [List.getElem?_take] at h1
      split at h1
      · exact h1
      · cases h1
    have := hcell _ u h2
    rw [show off + lo + j = off + (lo + j) from by omega]
    exact this
theorem Rd.drop (h : Rd w B A xs) {lo cap : Nat} (hc : xs.length ≤ cap) : Rd w B (cutA A lo cap) (xs.drop lo) := by
  have := h.cut (lo := lo) (hi := xs.length) (cap := cap) (Nat.le_refl _) hc
  rwa [List.take_length] at this
theorem Rd.of_own {base n size : Nat} {e : TypeId} {c : Nat} (h : w.ownsRow base e size (.slice A n c) n xs) : Rd w w.heap.size A xs := fun hn => by
  rcases h.2 with ⟨hv, h0⟩ | ⟨g, cap, cur, hv, hb, hg, hnc, hm, hs, ht⟩
  · subst h0
    have h1 := h.1
    rw [Nat.zero_mul] at h1
    omega
  · injection hv with hA _ _
    subst hA
    refine ⟨g, 0, rfl, (Array.getElem?_eq_some_iff.1 hg).1, fun j u hu => ?_⟩
    rw [cell_of_row w g (0 + j) _ _ _ hg]
    rw [← ht, List.getElem?_take] at hu
    split at hu
    · rw [Nat.zero_add]; simpa using hu
    · cases hu
end

/-- Cuts of a []byte: 's[lo:hi]', 's[lo:]', 's[:hi]', 's[:hi:mx]'. -/
theorem elem_u8s : Tryd.prog.underlying 33 = some (.slice (Tryd.prog.elem 33)) := by kernel_rfl
theorem size_u8s (W : World) : (sizeOf (Tryd.prog.elem 33)).run Tryd.prog W = .ok 1 W := by kernel_rfl
theorem cut_lh (W : World) (A : Option Addr) (len cap lo hi : Nat) (a b : Int) (ha : a = lo) (hb : b = hi) (h1 : lo ≤ hi) (h2 : hi ≤ cap) :
    (Instr.slice 33 (.slice A len cap) (some (.int .i64 a)) (some (.int .i64 b)) none).run Tryd.prog W = .ok (.slice (cutA A lo cap) (hi - lo) (cap - lo)) W := by
  subst ha hb
  rw [run_slice_lh (P := Tryd.prog) (w := W) (t := 33) (a := A) (len := len) (cap := cap) elem_u8s .i64 .i64 _ _ (by omega) (by omega) (by omega), size_u8s]
  simp [sliced, cutA]
theorem cut_l (W : World) (A : Option Addr) (len cap lo : Nat) (a : Int) (ha : a = lo) (h1 : lo ≤ len) (h2 : len ≤ cap) :
    (Instr.slice 33 (.slice A len cap) (some (.int .i64 a)) none none).run Tryd.prog W = .ok (.slice (cutA A lo cap) (len - lo) (cap - lo)) W := by
  subst ha
  rw [run_slice_l (P := Tryd.prog) (w := W) (t := 33) (a := A) (len := len) (cap := cap) elem_u8s .i64 _ (by omega) (by omega), size_u8s]
  simp [sliced, cutA]
theorem cut_h (W : World) (A : Option Addr) (len cap hi : Nat) (b : Int) (hb : b = hi) (h2 : hi ≤ cap) :
    (Instr.slice 33 (.slice A len cap) none (some (.int .i64 b)) none).run Tryd.prog W = .ok (.slice (cutA A 0 cap) hi cap) W := by
  subst hb
  rw [run_slice_h (P := Tryd.prog) (w := W) (t := 33) (a := A) (len := len) (cap := cap) elem_u8s .i64 _ (by omega) (by omega), size_u8s]
  simp [sliced, cutA]
theorem cut_hm (W : World) (A : Option Addr) (len cap hi mx : Nat) (b c : Int) (hb : b = hi) (hc : c = mx) (h1 : hi ≤ mx) (h2 : mx ≤ cap) :
    (Instr.slice 33 (.slice A len cap) none (some (.int .i64 b)) (some (.int .i64 c))).run Tryd.prog W = .ok (.slice (cutA A 0 mx) hi mx) W := by
  subst hb hc
  rw [run_slice_hm (P := Tryd.prog) (w := W) (t := 33) (a := A) (len := len) (cap := cap) elem_u8s .i64 .i64 _ _ (by omega) (by omega) (by omega), size_u8s]
  simp [sliced, cutA]

/-- A slice value of bytes that reads as l. -/
def RdB (w : World) (B : Nat) (A : Option Addr) (l : List UInt8) : Prop := Rd w B A (l.map bv)

/-- The row of the call's own, not empty: its head, its cells. -/
theorem own_form {w : World} {base n : Nat} {e : TypeId} {v : Value} {xs : List Value} (h : w.ownsRow base e 1 v n xs) (hn : 0 < n) :
    ∃ g cap, v = .slice (some ⟨g, 0, none⟩) n cap ∧ base ≤ g ∧ g < w.heap.size ∧ n ≤ cap ∧ cap ≤ maxLen ∧ ∀ (j : Nat) (u : Value), xs[j]? = some u → w.cell? ((⟨g, 0, none⟩ : Addr).add j) = some u := by
  rcases h.2 with ⟨_, h0⟩ | ⟨g, cap, cur, hv, hb, hg, hnc, hm, hs, ht⟩
  · omega
  · refine ⟨g, cap, hv, hb, (Array.getElem?_eq_some_iff.1 hg).1, hnc, hm, fun j u hu => ?_⟩
    have e : (⟨g, 0, none⟩ : Addr).add j = ⟨g, j, none⟩ := by simp [Addr.add]; omega
    rw [e, cell_of_row w g j _ _ _ hg]
    rw [← ht, List.getElem?_take] at hu
    split at hu
    · simpa using hu
    · cases hu
theorem own_below {w w' : World} {B base n size : Nat} {e : TypeId} {v : Value} {xs : List Value} (h : w.ownsRow base e size v n xs) (hb : Below B w w') (hB : w.heap.size ≤ B) : w'.ownsRow base e size v n xs :=
  h.kept (row := some w'.heap.size) ⟨hb.os, hb.tape, hb.output, hb.size, fun k hk _ => hb.block k (by omega)⟩ (by
    rcases hv : v.ownBlock with _ | k
    · exact .inl rfl
    · right
      have := (h.lt k hv).2
      intro e
      injection e with e
      have := hb.size
      omega)
theorem own_len {w : World} {base n size : Nat} {e : TypeId} {v : Value} {xs : List Value} (h : w.ownsRow base e size v n xs) : xs.length = n * size := h.1

def iv (n : Int) : Value := .int .i64 n
def sv (s : ByteArray) : Value := .string s
def sb (s : ByteArray) : List UInt8 := s.data.toList
theorem sb_len (s : ByteArray) : (sb s).length = s.size := by simp [sb]
theorem strCells_sb (s : ByteArray) : Lib.strCells s = (sb s).map bv := rfl

theorem size_setCells (b : Nat) : ∀ (vs : List Value) (o : Nat) (w : World), (w.setCells b o vs).heap.size = w.heap.size := by
  intro vs
  induction vs with
  | nil => intro o w; rfl
  | cons v r ih => intro o w; rw [World.setCells, ih]; simp [World.setCell]
theorem below_setCells {B : Nat} {a : World} (b : Nat) (hb : B ≤ b) : ∀ (vs : List Value) (o : Nat) (w : World), Below B a w → Below B a (w.setCells b o vs) := by
  intro vs
  induction vs with
  | nil => intro o w h; exact h
  | cons v r ih => intro o w h; rw [World.setCells]; exact ih _ _ (h.setCell (p := ⟨b, o, none⟩) hb v)
theorem there_new (w : World) (cs : Array Value) (t : TypeId) (n : Nat) (h : cs.size = n) : (w.alloc (.cells cs t)).there w.heap.size 0 n := fun j hj => by
  have hh := heap_alloc_new w (.cells cs t)
  refine ⟨?_, frozen_of_row _ _ _ cs t hh⟩
  rw [cell_of_row _ _ _ cs t _ hh]
  simp; omega


def bs (l : List UInt8) : ByteArray := ⟨l.toArray⟩
theorem sb_bs (l : List UInt8) : sb (bs l) = l := by simp [sb, bs]
theorem bs_sb (s : ByteArray) : bs (sb s) = s := by cases s; simp [sb, bs]
theorem strOf (l : List UInt8) : strOfNums (l.map fun c => (c.toNat : Int)) = bs l := by
  unfold strOfNums bs
  congr 1
  apply congrArg
  rw [List.map_map]
  conv => rhs; rw [← List.map_id l]
  apply List.map_congr_left
  intro c _
  simp

theorem conv_bytes (w : World) (B : Nat) (A : Option Addr) (l : List UInt8) (c : Nat) (hr : RdB w B A l) :
    (convert 33 9 (.slice A l.length c)).run Tryd.prog w = .ok (.string (bs l)) w := by
  cases hl : l with
  | nil =>
    cases A with
    | none => exact run_convert_bytes_nil w _ _ Tryd.underlying33 Tryd.underlying5 _ _ _ Tryd.underlying9
    | some ad =>
      rw [run_convert_bytes_string w _ _ _ _ _ _ Tryd.underlying33 Tryd.underlying5 Tryd.underlying9]
      exact run_bytesToString w ad 0 c [] (run_loadCells_list (P := Tryd.prog) w ad [] (fun j v hj => by simp at hj))
  | cons a t =>
    obtain ⟨b, off, rfl, hb, hcell⟩ := hr (by rw [hl]; simp)
    rw [← hl, ← strOf l]
    refine run_convert_bytes_arg w _ _ Tryd.underlying33 Tryd.underlying5 b off l.length c (l.map fun c => (c.toNat : Int)) (by simp) (fun i hi => ?_) _ Tryd.underlying9
    refine hcell i _ ?_
    simp [hi, bv]



theorem below_drewN {B : Nat} {a w : World} (h : Below B a w) (n : Nat) : Below B a (w.drewN n) := ⟨h.os, h.tape, h.output, h.size, h.block⟩
/-- It says b, and nothing that was there has changed. -/
def Tells (b : Bool) (w : World) (e : Ending) (w' : World) : Prop := e = .returned (.bool b) ∧ Below w.heap.size w w'

theorem cell_one (w : World) (x : Value) (t : TypeId) : ∀ (j : Nat) (u : Value), [x][j]? = some u → (w.alloc (.cells #[x] t)).cell? ((⟨w.heap.size, 0, none⟩ : Addr).add j) = some u := by
  intro j u hu
  match j, hu with
  | 0, hu => simp at hu; subst hu; simp [Addr.add]

theorem rd_new (w : World) (xs : List Value) (t : TypeId) : Rd (w.alloc (.cells xs.toArray t)) (w.alloc (.cells xs.toArray t)).heap.size (some ⟨w.heap.size, 0, none⟩) xs := fun _ =>
  ⟨w.heap.size, 0, rfl, by simp, fun j u hu => by
    rw [cell_of_row _ _ _ _ _ _ (heap_alloc_new w _)]
    simpa using hu⟩
theorem behind0 {w w' : World} {B : Nat} (h : Below B w w') (hB : w.heap.size ≤ B) : Below w.heap.size w w' := h.mono hB
theorem behind1 {w w' : World} {B : Nat} {o : Obj} (h : Below B (w.alloc o) w') (hB : w.heap.size ≤ B) : Below w.heap.size w w' := ((Below.refl _ _).alloc (Nat.le_refl _) o).trans (h.mono hB)
theorem own_rd {w : World} {B base n size : Nat} {e : TypeId} {v : Value} {xs : List Value} (h : w.ownsRow base e size v n xs) :
    ∃ A c, v = .slice A n c ∧ Rd w w.heap.size A xs ∧ n ≤ c ∧ c ≤ maxLen := by
  have h' := h
  rcases h'.2 with ⟨rfl, rfl⟩ | ⟨g, cap, cur, rfl, hb, hg, hnc, hm, hs, ht⟩
  · exact ⟨none, 0, rfl, Rd.of_own h, Nat.le_refl _, by decide⟩
  · exact ⟨_, cap, rfl, Rd.of_own h, hnc, hm⟩

/-- Bytes in memory. -/
def Gives (l : List UInt8) (W : World) (e : Ending) (w' : World) : Prop :=
  ∃ A c, e = .returned (.slice A l.length c) ∧ RdB w' w'.heap.size A l ∧ l.length ≤ c ∧ c ≤ maxLen ∧ Below W.heap.size W w'
theorem gives_behind {l : List UInt8} {W : World} {o : Obj} {e : Ending} {w' : World} (h : Gives l (W.alloc o) e w') : Gives l W e w' := by
  obtain ⟨A, c, h1, h2, h3, h4, h5⟩ := h
  exact ⟨A, c, h1, h2, h3, h4, behind1 h5 (by simp)⟩
/-- The bytes of a string in a new row. -/
theorem conv_str (W : World) (s : ByteArray) : ∃ W' c, (convert 9 33 (.string s)).run Tryd.prog W = .ok (.slice (some ⟨W.heap.size, 0, none⟩) s.size c) W' ∧
    (∀ (j : Nat) (u : Value), ((sb s).map bv)[j]? = some u → W'.cell? ((⟨W.heap.size, 0, none⟩ : Addr).add j) = some u) ∧ Below W.heap.size W W' := by
  refine ⟨Lib.bytesWorld W 5 s, _, Lib.run_convert_string_bytes W _ _ 5 s Tryd.underlying9 Tryd.underlying33 Tryd.underlying5, fun j u hu => ?_, ?_⟩
  · have hj := (List.getElem?_eq_some_iff.1 hu).1
    rw [List.length_map, sb_len] at hj
    rw [Addr.add_mid, Nat.zero_add, Lib.bytesWorld_cell W _ s j hj, ← hu, List.getElem?_map]
    have h2 : j < s.data.toList.length := by rw [Array.length_toList]; exact hj
    simp only [sb, List.getD_eq_getElem?_getD, List.getElem?_eq_getElem h2, Option.map_some, Option.getD_some]
    rfl
  · refine ⟨?_, ?_, ?_, by rw [Lib.bytesWorld_size]; omega, fun k hk => Lib.bytesWorld_at_old W _ s k hk⟩
    all_goals rfl



/-- Block b is a variable of type t that holds vs. -/
def Blk (w : World) (b : Nat) (vs : List Value) (t : TypeId) : Prop := w.heap[b]? = some (.cells vs.toArray t (0, 0))
section
variable {w w' : World} {b : Nat} {vs : List Value} {t : TypeId}
theorem Blk.cell (h : Blk w b vs t) (j : Nat) (v : Value) (hv : vs[j]? = some v) : w.cell? ⟨b, j, none⟩ = some v := by
  rw [cell_of_row w b j _ _ _ h]; simpa using hv
theorem Blk.frozen (h : Blk w b vs t) (j : Nat) : w.frozen? ⟨b, j, none⟩ = false := frozen_of_row w b j _ t h
theorem Blk.new (w : World) (vs : List Value) (t : TypeId) : Blk (w.alloc (.cells vs.toArray t)) w.heap.size vs t := heap_alloc_new w _
theorem Blk.lt (h : Blk w b vs t) : b < w.heap.size := (Array.getElem?_eq_some_iff.1 h).1
theorem Blk.alloc (h : Blk w b vs t) (o : Obj) : Blk (w.alloc o) b vs t := (Below.heap_alloc w o b h.lt).trans h
theorem Blk.set (h : Blk w b vs t) (i : Nat) (v : Value) : Blk (w.setCell ⟨b, i, none⟩ v) b (vs.set i v) t := by
  have := heap_setCell_same w b i _ t v h
  unfold Blk
  rw [this]
  simp
theorem Blk.other (h : Blk w b vs t) (a : Addr) (v : Value) (hn : b ≠ a.block) : Blk (w.setCell a v) b vs t := (heap_setCell_other w a b v hn).trans h
theorem Blk.drew (h : Blk w b vs t) : Blk w.drew b vs t := h
theorem Blk.drewN (h : Blk w b vs t) (n : Nat) : Blk (w.drewN n) b vs t := h
theorem Blk.below {B : Nat} (h : Blk w b vs t) (hb : Below B w w') (hB : b < B) : Blk w' b vs t := (hb.block b hB).trans h
theorem Blk.range (h : Blk w b vs t) : w.rangeAt b 0 vs := fun j v hv => by rw [Nat.zero_add]; exact h.cell j v hv
theorem Blk.sub (h : Blk w b vs t) (o : Nat) (xs : List Value) (hx : ∀ j, j < xs.length → vs[o + j]? = xs[j]?) : w.rangeAt b o xs := fun j v hv => by
  have hj := (List.getElem?_eq_some_iff.1 hv).1
  exact h.cell (o + j) v (by rw [hx j hj, hv])
theorem Blk.there (h : Blk w b vs t) (o n : Nat) (hn : o + n ≤ vs.length) : w.there b o n := fun j hj =>
  ⟨by rw [h.cell (o + j) _ (List.getElem?_eq_getElem (by omega))]; rfl, h.frozen _⟩
end
theorem size_setCell (w : World) (a : Addr) (v : Value) : (w.setCell a v).heap.size = w.heap.size := by simp [World.setCell]
theorem i64_in (x : Int) (h1 : -9223372036854775808 ≤ x) (h2 : x ≤ 9223372036854775807) : IntKind.i64.wrap x = x := IntWalk.i64_in x ⟨h1, h2⟩
theorem getD_at {α : Type} (l : List α) (i : Nat) (d : α) (h : i < l.length) : l[i]? = some (l.getD i d) := by
  simp [List.getElem?_eq_getElem h]
/-- A row that is filled from its head. -/
theorem fill_at (xs : List Value) (k n : Nat) (z : Value) (hx : xs.length = k) (h : k < n) : (xs ++ List.replicate (n - k) z)[k]? = some z := by
  rw [List.getElem?_append_right (by omega), hx, Nat.sub_self, List.getElem?_replicate, if_pos (by omega)]
theorem fill_set (xs : List Value) (k n : Nat) (z v : Value) (hx : xs.length = k) (h : k < n) : (xs ++ List.replicate (n - k) z).set k v = (xs ++ [v]) ++ List.replicate (n - (k + 1)) z := by
  rw [show n - k = (n - (k + 1)) + 1 by omega, List.replicate_succ, List.set_append_right _ _ (by omega), hx, Nat.sub_self, List.set_cons_zero, List.append_assoc]
  rfl
/-- A whole variable is written. -/
theorem set_all : ∀ (vs us : List Value) (o : Nat) (w : World) (b : Nat) (t : TypeId), Blk w b us t → o + vs.length ≤ us.length → Blk (w.setCells b o vs) b (us.take o ++ vs ++ us.drop (o + vs.length)) t := by
  intro vs
  induction vs with
  | nil => intro us o w b t h hl; rw [World.setCells]; simpa using h
  | cons v r ih =>
    intro us o w b t h hl
    simp only [List.length_cons] at hl
    rw [World.setCells]
    have h1 := ih _ (o + 1) _ b t (h.set o v) (by simp; omega)
    have e : (us.set o v).take (o + 1) ++ r ++ (us.set o v).drop (o + 1 + r.length) = us.take o ++ (v :: r) ++ us.drop (o + (v :: r).length) := by
      rw [List.take_succ_eq_append_getElem (by simp; omega), List.getElem_set_self, List.take_set_of_le (Nat.le_refl _), List.drop_set_of_lt (by omega), List.length_cons]
      simp only [List.append_assoc, List.singleton_append]
      rw [show o + 1 + r.length = o + (r.length + 1) by omega]
    rwa [e] at h1
theorem Blk.whole {w : World} {b : Nat} {us : List Value} {t : TypeId} (h : Blk w b us t) (vs : List Value) (hl : vs.length = us.length) : Blk (w.setCells b 0 vs) b vs t := by
  have := set_all vs us 0 w b t h (by omega)
  simpa [hl] using this
theorem Blk.outside {b : Nat} {us : List Value} {t : TypeId} (vs : List Value) : ∀ (c o : Nat) (w : World), Blk w b us t → b ≠ c → Blk (w.setCells c o vs) b us t := by
  induction vs with
  | nil => intro c o w h _; exact h
  | cons v r ih => intro c o w h hn; rw [World.setCells]; exact ih c _ _ (h.other ⟨c, o, none⟩ v hn) hn
theorem drewN_below {B : Nat} {w w' : World} (h : Below B w w') (n : Nat) : Below B w (w'.drewN n) := ⟨h.os, h.tape, h.output, h.size, h.block⟩


/-- The worlds that are as w below block B. -/
def BelT (B : Nat) (w : World) : Type := { w' : World // Below B w w' }
def BelT.at {B : Nat} {w : World} (x : BelT B w) : World := x.val
theorem BelT.out {B : Nat} {w : World} (x : BelT B w) : Below B w x.at := x.property
theorem BelT.of {B : Nat} {w w' : World} (h : Below B w w') : ∃ x : BelT B w, w' = x.at := ⟨⟨w', h⟩, rfl⟩
instance {B : Nat} {w : World} : Nonempty (BelT B w) := ⟨⟨w, Below.refl _ _⟩⟩
/-- A region that draws its order, where every operation yields one value in every world that is as it was below B; a callee may make memory. -/
theorem wp_region_below {P : Program} {id : Nat} {Q : Exit → Act → World → Prop} {a : Act} {w : World} {l : List Oper} (B : Nat) (hm : P.follows .mixedOrders = true) (hB : Region.lexB .any l.toArray = true)
    (h : wpQuiet P l.toArray (fun w' => ∃ x : BelT B w, w' = x.at) (fun a' => ∀ w', (∃ x : BelT B w, w' = x.at) → Q .normal a' w') l a) : (Code.region id l.toArray true).wp P Q a w :=
  wp_region_quiet (C := fun w' => ∃ x : BelT B w, w' = x.at) hm hB (BelT.of ⟨rfl, rfl, rfl, Nat.le_refl _, fun _ _ => rfl⟩) (by simpa using h)


end Go.Proofs.YtkenfgifhebnpaaDoor
