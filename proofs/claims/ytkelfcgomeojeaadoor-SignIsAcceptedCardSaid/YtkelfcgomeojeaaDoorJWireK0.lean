import Derived.Laws.BytesArg
import Derived.Deep.QuietTactic
import Derived.Lib.ConvBytes
import Derived.BigQuiet
import Derived.ProofKit
import Derived.OpenShut
import Derived.ShutString
import Derived.ChangeOld
import Derived.Deep.Slices
import Derived.SliceStrings
import Derived.SizedLaws
import Derived.Deep.RegionWith
import Derived.WalkLawsBesides
import Derived.Test.YtkelfcgomeojeaaDoorJWireD

section
/- The conversion of a []byte to a string. -/


namespace Go.Proofs.YtkelfcgomeojeaaDoor
open Go.RowKit
set_option linter.unusedVariables false

def bs (l : List UInt8) : ByteArray := ⟨l.toArray⟩
theorem sb_bs (l : List UInt8) : sb (bs l) = l := by simp [sb, bs]
theorem bs_sb (s : ByteArray) : bs (sb s) = s := by cases s; simp [sb, bs]
theorem strOf (l : List UInt8) : strOfNums (l.map fun c => (c.toNat : Int)) = bs l := by
  unfold strOfNums bs
  congr 1
  apply congrArg
  rw [List.map_map]
  conv => rhs; rw [← List.map_id l]
  apply List.map_congr_left
  intro c _
  simp

theorem conv_bytes (w : World) (B : Nat) (A : Option Addr) (l : List UInt8) (c : Nat) (hr : RdB w B A l) :
    (convert 51 9 (.slice A l.length c)).run Tryd.prog w = .ok (.string (bs l)) w := by
  cases hl : l with
  | nil =>
    cases A with
    | none => exact run_convert_bytes_nil w _ _ Tryd.underlying51 Tryd.underlying5 _ _ _ Tryd.underlying9
    | some ad =>
      rw [run_convert_bytes_string w _ _ _ _ _ _ Tryd.underlying51 Tryd.underlying5 Tryd.underlying9]
      exact run_bytesToString w ad 0 c [] (run_loadCells_list (P := Tryd.prog) w ad [] (fun j v hj => by simp at hj))
  | cons a t =>
    obtain ⟨b, off, rfl, hb, hcell⟩ := hr (by rw [hl]; simp)
    rw [← hl, ← strOf l]
    refine run_convert_bytes_arg w _ _ Tryd.underlying51 Tryd.underlying5 b off l.length c (l.map fun c => (c.toNat : Int)) (by simp) (fun i hi => ?_) _ Tryd.underlying9
    refine hcell i _ ?_
    simp [hi, bv]

end Go.Proofs.YtkelfcgomeojeaaDoor
end

section
/- Words: what a call leaves; a slice that reads. -/





namespace Go.Proofs.YtkelfcgomeojeaaDoor
open Go.RowKit
set_option linter.unusedVariables false

theorem below_drewN {B : Nat} {a w : World} (h : Below B a w) (n : Nat) : Below B a (w.drewN n) := ⟨h.os, h.tape, h.output, h.size, h.block⟩
/-- It says b, and nothing that was there has changed. -/
def Tells (b : Bool) (w : World) (e : Ending) (w' : World) : Prop := e = .returned (.bool b) ∧ Below w.heap.size w w'

theorem cell_one (w : World) (x : Value) (t : TypeId) : ∀ (j : Nat) (u : Value), [x][j]? = some u → (w.alloc (.cells #[x] t)).cell? ((⟨w.heap.size, 0, none⟩ : Addr).add j) = some u := by
  intro j u hu
  match j, hu with
  | 0, hu => simp at hu; subst hu; simp [Addr.add]

theorem rd_new (w : World) (xs : List Value) (t : TypeId) : Rd (w.alloc (.cells xs.toArray t)) (w.alloc (.cells xs.toArray t)).heap.size (some ⟨w.heap.size, 0, none⟩) xs := fun _ =>
  ⟨w.heap.size, 0, rfl, by simp, fun j u hu => by
    rw [cell_of_row _ _ _ _ _ _ (heap_alloc_new w _)]
    simpa using hu⟩
theorem behind0 {w w' : World} {B : Nat} (h : Below B w w') (hB : w.heap.size ≤ B) : Below w.heap.size w w' := h.mono hB
theorem behind1 {w w' : World} {B : Nat} {o : Obj} (h : Below B (w.alloc o) w') (hB : w.heap.size ≤ B) : Below w.heap.size w w' := ((Below.refl _ _).alloc (Nat.le_refl _) o).trans (h.mono hB)
theorem own_rd {w : World} {B base n size : Nat} {e : TypeId} {v : Value} {xs : List Value} (h : w.ownsRow base e size v n xs) :
    ∃ A c, v = .slice A n c ∧ Rd w w.heap.size A xs ∧ n ≤ c ∧ c ≤ maxLen := by
  have h' := h
  rcases h'.2 with ⟨rfl, rfl⟩ | ⟨g, cap, cur, rfl, hb, hg, hnc, hm, hs, ht⟩
  · exact ⟨none, 0, rfl, Rd.of_own h, Nat.le_refl _, by decide⟩
  · exact ⟨_, cap, rfl, Rd.of_own h, hnc, hm⟩

/-- Bytes in memory. -/
def Gives (l : List UInt8) (W : World) (e : Ending) (w' : World) : Prop :=
  ∃ A c, e = .returned (.slice A l.length c) ∧ RdB w' w'.heap.size A l ∧ l.length ≤ c ∧ c ≤ maxLen ∧ Below W.heap.size W w'
theorem makes_gives {l : List UInt8} {W : World} {e : Ending} {w' : World} (h : Makes l W e w') : Gives l W e w' := by
  obtain ⟨v, h1, h2, h3⟩ := h
  obtain ⟨A, c, rfl, h4, h5, h6⟩ := own_rd (B := 0) h2
  exact ⟨A, c, h1, h4, h5, h6, h3⟩
theorem gives_behind {l : List UInt8} {W : World} {o : Obj} {e : Ending} {w' : World} (h : Gives l (W.alloc o) e w') : Gives l W e w' := by
  obtain ⟨A, c, h1, h2, h3, h4, h5⟩ := h
  exact ⟨A, c, h1, h2, h3, h4, behind1 h5 (by simp)⟩
/-- The bytes of a string in a new row. -/
theorem conv_str (W : World) (s : ByteArray) : ∃ W' c, (convert 9 51 (.string s)).run Tryd.prog W = .ok (.slice (some ⟨W.heap.size, 0, none⟩) s.size c) W' ∧
    (∀ (j : Nat) (u : Value), ((sb s).map bv)[j]? = some u → W'.cell? ((⟨W.heap.size, 0, none⟩ : Addr).add j) = some u) ∧ Below W.heap.size W W' := by
  refine ⟨Lib.bytesWorld W 5 s, _, Lib.run_convert_string_bytes W _ _ 5 s Tryd.underlying9 Tryd.underlying51 Tryd.underlying5, fun j u hu => ?_, ?_⟩
  · have hj := (List.getElem?_eq_some_iff.1 hu).1
    rw [List.length_map, sb_len] at hj
    rw [Addr.add_mid, Nat.zero_add, Lib.bytesWorld_cell W _ s j hj, ← hu, List.getElem?_map]
    have h2 : j < s.data.toList.length := by rw [Array.length_toList]; exact hj
    simp only [sb, List.getD_eq_getElem?_getD, List.getElem?_eq_getElem h2, Option.map_some, Option.getD_some]
    rfl
  · refine ⟨?_, ?_, ?_, by rw [Lib.bytesWorld_size]; omega, fun k hk => Lib.bytesWorld_at_old W _ s k hk⟩
    all_goals rfl

end Go.Proofs.YtkelfcgomeojeaaDoor
end

section
/- What comes in: slices of integers, bytes and strings. -/








namespace Go.Proofs.YtkelfcgomeojeaaDoor
open Go.RowKit
set_option linter.unusedVariables false

/-- A slice of integers that came in: nil, or a row of 'cap' cells. -/
def IsRow (k : IntKind) (w : World) (a : Option Addr) (len cap : Nat) (zs : List Int) : Prop :=
  (a = none ∧ len = 0 ∧ cap = 0 ∧ zs = []) ∨
  ∃ x, a = some x ∧ len ≤ cap ∧ cap ≤ maxLen ∧ zs.length = cap ∧ (∀ i, i < zs.length → w.cell? (x.add i) = some (.int k (zs.getD i 0))) ∧ ∀ n ∈ zs, (Lit.int k n).wf = true

theorem row_rd {k : IntKind} {w : World} {a : Option Addr} {len cap : Nat} {zs : List Int} (h : IsRow k w a len cap zs) :
    ∃ l : List Int, l.length = len ∧ Rd w w.heap.size a (l.map (Value.int k)) ∧ len ≤ cap ∧ cap ≤ maxLen ∧ ∀ n ∈ l, (Lit.int k n).wf = true := by
  rcases h with ⟨rfl, rfl, rfl, rfl⟩ | ⟨x, rfl, hl, hm, hz, hcell, hwf⟩
  · exact ⟨[], rfl, Rd.nil, Nat.le_refl _, by decide, by simp⟩
  · refine ⟨zs.take len, by simp; omega, fun hn => ?_, hl, hm, fun n hn => hwf n (List.mem_of_mem_take hn)⟩
    have hn' : 0 < zs.length := by simp at hn; omega
    have h0 := hcell 0 hn'
    obtain ⟨b, off, spot⟩ := x
    have hspot : spot = none := by simpa [Addr.add] using World.cell?_spot h0
    subst hspot
    refine ⟨b, off, rfl, ?_, fun j u hu => ?_⟩
    · have := World.block_lt_of_cell? w _ h0
      simpa [add_block] using this
    · have hj := (List.getElem?_eq_some_iff.1 hu).1
      simp at hj
      have hc := hcell j (by omega)
      rw [Addr.add_mid] at hc
      have hj1 : j < len := by omega
      have hj2 : j < zs.length := by omega
      rw [hc, ← hu]
      simp [hj1, List.getElem?_eq_getElem hj2]

theorem nums_u8 (l : List Int) (h : ∀ n ∈ l, (Lit.int .u8 n).wf = true) : ∃ q : List UInt8, l.map (Value.int .u8) = q.map bv := by
  induction l with
  | nil => exact ⟨[], rfl⟩
  | cons n t ih =>
    obtain ⟨q, hq⟩ := ih (fun m hm => h m (by simp [hm]))
    have hb := bounds_u8 (h n (by simp))
    refine ⟨UInt8.ofNat n.toNat :: q, ?_⟩
    rw [List.map_cons, List.map_cons, hq]
    congr 1
    unfold bv
    congr 1
    simp
    omega
theorem row_bytes {w : World} {a : Option Addr} {len cap : Nat} {zs : List Int} (h : IsRow .u8 w a len cap zs) : ∃ q : List UInt8, q.length = len ∧ RdB w w.heap.size a q ∧ len ≤ cap ∧ cap ≤ maxLen := by
  obtain ⟨l, h1, h2, h3, h4, h5⟩ := row_rd h
  obtain ⟨q, hq⟩ := nums_u8 l h5
  refine ⟨q, ?_, ?_, h3, h4⟩
  · have := congrArg List.length hq
    simp at this
    omega
  · unfold RdB; rw [← hq]; exact h2
theorem row_ints {w : World} {a : Option Addr} {len cap : Nat} {zs : List Int} (h : IsRow .i64 w a len cap zs) : ∃ l : List Int, l.length = len ∧ Rd w w.heap.size a (l.map iv) ∧ len ≤ cap ∧ cap ≤ maxLen ∧ ∀ n ∈ l, M.I64 n := by
  obtain ⟨l, h1, h2, h3, h4, h5⟩ := row_rd h
  exact ⟨l, h1, h2, h3, h4, fun n hn => bounds_i64 (h5 n hn)⟩
theorem int_I64 {n : Int} (h : (Lit.int .i64 n).wf = true) : M.I64 n := bounds_i64 h

/-- A slice of strings that came in: nil, or a row of 'cap' cells. -/
def IsStrs (w : World) (a : Option Addr) (len cap : Nat) (ss : List ByteArray) : Prop :=
  (a = none ∧ len = 0 ∧ cap = 0 ∧ ss = []) ∨
  ∃ x, a = some x ∧ len ≤ cap ∧ cap ≤ maxLen ∧ ss.length = cap ∧ ∀ i, i < ss.length → w.cell? (x.add i) = some (.string (ss.getD i ByteArray.empty))
theorem row_strs {w : World} {a : Option Addr} {len cap : Nat} {ss : List ByteArray} (h : IsStrs w a len cap ss) :
    ∃ l : List ByteArray, l.length = len ∧ Rd w w.heap.size a (l.map sv) ∧ len ≤ cap ∧ cap ≤ maxLen ∧ l = ss.take len := by
  rcases h with ⟨rfl, rfl, rfl, rfl⟩ | ⟨x, rfl, hl, hm, hz, hcell⟩
  · exact ⟨[], rfl, Rd.nil, Nat.le_refl _, by decide, rfl⟩
  · refine ⟨ss.take len, by simp; omega, fun hn => ?_, hl, hm, rfl⟩
    have hn' : 0 < ss.length := by simp at hn; omega
    have h0 := hcell 0 hn'
    obtain ⟨b, off, spot⟩ := x
    have hspot : spot = none := by simpa [Addr.add] using World.cell?_spot h0
    subst hspot
    refine ⟨b, off, rfl, ?_, fun j u hu => ?_⟩
    · have := World.block_lt_of_cell? w _ h0
      simpa [add_block] using this
    · have hj := (List.getElem?_eq_some_iff.1 hu).1
      simp at hj
      have hj1 : j < len := by omega
      have hj2 : j < ss.length := by omega
      have hc := hcell j hj2
      rw [Addr.add_mid] at hc
      rw [hc, ← hu]
      simp [hj1, List.getElem?_eq_getElem hj2, sv]

def unbv : Value → UInt8
  | .int _ n => UInt8.ofNat n.toNat
  | _ => 0
theorem unbv_bv (c : UInt8) : unbv (bv c) = c := by simp [unbv, bv]

theorem arr_bytes {H : Type} {enc : TypeId × Value → H} {P : Program} {W : World} {base n : Nat} {spare : Nat → Bool} {held : Bool} {fuel : Nat} {t e : TypeId} {cs : List Value} {x : DataW H × List MemPlace}
    (ht : P.underlying t = some (.array n e)) (he : P.underlying e = some (.int .u8)) (hc : P.cellsOf e = 1) (hct : P.cellsOf t = n) (h : DataW.trod enc P W base spare held fuel t cs = some x) :
    ∃ l : List UInt8, l.length = n ∧ cs = l.map bv := by
  obtain ⟨xs, m, -, -, hl, hxl, hx⟩ := DataW.trod_array ht h
  rw [hct] at hl
  have key : ∀ i, i < n → ∃ c : UInt8, cs[i]? = some (bv c) := by
    intro i hi
    have h1 := hx i hi
    rw [hc, Nat.mul_one, List.getElem?_eq_getElem (by omega)] at h1
    obtain ⟨z, hz, -, hw⟩ := DataW.trod_int he h1
    have hb := bounds_u8 hw
    refine ⟨UInt8.ofNat z.toNat, ?_⟩
    have h2 : cs[i]? = some (.int .u8 z) := by
      have := congrArg (fun l : List Value => l[0]?) hz
      simpa [List.getElem?_take, List.getElem?_drop] using this
    rw [h2]
    unfold bv
    congr 2
    simp
    omega
  refine ⟨cs.map unbv, by rw [List.length_map, hl], ?_⟩
  apply List.ext_getElem?
  intro i
  by_cases hi : i < n
  · obtain ⟨c, h3⟩ := key i hi
    rw [List.map_map, List.getElem?_map, h3]
    simp [unbv_bv]
  · rw [List.getElem?_eq_none (by omega), List.getElem?_eq_none (by simp; omega)]
/-- An array of bytes by value. -/
theorem open_arr {H : Type} {enc : TypeId × Value → H} {P : Program} {W : World} {r : Reach} {base b0 n : Nat} {spare : Nat → Bool} {held : Bool} {t e : TypeId} {v : Value} {d : DataW H} {ps : List MemPlace}
    (ht : P.underlying t = some (.array n e)) (he : P.underlying e = some (.int .u8)) (hc : P.cellsOf e = 1) (hct : P.cellsOf t = n) (hval : Value.okWide P W r b0 t v) (hd : DataW.Trod enc P W base spare held t v d ps) :
    ∃ l : List UInt8, l.length = n ∧ v = .agg (l.map bv).toArray := by
  simp only [Value.okWide, ht] at hval
  obtain ⟨cs, rfl, -, -⟩ := hval
  obtain ⟨fuel, hf⟩ := hd
  obtain ⟨l, h1, h2⟩ := arr_bytes ht he hc hct hf
  refine ⟨l, h1, ?_⟩
  have h3 : cs.toList = l.map bv := by simpa [Value.cells] using h2
  rw [← h3]
/-- Rows in memory. -/
def Mem (W : World) (ps : List (Option Addr × List Value)) : Prop := ∀ p ∈ ps, Rd W W.heap.size p.1 p.2
theorem Mem.step {W W' : World} {ps : List (Option Addr × List Value)} (h : Mem W ps) (hb : Below W.heap.size W W') : Mem W' ps := fun p hp => ((h p hp).below hb).more hb.size
theorem Mem.one {W : World} {A : Option Addr} {l : List Value} (h : Rd W W.heap.size A l) : Mem W [(A, l)] := fun p hp => by
  rw [List.mem_singleton.1 hp]; exact h
theorem Mem.add {W : World} {ps : List (Option Addr × List Value)} {A : Option Addr} {l : List Value} (h : Mem W ps) (hr : Rd W W.heap.size A l) : Mem W ((A, l) :: ps) := fun p hp => by
  rcases List.mem_cons.1 hp with rfl | hp
  · exact hr
  · exact h p hp
theorem Mem.get {W : World} {ps : List (Option Addr × List Value)} (h : Mem W ps) (A : Option Addr) (l : List Value) (hp : (A, l) ∈ ps) : Rd W W.heap.size A l := h _ hp

theorem Rd.cellAt {w : World} {B b : Nat} {xs : List Value} (h : Rd w B (some ⟨b, 0, none⟩) xs) (j : Nat) (v : Value) (hv : xs[j]? = some v) : w.cell? ⟨b, j, none⟩ = some v := by
  have hn : 0 < xs.length := by have := (List.getElem?_eq_some_iff.1 hv).1; omega
  obtain ⟨b', off, e, _, hc⟩ := h hn
  simp only [Option.some.injEq, Addr.mk.injEq] at e
  obtain ⟨rfl, rfl, -⟩ := e
  have := hc j v hv
  rwa [Nat.zero_add] at this
theorem Rd.range {w : World} {B b : Nat} {xs : List Value} (h : Rd w B (some ⟨b, 0, none⟩) xs) : w.rangeAt b 0 xs := fun j v hv => by rw [Nat.zero_add]; exact h.cellAt j v hv
section
open Go.ChangeShapes
theorem weigh_strs {H : Type} {P : Program} (e : TypeId) (s : ByteArray) : ∀ l : List ByteArray, s ∈ l → s.size ∈ DataW.weightsAll P e (strs l : List (DataW H)) := by
  intro l
  induction l with
  | nil => intro h; simp at h
  | cons t l ih =>
    intro h
    show s.size ∈ DataW.weights P e (.lit (.string t.data.toList) : DataW H) ++ DataW.weightsAll P e (strs l : List (DataW H))
    rw [List.mem_append]
    rcases List.mem_cons.1 h with rfl | h
    · left
      simp only [DataW.weights, List.mem_singleton]
      exact Array.length_toList.symm
    · exact .inr (ih h)
theorem sized_strs {H : Type} {P : Program} {ts : List TypeId} {ds : List (DataW H)} (h : (DataW.weightsEach P ts ds).all (· ≤ reachBytes) = true) {j : Nat} {t e : TypeId} {a b : List ByteArray} (ht : ts[j]? = some t) (hd : ds[j]? = some (.slice (strs a) (strs b)))
    (hu : P.underlying t = some (.slice e)) : ∀ s ∈ a ++ b, s.size ≤ 140737488351232 := by
  intro s hs
  have hm : s.size ∈ DataW.weights P t (.slice (strs a) (strs b) : DataW H) := by
    simp only [DataW.weights, hu, List.mem_cons, List.mem_append]
    rcases List.mem_append.1 hs with hs | hs
    · exact .inr (.inl (weigh_strs e s a hs))
    · exact .inr (.inr (weigh_strs e s b hs))
  have := List.all_eq_true.1 h _ (DataW.weights_mem_each ht hd _ hm)
  have h2 := of_decide_eq_true this
  simpa [reachBytes] using h2
end
end Go.Proofs.YtkelfcgomeojeaaDoor
end

section
/- Rows of numbers and strings: what their cells are. -/

namespace Go.Proofs.YtkelfcgomeojeaaDoor
open Go.RowKit
set_option linter.unusedVariables false

theorem own_ex {w : World} {base n size : Nat} {e : TypeId} {v : Value} {xs : List Value} (h : w.ownsRow base e size v n xs) (hn : 0 < n) : ∃ g cap, v = .slice (some ⟨g, 0, none⟩) n cap ∧ base ≤ g := by
  rcases h.2 with ⟨_, h0⟩ | ⟨g, cap, cur, hv, hb, _⟩
  · omega
  · exact ⟨g, cap, hv, hb⟩
theorem info_int : (Tryd.prog.info? 3).map (fun i => (i.zero, i.size, i.bytes)) = some (some (.int .i64 0), 1, 8) := by kernel_rfl
theorem info_str : (Tryd.prog.info? 9).map (fun i => (i.zero, i.size, i.bytes)) = some (some (.string ByteArray.empty), 1, 16) := by kernel_rfl
end Go.Proofs.YtkelfcgomeojeaaDoor
end

section
/- A region that draws its order, where every operation yields one value in every world that is as it was below a block. -/





namespace Go.Proofs.YtkelfcgomeojeaaDoor
open Go.RowKit
set_option linter.unusedVariables false

/-- The worlds that are as w below block B. -/
def BelT (B : Nat) (w : World) : Type := { w' : World // Below B w w' }
def BelT.at {B : Nat} {w : World} (x : BelT B w) : World := x.val
theorem BelT.out {B : Nat} {w : World} (x : BelT B w) : Below B w x.at := x.property
theorem BelT.of {B : Nat} {w w' : World} (h : Below B w w') : ∃ x : BelT B w, w' = x.at := ⟨⟨w', h⟩, rfl⟩
instance {B : Nat} {w : World} : Nonempty (BelT B w) := ⟨⟨w, Below.refl _ _⟩⟩
/-- A region that draws its order, where every operation yields one value in every world that is as it was below B; a callee may make memory. -/
theorem wp_region_below {P : Program} {id : Nat} {Q : Exit → Act → World → Prop} {a : Act} {w : World} {l : List Oper} (B : Nat) (hm : P.follows .mixedOrders = true) (hB : Region.lexB .any l.toArray = true)
    (h : wpQuiet P l.toArray (fun w' => ∃ x : BelT B w, w' = x.at) (fun a' => ∀ w', (∃ x : BelT B w, w' = x.at) → Q .normal a' w') l a) : (Code.region id l.toArray true).wp P Q a w :=
  wp_region_quiet (C := fun w' => ∃ x : BelT B w, w' = x.at) hm hB (BelT.of ⟨rfl, rfl, rfl, Nat.le_refl _, fun _ _ => rfl⟩) (by simpa using h)

end Go.Proofs.YtkelfcgomeojeaaDoor
end

section
/- The contract of the reference's Same. -/



namespace Go.Proofs.YtkelfcgomeojeaaDoor
open Go.RowKit
set_option linter.unusedVariables false

set_option maxHeartbeats 1000000 in
theorem same_any (A A' : Option Addr) (c c' : Nat) (l l' : List UInt8) (w : World) (hr : RdB w w.heap.size A l) (hr' : RdB w w.heap.size A' l') (hm : l.length ≤ maxLen) (hm' : l'.length ≤ maxLen) :
    Calls Tryd.prog 60 #[.slice A l.length c, .slice A' l'.length c'] w (Tells (decide (l = l')) w) := by
  unfold maxLen at hm hm'
  by_cases hl : l.length = l'.length
  · have hne : ((l.length : Int) != (l'.length : Int)) = false := by rw [hl]; simp
    have Hl := Lib.hid hl
    have Hr := Lib.hid hr
    have Hr' := Lib.hid hr'
    clear hl hr hr'
    go_enter Tryd.func60, Tryd.ntmps60
    go_wp2_with fail
    go_loopw [5] (fun i wr => ∃ k : Nat, k ≤ l.length ∧ i = .int .i64 k ∧ l.take k = l'.take k ∧ Below w.heap.size w wr) (fun i _ => l.length - (intOf i).toNat)
    case atStart => exact ⟨0, Nat.zero_le _, rfl, by simp, Below.refl _ _⟩
    case round =>
      obtain ⟨k, hk, rfl, ht, hbel⟩ := hrel
      have Ht := Lib.hid ht
      clear ht
      by_cases hlt : k < l.length
      · have hlt' : k < l'.length := by have := Hl.out; omega
        obtain ⟨b, off, rfl, hb, hcell⟩ := Hr.out (by simp; omega)
        obtain ⟨b', off', rfl, hb', hcell'⟩ := Hr'.out (by simp; omega)
        have hc1 : wr.cell? ⟨b, off + k, none⟩ = some (.int .u8 ((l[k]).toNat : Int)) := (hbel.cell hb).trans (hcell k (bv l[k]) (by simp [hlt]))
        have hc2 : wr.cell? ⟨b', off' + k, none⟩ = some (.int .u8 ((l'[k]).toNat : Int)) := (hbel.cell hb').trans (hcell' k (bv l'[k]) (by simp [hlt']))
        obtain ⟨x, hx⟩ : ∃ x, x = l[k] := ⟨_, rfl⟩
        obtain ⟨y, hy⟩ : ∃ y, y = l'[k] := ⟨_, rfl⟩
        rw [← hx] at hc1
        rw [← hy] at hc2
        have i0 : (0 : Int) ≤ k := by omega
        have i1 : (k : Int) < l.length := by omega
        have i2 : (k : Int) < l'.length := by omega
        have Hx := Lib.hid hx
        have Hy := Lib.hid hy
        clear hcell hcell' hx hy
        by_cases hxy : x = y
        · have hn : ((x.toNat : Int) != (y.toNat : Int)) = false := by rw [hxy]; simp
          have Hxy := Lib.hid hxy
          clear hxy
          go_wp2_with fail
          go_quiet (fail)
          go_wp2_with fail
          go_roundw
          case rel => exact ⟨k + 1, by omega, by go_num, by rw [List.take_succ_eq_append_getElem hlt, List.take_succ_eq_append_getElem hlt', Ht.out, ← Hx.out, ← Hy.out, Hxy.out], below_drewN hbel _⟩
          case measure => simp [intOf]; omega
        · have hn : ((x.toNat : Int) != (y.toNat : Int)) = true := by
            simp
            intro h
            exact hxy (UInt8.toNat_inj.1 (by omega))
          have hd : decide (l = l') = false := by
            simp
            intro h
            apply hxy
            rw [Hx.out, Hy.out]
            subst h
            rfl
          have Hd := Lib.hid hd
          clear hxy hd
          go_wp2_with fail
          go_quiet (fail)
          go_wp2_with fail
          go_ret
          exact ⟨by first | (rw [Hd.out]; done) | (rw [Hd.out]; rfl), below_drewN hbel _⟩
      · obtain rfl : k = l.length := by omega
        have hd : decide (l = l') = true := by
          have := Ht.out
          rw [List.take_length, Hl.out, List.take_length] at this
          simp [this]
        have Hd := Lib.hid hd
        clear hd
        go_wp2_with fail
        go_ret
        exact ⟨by first | (rw [Hd.out]; done) | (rw [Hd.out]; rfl), hbel⟩
  · have hne : ((l.length : Int) != (l'.length : Int)) = true := by simp; omega
    have hd : decide (l = l') = false := by
      simp
      intro h
      exact hl (by rw [h])
    have Hd := Lib.hid hd
    clear hd hl
    go_enter Tryd.func60, Tryd.ntmps60
    go_wp2_with fail
    go_ret
    exact ⟨by first | (rw [Hd.out]; done) | (rw [Hd.out]; rfl), Below.refl _ _⟩

end Go.Proofs.YtkelfcgomeojeaaDoor
end

