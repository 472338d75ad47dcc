/- What comes in: slices of integers, bytes and strings. -/
import Derived.Test.YtkenfgifhebnpaaDoorBase
import Derived.Test.YtkenfgifhebnpaaDoorWireMath
import Derived.ProofKit
import Derived.OpenShut
import Derived.ShutString
import Derived.ChangeOld
import Derived.Deep.Slices
import Derived.SliceStrings
import Derived.SizedLaws
namespace Go.Proofs.YtkenfgifhebnpaaDoor
open Go.RowKit
set_option linter.unusedVariables false

theorem add_block (a : Addr) (n : Nat) : (a.add n).block = a.block := by unfold Addr.add; split <;> rfl
/-- A slice of integers that came in: nil, or a row of 'cap' cells. -/
def IsRow (k : IntKind) (w : World) (a : Option Addr) (len cap : Nat) (zs : List Int) : Prop :=
  (a = none ∧ len = 0 ∧ cap = 0 ∧ zs = []) ∨
  ∃ x, a = some x ∧ len ≤ cap ∧ cap ≤ maxLen ∧ zs.length = cap ∧ (∀ i, i < zs.length → w.cell? (x.add i) = some (.int k (zs.getD i 0))) ∧ ∀ n ∈ zs, (Lit.int k n).wf = true

theorem row_rd {k : IntKind} {w : World} {a : Option Addr} {len cap : Nat} {zs : List Int} (h : IsRow k w a len cap zs) :
    ∃ l : List Int, l.length = len ∧ Rd w w.heap.size a (l.map (Value.int k)) ∧ len ≤ cap ∧ cap ≤ maxLen ∧ ∀ n ∈ l, (Lit.int k n).wf = true := by
  rcases h with ⟨rfl, rfl, rfl, rfl⟩ | ⟨x, rfl, hl, hm, hz, hcell, hwf⟩
  · exact ⟨[], rfl, Rd.nil, Nat.le_refl _, by decide, by simp⟩
  · refine ⟨zs.take len, by simp; omega, fun hn => ?_, hl, hm, fun n hn => hwf n (List.mem_of_mem_take hn)⟩
    have hn' : 0 < zs.length := by simp at hn; omega
    have h0 := hcell 0 hn'
    obtain ⟨b, off, spot⟩ := x
    have hspot : spot = none := by simpa [Addr.add] using World.cell?_spot h0
    subst hspot
    refine ⟨b, off, rfl, ?_, fun j u hu => ?_⟩
    · have := World.block_lt_of_cell? w _ h0
      simpa [add_block] using this
    · have hj := (List.getElem?_eq_some_iff.1 hu).1
      simp at hj
      have hc := hcell j (by omega)
      rw [Addr.add_mid] at hc
      have hj1 : j < len := by omega
      have hj2 : j < zs.length := by omega
      rw [hc, ← hu]
      simp [hj1, List.getElem?_eq_getElem hj2]

theorem nums_u8 (l : List Int) (h : ∀ n ∈ l, (Lit.int .u8 n).wf = true) : ∃ q : List UInt8, l.map (Value.int .u8) = q.map bv := by
  induction l with
  | nil => exact ⟨[], rfl⟩
  | cons n t ih =>
    obtain ⟨q, hq⟩ := ih (fun m hm => h m (by simp [hm]))
    have hb := bounds_u8 (h n (by simp))
    refine ⟨UInt8.ofNat n.toNat :: q, ?_⟩
    rw [List.map_cons, List.map_cons, hq]
    congr 1
    unfold bv
    congr 1
    simp
    omega
theorem row_bytes {w : World} {a : Option Addr} {len cap : Nat} {zs : List Int} (h : IsRow .u8 w a len cap zs) : ∃ q : List UInt8, q.length = len ∧ RdB w w.heap.size a q ∧ len ≤ cap ∧ cap ≤ maxLen := by
  obtain ⟨l, h1, h2, h3, h4, h5⟩ := row_rd h
  obtain ⟨q, hq⟩ := nums_u8 l h5
  refine ⟨q, ?_, ?_, h3, h4⟩
  · have := congrArg List.length hq
    simp at this
    omega
  · unfold RdB; rw [← hq]; exact h2
theorem row_ints {w : World} {a : Option Addr} {len cap : Nat} {zs : List Int} (h : IsRow .i64 w a len cap zs) : ∃ l : List Int, l.length = len ∧ Rd w w.heap.size a (l.map iv) ∧ len ≤ cap ∧ cap ≤ maxLen ∧ ∀ n ∈ l, M.I64 n := by
  obtain ⟨l, h1, h2, h3, h4, h5⟩ := row_rd h
  exact ⟨l, h1, h2, h3, h4, fun n hn => bounds_i64 (h5 n hn)⟩
theorem int_I64 {n : Int} (h : (Lit.int .i64 n).wf = true) : M.I64 n := bounds_i64 h

/-- A slice of strings that came in: nil, or a row of 'cap' cells. -/
def IsStrs (w : World) (a : Option Addr) (len cap : Nat) (ss : List ByteArray) : Prop :=
  (a = none ∧ len = 0 ∧ cap = 0 ∧ ss = []) ∨
  ∃ x, a = some x ∧ len ≤ cap ∧ cap ≤ maxLen ∧ ss.length = cap ∧ ∀ i, i < ss.length → w.cell? (x.add i) = some (.string (ss.getD i ByteArray.empty))
theorem row_strs {w : World} {a : Option Addr} {len cap : Nat} {ss : List ByteArray} (h : IsStrs w a len cap ss) :
    ∃ l : List ByteArray, l.length = len ∧ Rd w w.heap.size a (l.map sv) ∧ len ≤ cap ∧ cap ≤ maxLen ∧ l = ss.take len := by
  rcases h with ⟨rfl, rfl, rfl, rfl⟩ | ⟨x, rfl, hl, hm, hz, hcell⟩
  · exact ⟨[], rfl, Rd.nil, Nat.le_refl _, by decide, rfl⟩
  · refine ⟨ss.take len, by simp; omega, fun hn => ?_, hl, hm, rfl⟩
    have hn' : 0 < ss.length := by simp at hn; omega
    have h0 := hcell 0 hn'
    obtain ⟨b, off, spot⟩ := x
    have hspot : spot = none := by simpa [Addr.add] using World.cell?_spot h0
    subst hspot
    refine ⟨b, off, rfl, ?_, fun j u hu => ?_⟩
    · have := World.block_lt_of_cell? w _ h0
      simpa [add_block] using this
    · have hj := (List.getElem?_eq_some_iff.1 hu).1
      simp at hj
      have hj1 : j < len := by omega
      have hj2 : j < ss.length := by omega
      have hc := hcell j hj2
      rw [Addr.add_mid] at hc
      rw [hc, ← hu]
      simp [hj1, List.getElem?_eq_getElem hj2, sv]

def unbv : Value → UInt8
  | .int _ n => UInt8.ofNat n.toNat
  | _ => 0
theorem unbv_bv (c : UInt8) : unbv (bv c) = c := by simp [unbv, bv]

theorem arr_bytes {H : Type} {enc : TypeId × Value → H} {P : Program} {W : World} {base n : Nat} {spare : Nat → Bool} {held : Bool} {fuel : Nat} {t e : TypeId} {cs : List Value} {x : DataW H × List MemPlace}
    (ht : P.underlying t = some (.array n e)) (he : P.underlying e = some (.int .u8)) (hc : P.cellsOf e = 1) (hct : P.cellsOf t = n) (h : DataW.trod enc P W base spare held fuel t cs = some x) :
    ∃ l : List UInt8, l.length = n ∧ cs = l.map bv := by
  obtain ⟨xs, m, -, -, hl, hxl, hx⟩ := DataW.trod_array ht h
  rw [hct] at hl
  have key : ∀ i, i < n → ∃ c : UInt8, cs[i]? = some (bv c) := by
    intro i hi
    have h1 := hx i hi
    rw [hc, Nat.mul_one, List.getElem?_eq_getElem (by omega)] at h1
    obtain ⟨z, hz, -, hw⟩ := DataW.trod_int he h1
    have hb := bounds_u8 hw
    refine ⟨UInt8.ofNat z.toNat, ?_⟩
    have h2 : cs[i]? = some (.int .u8 z) := by
      have := congrArg (fun l : List Value => l[0]?) hz
      simpa [List.getElem?_take, List.getElem?_drop] using this
    rw [h2]
    unfold bv
    congr 2
    simp
    omega
  refine ⟨cs.map unbv, by rw [List.length_map, hl], ?_⟩
  apply List.ext_getElem?
  intro i
  by_cases hi : i < n
  · obtain ⟨c, h3⟩ := key i hi
    rw [List.map_map, List.getElem?_map, h3]
    simp [unbv_bv]
  · rw [List.getElem?_eq_none (by omega), List.getElem?_eq_none (by simp; omega)]
/-- An array of bytes by value. -/
theorem open_arr {H : Type} {enc : TypeId × Value → H} {P : Program} {W : World} {r : Reach} {base b0 n : Nat} {spare : Nat → Bool} {held : Bool} {t e : TypeId} {v : Value} {d : DataW H} {ps : List MemPlace}
    (ht : P.underlying t = some (.array n e)) (he : P.underlying e = some (.int .u8)) (hc : P.cellsOf e = 1) (hct : P.cellsOf t = n) (hval : Value.okWide P W r b0 t v) (hd : DataW.Trod enc P W base spare held t v d ps) :
    ∃ l : List UInt8, l.length = n ∧ v = .agg (l.map bv).toArray := by
  simp only [Value.okWide, ht] at hval
  obtain ⟨cs, rfl, -, -⟩ := hval
  obtain ⟨fuel, hf⟩ := hd
  obtain ⟨l, h1, h2⟩ := arr_bytes ht he hc hct hf
  refine ⟨l, h1, ?_⟩
  have h3 : cs.toList = l.map bv := by simpa [Value.cells] using h2
  rw [← h3]
/-- Rows in memory. -/
def Mem (W : World) (ps : List (Option Addr × List Value)) : Prop := ∀ p ∈ ps, Rd W W.heap.size p.1 p.2
theorem Mem.step {W W' : World} {ps : List (Option Addr × List Value)} (h : Mem W ps) (hb : Below W.heap.size W W') : Mem W' ps := fun p hp => ((h p hp).below hb).more hb.size
theorem Mem.one {W : World} {A : Option Addr} {l : List Value} (h : Rd W W.heap.size A l) : Mem W [(A, l)] := fun p hp => by
  rw [List.mem_singleton.1 hp]; exact h
theorem Mem.add {W : World} {ps : List (Option Addr × List Value)} {A : Option Addr} {l : List Value} (h : Mem W ps) (hr : Rd W W.heap.size A l) : Mem W ((A, l) :: ps) := fun p hp => by
  rcases List.mem_cons.1 hp with rfl | hp
  · exact hr
  · exact h p hp
theorem Mem.get {W : World} {ps : List (Option Addr × List Value)} (h : Mem W ps) (A : Option Addr) (l : List Value) (hp : (A, l) ∈ ps) : Rd W W.heap.size A l := h _ hp

theorem Rd.cellAt {w : World} {B b : Nat} {xs : List Value} (h : Rd w B (some ⟨b, 0, none⟩) xs) (j : Nat) (v : Value) (hv : xs[j]? = some v) : w.cell? ⟨b, j, none⟩ = some v := by
  have hn : 0 < xs.length := by have := (List.getElem?_eq_some_iff.1 hv).1; omega
  obtain ⟨b', off, e, _, hc⟩ := h hn
  simp only [Option.some.injEq, Addr.mk.injEq] at e
  obtain ⟨rfl, rfl, -⟩ := e
  have := hc j v hv
  rwa [Nat.zero_add] at this
theorem Rd.range {w : World} {B b : Nat} {xs : List Value} (h : Rd w B (some ⟨b, 0, none⟩) xs) : w.rangeAt b 0 xs := fun j v hv => by rw [Nat.zero_add]; exact h.cellAt j v hv
section
open Go.ChangeShapes
theorem weigh_strs {H : Type} {P : Program} (e : TypeId) (s : ByteArray) : ∀ l : List ByteArray, s ∈ l → s.size ∈ DataW.weightsAll P e (strs l : List (DataW H)) := by
  intro l
  induction l with
  | nil => intro h; simp at h
  | cons t l ih =>
    intro h
    show s.size ∈ DataW.weights P e (.lit (.string t.data.toList) : DataW H) ++ DataW.weightsAll P e (strs l : List (DataW H))
    rw [List.mem_append]
    rcases List.mem_cons.1 h with rfl | h
    · left
      simp only [DataW.weights, List.mem_singleton]
      exact Array.length_toList.symm
    · exact .inr (ih h)
theorem sized_strs {H : Type} {P : Program} {ts : List TypeId} {ds : List (DataW H)} (h : (DataW.weightsEach P ts ds).all (· ≤ reachBytes) = true) {j : Nat} {t e : TypeId} {a b : List ByteArray} (ht : ts[j]? = some t) (hd : ds[j]? = some (.slice (strs a) (strs b)))
    (hu : P.underlying t = some (.slice e)) : ∀ s ∈ a ++ b, s.size ≤ 140737488351232 := by
  intro s hs
  have hm : s.size ∈ DataW.weights P t (.slice (strs a) (strs b) : DataW H) := by
    simp only [DataW.weights, hu, List.mem_cons, List.mem_append]
    rcases List.mem_append.1 hs with hs | hs
    · exact .inr (.inl (weigh_strs e s a hs))
    · exact .inr (.inr (weigh_strs e s b hs))
  have := List.all_eq_true.1 h _ (DataW.weights_mem_each ht hd _ hm)
  have h2 := of_decide_eq_true this
  simpa [reachBytes] using h2
end
end Go.Proofs.YtkenfgifhebnpaaDoor
