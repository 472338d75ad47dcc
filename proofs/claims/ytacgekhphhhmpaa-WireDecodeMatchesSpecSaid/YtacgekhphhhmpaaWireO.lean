/- What comes in: slices of strings and of digests. -/
import Derived.Test.YtacgekhphhhmpaaWireT
import Derived.Deep.Slices
import Derived.SliceStrings
namespace Go.Proofs.Ytacgekhphhhmpaa
open Go.RowKit
set_option linter.unusedVariables false

/-- A slice of strings that came in: nil, or a row of 'cap' cells. -/
def IsStrs (w : World) (a : Option Addr) (len cap : Nat) (ss : List ByteArray) : Prop :=
  (a = none ∧ len = 0 ∧ cap = 0 ∧ ss = []) ∨
  ∃ x, a = some x ∧ len ≤ cap ∧ cap ≤ maxLen ∧ ss.length = cap ∧ ∀ i, i < ss.length → w.cell? (x.add i) = some (.string (ss.getD i ByteArray.empty))
theorem row_strs {w : World} {a : Option Addr} {len cap : Nat} {ss : List ByteArray} (h : IsStrs w a len cap ss) :
    ∃ l : List ByteArray, l.length = len ∧ Rd w w.heap.size a (l.map sv) ∧ len ≤ cap ∧ cap ≤ maxLen ∧ l = ss.take len := by
  rcases h with ⟨rfl, rfl, rfl, rfl⟩ | ⟨x, rfl, hl, hm, hz, hcell⟩
  · exact ⟨[], rfl, Rd.nil, Nat.le_refl _, by decide, rfl⟩
  · refine ⟨ss.take len, by simp; omega, fun hn => ?_, hl, hm, rfl⟩
    have hn' : 0 < ss.length := by simp at hn; omega
    have h0 := hcell 0 hn'
    obtain ⟨b, off, spot⟩ := x
    have hspot : spot = none := by simpa [Addr.add] using World.cell?_spot h0
    subst hspot
    refine ⟨b, off, rfl, ?_, fun j u hu => ?_⟩
    · have := World.block_lt_of_cell? w _ h0
      simpa [add_block] using this
    · have hj := (List.getElem?_eq_some_iff.1 hu).1
      simp at hj
      have hj1 : j < len := by omega
      have hj2 : j < ss.length := by omega
      have hc := hcell j hj2
      rw [Addr.add_mid] at hc
      rw [hc, ← hu]
      simp [hj1, List.getElem?_eq_getElem hj2, sv]

def unbv : Value → UInt8
  | .int _ n => UInt8.ofNat n.toNat
  | _ => 0
theorem unbv_bv (c : UInt8) : unbv (bv c) = c := by simp [unbv, bv]

theorem open_dig {H : Type} {enc : TypeId × Value → H} {W : World} {base : Nat} {spare : Nat → Bool} {held : Bool} {fuel : Nat} {cs : List Value} {x : DataW H × List MemPlace}
    (h : DataW.trod enc Try.prog W base spare held fuel 57 cs = some x) : cs.length = 16 ∧ ∀ i, i < 16 → ∃ c : UInt8, cs[i]? = some (bv c) := by
  obtain ⟨xs, m, -, -, hl, hxl, hx⟩ := DataW.trod_array Try.underlying57 h
  have c5 : Try.prog.cellsOf 5 = 1 := by kernel_rfl
  have c57 : Try.prog.cellsOf 57 = 16 := by kernel_rfl
  rw [c57] at hl
  refine ⟨hl, fun i hi => ?_⟩
  have h1 := hx i hi
  rw [c5, Nat.mul_one, List.getElem?_eq_getElem (by omega)] at h1
  obtain ⟨n, hn, -, hw⟩ := DataW.trod_int Try.underlying5 h1
  have hb := bounds_u8 hw
  refine ⟨UInt8.ofNat n.toNat, ?_⟩
  have h2 : cs[i]? = some (.int .u8 n) := by
    have := congrArg (fun l : List Value => l[0]?) hn
    simpa [List.getElem?_take, List.getElem?_drop] using this
  rw [h2]
  unfold bv
  congr 2
  simp
  omega

theorem open_digs {H : Type} {enc : TypeId × Value → H} {W : World} {base : Nat} {held : Bool} {fuel : Nat} {a : Option Addr} {len cap : Nat} {x : DataW H × List MemPlace}
    (h : DataW.trod enc Try.prog W base (fun _ => true) held fuel 24 [.slice a len cap] = some x) :
    ∃ D : List UInt8, D.length = 16 * len ∧ RdB W W.heap.size a D ∧ len ≤ cap ∧ cap ≤ maxLen ∧ ((cap = 0) ∨ ∃ es rs, x.1 = .slice es rs ∧ es.length + rs.length = cap) := by
  have c57 : Try.prog.cellsOf 57 = 16 := by kernel_rfl
  rcases Deep.open_slice Try.underlying24 h with ⟨hcs, -⟩ | ⟨ad, len', cap', m, n, D, Pl, hcs, hb, hl, hm, hmm, hx, hel⟩
  · simp at hcs
    obtain ⟨rfl, rfl, rfl⟩ := hcs
    exact ⟨[], rfl, Rd.nil, Nat.le_refl _, by decide, .inl rfl⟩
  · simp at hcs
    obtain ⟨rfl, rfl, rfl⟩ := hcs
    simp only [if_true] at hmm
    subst hmm
    rw [c57] at hel
    have cell : ∀ j, j < 16 * m → ∃ c : UInt8, W.cell? (ad.add j) = some (bv c) := by
      intro j hj
      obtain ⟨cs', h1, h2⟩ := hel (j / 16) (by omega)
      obtain ⟨-, -, h3⟩ := World.cells?_some h1
      obtain ⟨-, h4⟩ := open_dig h2
      obtain ⟨c, hc⟩ := h4 (j % 16) (by omega)
      have h5 := h3 (j % 16) (by omega)
      refine ⟨c, ?_⟩
      rw [hc] at h5
      rw [← h5]
      congr 1
      have hj' : j / 16 * 16 + j % 16 = j := by omega
      unfold Addr.add
      by_cases q1 : j / 16 * 16 = 0
      · have : j = j % 16 := by omega
        rw [if_pos q1, ← this]
      · rw [if_neg (by omega), if_neg q1]
        by_cases q2 : j % 16 = 0
        · rw [if_pos q2]; congr 1; omega
        · rw [if_neg q2]; congr 1; simp only []; omega
    refine ⟨(List.range (16 * len)).map fun j => unbv ((W.cell? (ad.add j)).getD undef), by simp, ?_, hl, hm, .inr ⟨_, _, by rw [hx], by simp; omega⟩⟩
    intro hn
    have hn' : 0 < 16 * m := by simp at hn; omega
    obtain ⟨c0, h0⟩ := cell 0 hn'
    obtain ⟨b, off, spot⟩ := ad
    have hspot : spot = none := by simpa [Addr.add] using World.cell?_spot h0
    subst hspot
    refine ⟨b, off, rfl, ?_, fun j u hu => ?_⟩
    · have := World.block_lt_of_cell? W _ h0
      simpa [add_block] using this
    · have hj := (List.getElem?_eq_some_iff.1 hu).1
      simp at hj
      obtain ⟨c, hc⟩ := cell j (by omega)
      rw [Addr.add_mid] at hc
      rw [hc, ← hu]
      simp [hj, Addr.add_mid, hc, unbv_bv]
end Go.Proofs.Ytacgekhphhhmpaa
