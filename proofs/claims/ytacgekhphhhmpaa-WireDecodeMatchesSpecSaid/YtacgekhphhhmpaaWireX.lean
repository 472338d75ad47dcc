/- The walk of the statement WireCanonical. -/
import Derived.Test.YtacgekhphhhmpaaWireT
import Derived.Test.YtacgekhphhhmpaaWireMathD
namespace Go.Proofs.Ytacgekhphhhmpaa
open Go.RowKit
set_option linter.unusedVariables false

theorem Rd.head {w : World} {B : Nat} {A : Option Addr} {xs : List Value} (h : Rd w B A xs) (n : Nat) : Rd w B A (xs.take n) := fun hn => by
  obtain ⟨b, off, e, hb, hc⟩ := h (by simp at hn; omega)
  refine ⟨b, off, e, hb, fun j u hu => hc j u ?_⟩
  rw [List.getElem?_take] at hu
  split at hu
  · exact hu
  · cases hu

set_option maxHeartbeats 1000000 in
theorem is_any (Bp : Nat) (A Ac : Option Addr) (cap cc : Nat) (l lc : List UInt8) (u e : Nat) (w : World) (hbox : w.cell? ⟨Bp, 0, none⟩ = some (.slice A l.length cap)) (hr : RdB w w.heap.size A l) (hc : l.length ≤ cap) (hl : l.length ≤ 2000)
    (hrc : RdB w w.heap.size Ac lc) (hlc : lc.length ≤ 1000000000) (hu : u ≤ 1000000000) (hcond : e ≠ 0 ∨ (u ≤ l.length ∧ lc = l.take u)) :
    Calls Try.prog 37 #[.slice Ac lc.length cc, .int .i64 u, .int .i64 e, .pointer (some ⟨Bp, 0, none⟩)] w (Tells true w) := by
  by_cases he : e = 0
  · obtain ⟨h1, h2⟩ := hcond.resolve_left (fun h => h he)
    have he' : ((e : Int) != 0) = false := by rw [he]; rfl
    have hu' : (u : Int) ≤ l.length := by omega
    have hpart : RdB w w.heap.size A lc := by
      rw [h2]
      unfold RdB
      rw [List.map_take]
      exact Rd.head hr u
    have hlen : lc.length = u := by rw [h2]; simp; omega
    rw [hlen]
    have hsame := same_any Ac A cc cap lc lc w hrc hpart (by unfold maxLen; omega) (by unfold maxLen; omega)
    rw [hlen, show decide (lc = lc) = true from by simp] at hsame
    have Hsame := Lib.hid hsame
    clear hsame hpart hr hrc h2 hcond he hlen
    go_enter Try.func37, Try.ntmps37
    go_wp2_with fail
    rw [show (max 0 (min (u : Int) (l.length : Int))).toNat = u from by omega]
    refine Hsame.out.mono ?_
    rintro e' w1 ⟨rfl, hb⟩
    go_wp2_with fail
    go_ret
    exact ⟨rfl, hb⟩
  · have he' : ((e : Int) != 0) = true := by simp; omega
    clear hcond he hr hrc
    go_enter Try.func37, Try.ntmps37
    go_wp2_with fail
    go_ret
    exact ⟨rfl, Below.refl _ _⟩

theorem decN_len {α : Type} (g : List UInt8 → α × Nat × Nat) : ∀ (k : Nat) (q : List UInt8), (M.decN g k q).1.length ≤ k := by
  intro k
  induction k with
  | zero => intro q; simp [M.decN]
  | succ k ih =>
    intro q
    by_cases h1 : (g q).2.2 = 0
    · rw [M.decN_ok g k q h1]
      unfold M.comb
      split
      · simp
      · have := ih (q.drop (g q).2.1)
        simp; omega
    · rw [M.decN_err g k q h1]
      simp
theorem getLs_len {α : Type} (g : List UInt8 → α × Nat × Nat) (size : Nat) (l : List UInt8) (hs : 1 ≤ size) : (M.getLs g size l).1.length ≤ l.length := by
  by_cases h : (M.getLs g size l).2.2 = 0
  · obtain ⟨n, -, -, p3, -, p5, -⟩ := M.getLs_parts g size l hs h
    rw [p5]
    have h1 := decN_len g n (l.drop (M.getI l).2.1)
    have h2 : n * 1 ≤ n * size := Nat.mul_le_mul_left _ hs
    omega
  · rw [(M.getLs_zero g size l h).1]; simp
theorem getLs_used {α : Type} (g : List UInt8 → α × Nat × Nat) (size : Nat) (l : List UInt8) (h : (M.getLs g size l).2.2 ≠ 0) : (M.getLs g size l).2.1 = 0 := (M.getLs_zero g size l h).2

theorem decN_dig : ∀ (k : Nat) (q : List UInt8), 16 * k ≤ q.length → (M.decN gD k q).2.2 = 0 ∧ (M.decN gD k q).2.1 = 16 * k ∧ (M.decN gD k q).1.flatten = q.take (16 * k) ∧ (M.decN gD k q).1.length = k := by
  intro k
  induction k with
  | zero => intro q _; simp [M.decN]
  | succ k ih =>
    intro q h
    have hpad : pad q = q.take 16 := by unfold pad; simp; omega
    obtain ⟨i1, i2, i3, i4⟩ := ih (q.drop 16) (by simp; omega)
    have hu : (gD q).2.1 = 16 := by show min q.length 16 = 16; omega
    rw [M.decN_ok gD k q rfl, hu]
    unfold M.comb
    rw [if_neg (by omega)]
    refine ⟨rfl, by show 16 + _ = _; omega, ?_, by show ([(gD q).1] ++ _).length = _; simp [i4]⟩
    show ([pad q] ++ _).flatten = _
    rw [List.flatten_append, i3, hpad, show 16 * (k + 1) = 16 + 16 * k from by omega, List.take_add]
    simp
theorem canon_gS : M.Canon gS encS := fun q h => by
  obtain ⟨h1, h2⟩ := M.getB_ok q h
  refine ⟨h1, ?_⟩
  show q.take (M.getB q).2.1 = M.encB (sb (bs (M.getB q).1))
  rw [sb_bs, h2]
theorem canon_digs (l : List UInt8) (h : (M.getLs gD 16 l).2.2 = 0) : (M.getLs gD 16 l).2.1 ≤ l.length ∧ encD (M.getLs gD 16 l).1.length (M.getLs gD 16 l).1.flatten = l.take (M.getLs gD 16 l).2.1 := by
  obtain ⟨n, p1, p2, p3, p4, p5, p6⟩ := M.getLs_parts gD 16 l (by omega) h
  obtain ⟨-, u1, u2, u3⟩ := M.getI_ok l p1
  obtain ⟨d1, d2, d3, d4⟩ := decN_dig n (l.drop (M.getI l).2.1) (by simp; omega)
  rw [p5, p6, d2, d3, d4]
  refine ⟨by omega, ?_⟩
  rw [M.take_add_drop, u2, p2]
  rfl
theorem flat_len16 (L : List (List UInt8)) (h : ∀ a ∈ L, a.length = 16) : L.flatten.length = 16 * L.length := by
  induction L with
  | nil => rfl
  | cons a t ih =>
    have h1 := h a (by simp)
    have h2 := ih (fun b hb => h b (by simp [hb]))
    rw [List.flatten_cons, List.length_append, List.length_cons]; omega
end Go.Proofs.Ytacgekhphhhmpaa
