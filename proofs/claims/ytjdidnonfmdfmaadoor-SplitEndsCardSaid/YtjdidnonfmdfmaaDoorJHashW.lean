import Derived.Test.YtjdidnonfmdfmaaDoorJAppend
import Derived.Test.YtjdidnonfmdfmaaDoorJHashM
import Derived.Test.YtjdidnonfmdfmaaDoorJWireRd0

section
/- The contract of the reference's Input. -/



namespace Go.Proofs.YtjdidnonfmdfmaaDoor
open Go.RowKit
set_option linter.unusedVariables false
set_option maxRecDepth 100000

theorem inp_len (tag : Int) (parts : List ByteArray) (hn : parts.length ≤ 12) (hs : ∀ s ∈ parts, s.size ≤ 400) (k : Nat) : (pre tag parts k).length ≤ 6000 := by
  have h : ∀ l : List ByteArray, (∀ s ∈ l, s.size ≤ 400) → (l.flatMap encP).length ≤ 409 * l.length := by
    intro l
    induction l with
    | nil => intro _; simp
    | cons s l ih =>
      intro h
      have h1 := h s (by simp)
      have h2 := ih fun t ht => h t (by simp [ht])
      have h3 := M.encI_len_le s.size (M.I64_nat s.size (by omega))
      rw [List.flatMap_cons, List.length_append, List.length_cons]
      have h4 : (encP s).length ≤ 409 := by
        unfold encP M.encB
        rw [List.length_append, sb_len]
        omega
      omega
  have h1 := h (parts.take k) fun s hm => hs s (List.mem_of_mem_take hm)
  have h2 : (parts.take k).length ≤ 12 := by rw [List.length_take]; omega
  unfold pre
  rw [List.length_cons]
  omega

theorem inp_len_upto (tag : Int) (parts : List ByteArray) (hn : parts.length ≤ 12) (hs : ∀ s ∈ parts, s.size ≤ 2000) (k : Nat) : (pre tag parts k).length ≤ 26000 := by
  have h : ∀ l : List ByteArray, (∀ s ∈ l, s.size ≤ 2000) → (l.flatMap encP).length ≤ 2009 * l.length := by
    intro l
    induction l with
    | nil => intro _; simp
    | cons s l ih =>
      intro h
      have h1 := h s (by simp)
      have h2 := ih fun t ht => h t (by simp [ht])
      have h3 := M.encI_len_le s.size (M.I64_nat s.size (by omega))
      rw [List.flatMap_cons, List.length_append, List.length_cons]
      have h4 : (encP s).length ≤ 2009 := by
        unfold encP M.encB
        rw [List.length_append, sb_len]
        omega
      omega
  have h1 := h (parts.take k) fun s hm => hs s (List.mem_of_mem_take hm)
  have h2 : (parts.take k).length ≤ 12 := by rw [List.length_take]; omega
  unfold pre
  rw [List.length_cons]
  omega

set_option maxHeartbeats 2000000 in
theorem input_upto (tag : Int) (A : Option Addr) (cap : Nat) (parts : List ByteArray) (w : World) (hr : Rd w w.heap.size A (parts.map sv)) (hn : parts.length ≤ 12) (hs : ∀ s ∈ parts, s.size ≤ 2000) :
    Calls Tryd.prog 67 #[.int .i64 tag, .slice A parts.length cap] w (Makes (inp tag parts) w) := by
  obtain ⟨i0, hi, hz0, hz1, hz2⟩ := info_parts info_u8
  obtain ⟨z, hz8⟩ : ∃ z, z = tag % 256 := ⟨_, rfl⟩
  have htb : bv (tagB tag) = .int .u8 z := by rw [bv_tag, hz8]
  have hwr : IntKind.u8.wrap tag = z := by rw [IntKind.wrap_u8', hz8]
  obtain ⟨W0, hW0⟩ : ∃ W0, W0 = w.alloc (.cells #[.int .u8 z] 5) := ⟨_, rfl⟩
  have hown0 : W0.ownsRow w.heap.size 5 1 (.slice (some ⟨w.heap.size, 0, none⟩) 1 1) (pre tag parts 0).length ((pre tag parts 0).map bv) := by
    rw [hW0]
    have h := own_new w w.heap.size 1 5 [.int .u8 z] rfl (Nat.le_refl _) (by decide)
    have e1 : (pre tag parts 0).map bv = [.int .u8 z] := by rw [← htb]; rfl
    rw [e1]
    exact h
  have hbel0 : Below w.heap.size w W0 := by rw [hW0]; exact (Below.refl _ _).alloc (Nat.le_refl _) _
  have hlen := inp_len_upto tag parts hn hs
  have hfull := pre_full tag parts
  have Hr := Lib.hid hr
  have Hs := Lib.hid hs
  have HW0 := Lib.hid hW0
  have K0 := Lib.hid (And.intro hown0 hbel0)
  have Hlen := Lib.hid hlen
  have Hfull := Lib.hid hfull
  clear hr hs hz8 htb hW0 hown0 hbel0 hlen hfull
  go_enter Tryd.func67, Tryd.ntmps67
  go_wp2_with fail
  rw [← HW0.out]
  go_loopw [5, 6] (fun x i wr => ∃ k : Nat, k ≤ parts.length ∧ i = .int .i64 k ∧ wr.ownsRow w.heap.size 5 1 x (pre tag parts k).length ((pre tag parts k).map bv) ∧ Below w.heap.size w wr) (fun _ i _ => parts.length - (intOf i).toNat)
  case atStart => exact ⟨0, Nat.zero_le _, rfl, K0.out.1, K0.out.2⟩
  case round =>
    obtain ⟨k, hk, rfl, hown1, hbel1⟩ := hrel
    by_cases hlt : k < parts.length
    · obtain ⟨b, off, rfl, hb, hcell⟩ := Hr.out (by simp; omega)
      have hc1 : wr.cell? ⟨b, off + k, none⟩ = some (.string parts[k]) := (hbel1.cell hb).trans (hcell k (sv parts[k]) (by simp [hlt]))
      have hnext := pre_succ tag parts k hlt
      have hl1 := Hlen.out k
      have hl2 := Hlen.out (k + 1)
      have hsz := Hs.out parts[k] (List.getElem_mem _)
      obtain ⟨s, hse⟩ : ∃ s, s = parts[k] := ⟨_, rfl⟩
      rw [← hse] at hc1 hnext hsz
      have ik0 : (0 : Int) ≤ k := by omega
      have ik1 : (k : Int) < parts.length := by omega
      rw [hnext, List.length_append] at hl2
      have Hnx := Lib.hid hnext
      have HL := Lib.hid (And.intro hl1 hl2)
      clear hcell hse hnext hl1 hl2
      have hBw := hbel1.size
      go_wp2_with fail
      refine (refBytes_any s _ (by omega)).mono ?_
      rintro e w2 ⟨v2, rfl, hown2, hbel2⟩
      have hBw2 := hbel2.size
      obtain ⟨g, cap2, rfl, hg1, hg2, hg3, hg4, hcl⟩ := own_form hown2 (by have := M.encI_pos s.size; unfold M.encB; rw [List.length_append, sb_len]; omega)
      have hown1' := own_below hown1 hbel2 (Nat.le_refl _)
      have hmx : (pre tag parts k).length + (M.encB (sb s)).length ≤ maxLen := by have := HL.out.2; unfold maxLen; unfold encP at this; omega
      have hq6 : (pre tag parts k).length + (M.encB (sb s)).length ≤ 26000 := by have := HL.out.2; unfold encP at this; omega
      have Hcl := Lib.hid hcl
      have hll := own_len hown2
      have Hll := Lib.hid hll
      clear hcl hown2 hll
      go_wp2_with (at_builtin; refine wpList_append_own _ rfl (.tmp 16) (.tmp 21) 52 rfl w.heap.size 5 i0 (.int .u8 0) 1 1 Tryd.underlying52 hi hz0 hz1 hz2 rfl (by decide) _ _ _ rfl hown1' ⟨g, 0, none⟩ (M.encB (sb s)).length cap2 ((M.encB (sb s)).map bv) rfl Hll.out Hcl.out (one_cells _) hmx (by omega) (by omega) ?_; intro v' w3 hown' hgrow _)
      go_roundw
      case rel =>
        refine ⟨k + 1, by omega, by go_num, ?_, (hbel1.trans (hbel2.mono hBw)).grown hgrow (by omega) (fun j hj => (hown1.lt j hj).1)⟩
        rw [Hnx.out, List.length_append, List.map_append]
        exact hown'
      case measure => simp [intOf]; omega
    · obtain rfl : k = parts.length := by omega
      rw [Hfull.out] at hown1
      go_wp2_with fail
      go_ret
      exact ⟨_, rfl, hown1, hbel1⟩
theorem input_any (tag : Int) (A : Option Addr) (cap : Nat) (parts : List ByteArray) (w : World) (hr : Rd w w.heap.size A (parts.map sv)) (hn : parts.length ≤ 12) (hs : ∀ s ∈ parts, s.size ≤ 400) :
    Calls Tryd.prog 67 #[.int .i64 tag, .slice A parts.length cap] w (Makes (inp tag parts) w) :=
  input_upto tag A cap parts w hr hn fun s h => Nat.le_trans (hs s h) (by omega)
end Go.Proofs.YtjdidnonfmdfmaaDoor
end

