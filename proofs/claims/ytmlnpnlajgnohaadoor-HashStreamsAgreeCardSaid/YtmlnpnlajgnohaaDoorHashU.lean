/- The walk of HashMacKeys. -/
import Derived.Test.YtmlnpnlajgnohaaDoorHashS
namespace Go.Proofs.YtmlnpnlajgnohaaDoor
open Go.RowKit
set_option linter.unusedVariables false

/-- A text's bytes in a new row, whatever its place. -/
theorem conv_rd (W : World) (s : ByteArray) : ∃ W' A c, (convert 9 22 (.string s)).run Tryd.prog W = .ok (.slice A s.size c) W' ∧ RdB W' W'.heap.size A (sb s) ∧ Below W.heap.size W W' := by
  obtain ⟨W1, c1, hcv, hcell, hb1⟩ := conv_str W s
  refine ⟨W1, _, c1, hcv, fun h0 => ?_, hb1⟩
  have hs : 0 < s.size := by rw [List.length_map, sb_len] at h0; exact h0
  have hlt : W.heap.size < W1.heap.size := by
    by_cases h : W1.heap.size ≤ W.heap.size
    · exfalso
      have h1 : ((sb s).map bv)[0]? = some (((sb s).map bv)[0]'(by rw [List.length_map, sb_len]; omega)) := List.getElem?_eq_getElem _
      have := block_lt_of_cell (hcell 0 _ h1)
      simp [Addr.add] at this
      omega
    · omega
  exact ⟨W.heap.size, 0, rfl, hlt, fun j u hu => by
    have := hcell j u hu
    rwa [Addr.add_mid] at this⟩
/-- The same, with what is known of its capacity. -/
theorem conv_rdc (W : World) (s : ByteArray) (hs : s.size ≤ maxLen) : ∃ W' A c, (convert 9 22 (.string s)).run Tryd.prog W = .ok (.slice A s.size c) W' ∧ RdB W' W'.heap.size A (sb s) ∧ s.size ≤ c ∧ c ≤ maxLen ∧ Below W.heap.size W W' := by
  obtain ⟨W', A, c, h1, h2, h3⟩ := conv_rd W s
  have h := h1.symm.trans (Lib.run_convert_string_bytes W _ _ 5 s Tryd.underlying9 Tryd.underlying22 Tryd.underlying5)
  injection h with e1 e2
  injection e1 with e3 e4 e5
  refine ⟨W', A, c, h1, h2, ?_, ?_, h3⟩
  · rw [e5]; exact grownCap_ge W s.size 0 _
  · rw [e5]; exact grownCap_le_maxLen W s.size 0 _ hs
theorem mac_long (k t : List UInt8) (h : 64 < k.length) : mac (H.sha k) t = mac k t := by
  have h1 : macKey k = H.sha k := by unfold macKey; rw [if_pos h]
  have h2 : macKey (H.sha k) = H.sha k := by unfold macKey; rw [if_neg (by rw [H.sha_len]; omega)]
  unfold mac
  rw [h1, h2]
theorem mac_zero (k t : List UInt8) (h : k.length < 64) : mac (k ++ [0]) t = mac k t := by
  have h1 : macKey k = k := by unfold macKey; rw [if_neg (by omega)]
  have h2 : macKey (k ++ [0]) = k ++ [0] := by unfold macKey; rw [if_neg (by simp; omega)]
  have h3 : ∀ c, padK (k ++ [0]) c = padK k c := fun c => by
    unfold padK H.zeros
    have e : ([0] : List UInt8) ++ List.replicate (64 - (k ++ [0]).length) 0 = List.replicate (64 - k.length) 0 := by
      rw [show ([0] : List UInt8) = List.replicate 1 0 from rfl, List.replicate_append_replicate]
      congr 1
      simp
      omega
    rw [List.append_assoc, e]
  unfold mac
  rw [h1, h2, h3, h3]
theorem sb_append (a b : ByteArray) : sb (a ++ b) = sb a ++ sb b := by simp [sb]
theorem mac_to (k t : ByteArray) (m : ByteArray) (W : World) (hm : m = bs (mac (sb k) (sb t))) (hk : k.size ≤ 1000) (ht : t.size ≤ 1000) (hT : HTab W) :
    Calls Tryd.prog 18 #[.string k, .string t] W fun e w' => e = .returned (.string m) ∧ Below W.heap.size W w' := by
  subst hm
  exact mac_any k t W (by omega) (by omega) hT

set_option maxHeartbeats 4000000 in
set_option maxRecDepth 100000 in
theorem keys_walk (a b : ByteArray) (W : World) (hT : HTab W) : Calls Tryd.prog 6 #[.string a, .string b] W (Tells true W) := by
  by_cases ha : 400 < a.size
  · have hd : decide ((400 : Int) < a.size) = true := by simp; omega
    have hd' : (400 : Int) < a.size := by omega
    clear ha
    go_enter Tryd.func6, Tryd.ntmps6
    go_wp2_with fail
    refine (sanity_any W hT).mono ?_
    rintro e w1 ⟨rfl, hb1⟩
    clear hT
    go_wp2_with fail
    go_ret
    exact ⟨rfl, hb1⟩
  by_cases hb : 400 < b.size
  · have hd : decide ((400 : Int) < a.size) = false := by simp; omega
    have hd' : (a.size : Int) ≤ 400 := by omega
    have hd2 : decide ((400 : Int) < b.size) = true := by simp; omega
    have hd2' : (400 : Int) < b.size := by omega
    clear ha hb
    go_enter Tryd.func6, Tryd.ntmps6
    go_wp2_with fail
    refine (sanity_any W hT).mono ?_
    rintro e w1 ⟨rfl, hb1⟩
    clear hT
    go_wp2_with fail
    go_ret
    exact ⟨rfl, hb1⟩
  have hd : decide ((400 : Int) < a.size) = false := by simp; omega
  have hd' : (a.size : Int) ≤ 400 := by omega
  have hd2 : decide ((400 : Int) < b.size) = false := by simp; omega
  have hd2' : (b.size : Int) ≤ 400 := by omega
  have hs := Lib.hid (And.intro (show a.size ≤ 400 by omega) (show b.size ≤ 400 by omega))
  have HT := Lib.hid hT
  obtain ⟨m, hm⟩ : ∃ m, m = bs (mac (sb a) (sb b)) := ⟨_, rfl⟩
  have hms : m.size = 32 := by rw [hm, bbytes_size, mac_len]
  have Hm := Lib.hid hm
  clear ha hb hm
  go_enter Tryd.func6, Tryd.ntmps6
  go_wp2_with fail
  refine (sanity_any W hT).mono ?_
  rintro e w1 ⟨rfl, hb1⟩
  have HT1 := Lib.hid (HT.out.next hb1)
  clear hT
  go_wp2_with fail
  refine (mac_to a b m w1 Hm.out (by have := hs.out; omega) (by have := hs.out; omega) HT1.out).mono ?_
  rintro e w2 ⟨rfl, hb'⟩
  have hb2 := hb1.trans (hb'.mono hb1.size)
  have HT2 := Lib.hid (HT1.out.next hb')
  clear hb1 hb'
  by_cases hl : 64 < a.size
  · have hc1 : decide ((64 : Int) < a.size) = true := by simp; omega
    have hc1' : (64 : Int) < a.size := by omega
    obtain ⟨W1, A, c1, hcv, hr, hbc⟩ := conv_rd w2 a
    obtain ⟨R, hR⟩ : ∃ R, R = (H.sha (sb a)).map bv := ⟨_, rfl⟩
    have hsum := hsum_any A c1 (sb a) W1 hr (by rw [sb_len]; have := hs.out; omega) (HT2.out.next hbc)
    rw [sb_len, ← hR] at hsum
    obtain ⟨q, hq⟩ : ∃ q, q = bs (H.sha (sb a)) := ⟨_, rfl⟩
    have hml : m = bs (mac (sb q) (sb b)) := by rw [Hm.out, hq, sb_bs, mac_long _ _ (by rw [sb_len]; exact hl)]
    have hqs : q.size = 32 := by rw [hq, bbytes_size, H.sha_len]
    have Hsum := Lib.hid hsum
    have HR := Lib.hid hR
    have Hq := Lib.hid hq
    have Hml := Lib.hid hml
    have Hqs := Lib.hid hqs
    clear hl hr hR hsum hq hml hqs
    go_wp2_with fail
    refine Hsum.out.mono ?_
    rintro e w3 ⟨rfl, hb'⟩
    have hb3 := hb2.trans ((hbc.trans (hb'.mono hbc.size)).mono hb2.size)
    have HT3 := Lib.hid ((HT2.out.next hbc).next hb')
    clear hb' hcv hbc hb2 Hsum
    rw [HR.out]
    go_wp2_with fail
    refine (bytes32_any (H.sha (sb a)) w3 (H.sha_len _)).mono ?_
    rw [← Hq.out]
    rintro e w4 ⟨rfl, hb'⟩
    have hb4 := hb3.trans (hb'.mono hb3.size)
    have HT4 := Lib.hid (HT3.out.next hb')
    clear hb3 hb'
    go_wp2_with fail
    refine (mac_to q b m w4 Hml.out (by have := Hqs.out; omega) (by have := hs.out; omega) HT4.out).mono ?_
    rintro e w5 ⟨rfl, hb'⟩
    have hb5 := Lib.hid (hb4.trans (hb'.mono hb4.size))
    clear hb4 hb'
    go_wp2_with fail
    go_ret
    exact ⟨rfl, hb5.out⟩
  · have hc1 : decide ((64 : Int) < a.size) = false := by simp; omega
    have hc1' : (a.size : Int) ≤ 64 := by omega
    by_cases hl2 : a.size < 64
    · have hc2 : decide ((a.size : Int) < 64) = true := by simp; omega
      have hc2' : (a.size : Int) < 64 := by omega
      have hml : m = bs (mac (sb (a ++ ByteArray.mk #[0])) (sb b)) := by rw [Hm.out, sb_append, show sb (ByteArray.mk #[0]) = [0] from rfl, mac_zero _ _ (by rw [sb_len]; exact hl2)]
      have hqs : (a ++ ByteArray.mk #[0]).size ≤ 1000 := by rw [← sb_len, sb_append, List.length_append, sb_len]; show a.size + 1 ≤ 1000; omega
      have Hml := Lib.hid hml
      have Hqs := Lib.hid hqs
      clear hl hl2 hml hqs
      go_wp2_with fail
      refine (mac_to _ b m w2 Hml.out Hqs.out (by have := hs.out; omega) HT2.out).mono ?_
      rintro e w5 ⟨rfl, hb'⟩
      have hb5 := Lib.hid (hb2.trans (hb'.mono hb2.size))
      clear hb2 hb'
      go_wp2_with fail
      go_ret
      exact ⟨rfl, hb5.out⟩
    · have hc2 : decide ((a.size : Int) < 64) = false := by simp; omega
      have hc2' : (64 : Int) ≤ a.size := by omega
      clear hl hl2
      go_wp2_with fail
      go_ret
      exact ⟨rfl, hb2⟩
end Go.Proofs.YtmlnpnlajgnohaaDoor
