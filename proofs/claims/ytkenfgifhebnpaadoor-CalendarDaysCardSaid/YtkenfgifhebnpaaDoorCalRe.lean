/- The contracts of the reference's number and Parse. -/
import Derived.Test.YtkenfgifhebnpaaDoorCalRc
import Derived.Test.YtkenfgifhebnpaaDoorRatioText
import Derived.Test.YtkenfgifhebnpaaDoorFacts
namespace Go.Proofs.YtkenfgifhebnpaaDoor
open Go.RowKit
set_option linter.unusedVariables false
set_option maxRecDepth 100000

/-- The number of decimal digits; -1: they are none. -/
def numb (l : List UInt8) : Int := if ∀ c ∈ l, Rt.Dig c then (Rt.val10 l : Int) else -1
theorem sbAt (s : ByteArray) (k : Nat) (h : k < s.size) : (sb s).getD k 0 = s[k] := by
  have h2 : k < (sb s).length := by rw [sb_len]; exact h
  rw [List.getD_eq_getElem?_getD, List.getElem?_eq_getElem h2]
  rfl
theorem takeNext {l : List UInt8} {i : Nat} (hi : i < l.length) : l.take (i + 1) = l.take i ++ [l.getD i 0] := by
  rw [List.take_add_one, List.getD_eq_getElem?_getD, List.getElem?_eq_getElem hi]; simp

set_option maxHeartbeats 4000000 in
theorem number_any (s : ByteArray) (w : World) (hs : s.size ≤ 12) : Calls Tryd.prog 48 #[.string s] w fun e w' => e = .returned (.int .i64 (numb (sb s))) ∧ w' = w := by
  obtain ⟨u, hu⟩ : ∃ u, u = numb (sb s) := ⟨_, rfl⟩
  rw [← hu]
  have HU := Lib.hid hu
  clear hu
  go_enter Tryd.func48, Tryd.ntmps48
  go_wp2_with fail
  go_loopw [3, 4] (fun n i wr => ∃ k v : Nat, k ≤ s.size ∧ i = .int .i64 k ∧ n = .int .i64 v ∧ v = Rt.val10 ((sb s).take k) ∧ (∀ c ∈ (sb s).take k, Rt.Dig c) ∧ w = wr) (fun _ i _ => s.size - (intOf i).toNat)
  case atStart => exact ⟨0, 0, by omega, rfl, rfl, rfl, by simp, rfl⟩
  case round =>
    obtain ⟨k, v, hk, rfl, rfl, hv, hd, rfl⟩ := hrel
    have HV := Lib.hid (And.intro hv hd)
    clear hv hd
    by_cases hlt : k < s.size
    · have i1 : (k : Int) < s.size := by omega
      have i0 : (0 : Int) ≤ k := by omega
      have hat := sbAt s k hlt
      have hll : k < (sb s).length := by rw [sb_len]; exact hlt
      have bad : ¬ Rt.Dig (s[k]'hlt) → u = -1 := fun h => by
        rw [HU.out]
        unfold numb
        rw [if_neg]
        intro hc
        apply h
        rw [← hat, List.getD_eq_getElem?_getD, List.getElem?_eq_getElem hll]
        exact hc _ (List.getElem_mem hll)
      unfold Rt.Dig at bad
      have HB := Lib.hid bad
      have HA := Lib.hid (And.intro hat hll)
      clear bad hat hll
      by_cases x1 : ((s[k]'hlt).toNat : Int) < 48
      · obtain rfl := HB.out (by omega)
        go_wp2_with fail
        go_ret
        exact ⟨rfl, rfl⟩
      · by_cases x2 : (57 : Int) < (s[k]'hlt).toNat
        · obtain rfl := HB.out (by omega)
          go_wp2_with fail
          go_ret
          exact ⟨rfl, rfl⟩
        · go_wp2_with fail
          have hv := HV.out.1
          have hd := HV.out.2
          have hvb : v < 1000000000000 := by
            rw [hv]
            have h1 := Rt.val10_lt _ hd
            have h2 : ((sb s).take k).length ≤ 12 := by rw [List.length_take]; omega
            have h3 : 10 ^ ((sb s).take k).length ≤ 10 ^ 12 := Nat.pow_le_pow_right (by decide) h2
            omega
          refine ⟨⟨k + 1, 10 * v + ((s[k]'hlt).toNat - 48), by omega, by go_num, ?_, ?_, ?_, by first | rfl | trivial⟩, ?_⟩
          · rw [IntWalk.wrap64_in (10 * (v : Int)) (by omega), IntWalk.wrap64_in _ (by omega)]; congr 1; omega
          · rw [takeNext HA.out.2, Rt.val10_snoc, HA.out.1, ← hv]
          · rw [takeNext HA.out.2]
            intro c hc
            rcases List.mem_append.1 hc with hc | hc
            · exact hd c hc
            · rw [List.mem_singleton.1 hc, HA.out.1]
              unfold Rt.Dig; omega
          · simp [intOf]; omega
    · have i1 : ¬ (k : Int) < s.size := by omega
      have e : k = (sb s).length := by rw [sb_len]; omega
      have hv := HV.out.1
      have hd := HV.out.2
      rw [e, List.take_length] at hv hd
      have hg : numb (sb s) = (v : Int) := by unfold numb; rw [if_pos hd, hv]
      rw [hg] at HU
      have h1 := HU.out
      clear HU HV hv hd hg e
      subst h1
      go_wp2_with fail
      go_ret
      exact ⟨rfl, rfl⟩
end Go.Proofs.YtkenfgifhebnpaaDoor
