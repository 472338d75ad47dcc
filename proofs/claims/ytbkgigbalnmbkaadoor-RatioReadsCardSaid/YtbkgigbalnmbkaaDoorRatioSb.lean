/- The contract of dioramaref04.number. -/
import Derived.Test.YtbkgigbalnmbkaaDoorRatioRb
import Derived.Test.YtbkgigbalnmbkaaDoorRatioPl
namespace Go.Proofs.YtbkgigbalnmbkaaDoor
open Go.RowKit
set_option linter.unusedVariables false
set_option maxRecDepth 100000

/-- What number answers. -/
def nres (l : List UInt8) : Int × Bool := match Rt.numb l with
  | some p => ((p : Int), true)
  | none => (0, false)
theorem nres_long {l : List UInt8} (h : 10 < l.length) : nres l = (0, false) := by
  unfold nres Rt.numb; rw [if_neg (fun k => by omega)]
theorem nres_bad {l : List UInt8} {i : Nat} (hi : i < l.length) (h : ¬ Rt.Dig (l.getD i 0)) : nres l = (0, false) := by
  unfold nres Rt.numb
  rw [if_neg]
  intro k
  apply h
  rw [List.getD_eq_getElem?_getD, List.getElem?_eq_getElem hi]
  exact k.2.2 _ (List.getElem_mem hi)
theorem nres_good {l : List UInt8} (h : l.length ≤ 10) (hd : ∀ c ∈ l, Rt.Dig c) : nres l = ((Rt.val10 l : Int), decide ((l.length : Int) > 0)) := by
  unfold nres Rt.numb
  cases l with
  | nil => simp [Rt.val10]
  | cons c r => rw [if_pos ⟨by simp, h, hd⟩]; simp
theorem take_snoc {l : List UInt8} {i : Nat} (hi : i < l.length) : l.take (i + 1) = l.take i ++ [l.getD i 0] := by
  rw [List.take_add_one, List.getD_eq_getElem?_getD, List.getElem?_eq_getElem hi]; simp
theorem sb_at (s : ByteArray) (k : Nat) (h : k < s.size) : (sb s).getD k 0 = s[k] := by
  have h2 : k < (sb s).length := by rw [sb_len]; exact h
  rw [List.getD_eq_getElem?_getD, List.getElem?_eq_getElem h2]
  rfl
theorem val10_small {l : List UInt8} {k : Nat} (hk : k ≤ 9) (hd : ∀ c ∈ l.take k, Rt.Dig c) : Rt.val10 (l.take k) < 1000000000 := by
  have h1 := Rt.val10_lt _ hd
  have h2 : (l.take k).length ≤ 9 := by rw [List.length_take]; omega
  have h3 : 10 ^ (l.take k).length ≤ 10 ^ 9 := Nat.pow_le_pow_right (by decide) h2
  omega

set_option maxHeartbeats 4000000 in
theorem number_any (s : ByteArray) (w : World) (hs : s.size ≤ 140737488351232) : Calls Tryd.prog 43 #[.string s] w fun e w' => e = .returned (.tuple #[.int .i64 (nres (sb s)).1, .bool (nres (sb s)).2]) ∧ w' = w := by
  obtain ⟨u, hu⟩ : ∃ u, u = (nres (sb s)).1 := ⟨_, rfl⟩
  obtain ⟨b, hb⟩ : ∃ b, b = (nres (sb s)).2 := ⟨_, rfl⟩
  rw [← hu, ← hb]
  have HU := Lib.hid (And.intro hu hb)
  clear hu hb
  go_enter Tryd.func43, Tryd.ntmps43
  go_wp2_with fail
  go_loopw [4, 5] (fun n i wr => ∃ k v : Nat, k ≤ s.size ∧ k ≤ 10 ∧ i = .int .i64 k ∧ n = .int .i64 v ∧ v = Rt.val10 ((sb s).take k) ∧ (∀ c ∈ (sb s).take k, Rt.Dig c) ∧ wr = w) (fun n i _ => s.size - (intOf i).toNat)
  case atStart => exact ⟨0, 0, by omega, by omega, rfl, rfl, rfl, by simp, rfl⟩
  case round =>
    obtain ⟨k, v, hk, hk10, rfl, rfl, hv, hd, rfl⟩ := hrel
    have HV := Lib.hid (And.intro hv hd)
    clear hv hd
    by_cases hlt : k < s.size
    · have i1 : (k : Int) < s.size := by omega
      have i0 : (0 : Int) ≤ k := by omega
      have hat := sb_at s k hlt
      have hll : k < (sb s).length := by rw [sb_len]; exact hlt
      have bad : ∀ h : ¬ (Rt.Dig (s[k]'hlt) ∧ k ≤ 9), u = 0 ∧ b = false := fun h => by
        rw [HU.out.1, HU.out.2]
        by_cases hx : Rt.Dig (s[k]'hlt)
        · rw [nres_long (by have h9 : ¬ k ≤ 9 := fun h' => h ⟨hx, h'⟩; omega)]; exact ⟨rfl, rfl⟩
        · rw [nres_bad (i := k) hll (by rw [hat]; exact hx)]; exact ⟨rfl, rfl⟩
      unfold Rt.Dig at bad
      have HB := Lib.hid bad
      have HA := Lib.hid (And.intro hat hll)
      clear bad hat hll
      by_cases x1 : ((s[k]'hlt).toNat : Int) < 48
      · obtain ⟨rfl, rfl⟩ := HB.out (by omega)
        go_wp2_with fail
        go_ret2
        exact ⟨rfl, rfl⟩
      · by_cases x2 : (57 : Int) < (s[k]'hlt).toNat
        · obtain ⟨rfl, rfl⟩ := HB.out (by omega)
          go_wp2_with fail
          go_ret2
          exact ⟨rfl, rfl⟩
        · by_cases x3 : (9 : Int) < k
          · obtain ⟨rfl, rfl⟩ := HB.out (by omega)
            go_wp2_with fail
            go_ret2
            exact ⟨rfl, rfl⟩
          · go_wp2_with fail
            have hv := HV.out.1
            have hd := HV.out.2
            have hv9 := val10_small (by omega) hd
            rw [← hv] at hv9
            refine ⟨⟨k + 1, 10 * v + ((s[k]'hlt).toNat - 48), by omega, by omega, by simp, ?_, ?_, ?_, trivial⟩, ?_⟩
            · rw [IntWalk.wrap64_in (10 * (v : Int)) (by omega), IntWalk.wrap64_in _ (by omega)]
              congr 1; omega
            · rw [take_snoc HA.out.2, Rt.val10_snoc, HA.out.1, ← hv]
            · rw [take_snoc HA.out.2]
              intro c hc
              rcases List.mem_append.1 hc with hc | hc
              · exact hd c hc
              · rw [List.mem_singleton.1 hc, HA.out.1]
                unfold Rt.Dig; omega
            · simp [intOf]; omega
    · have i1 : ¬ (k : Int) < s.size := by omega
      have e : k = (sb s).length := by rw [sb_len]; omega
      have hv := HV.out.1
      have hd := HV.out.2
      rw [e, List.take_length] at hv hd
      have hg := nres_good (by omega) hd
      rw [hg, ← hv, sb_len] at HU
      have h1 := HU.out.1
      have h2 := HU.out.2
      clear HU HV hv hd hg e
      subst h1 h2
      go_wp2_with fail
      go_ret2
      exact ⟨by first | rfl | (simp), rfl⟩
end Go.Proofs.YtbkgigbalnmbkaaDoor
