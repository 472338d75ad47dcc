import Derived.Deep.LoopGhost
import Derived.Test.YtcmepgjbplpnbaaDoorJPermRc

section
/- perm: base, exceeds, check, walk. -/


namespace Go.Proofs.YtcmepgjbplpnbaaDoor
open Go.RowKit
set_option linter.unusedVariables false
set_option maxRecDepth 100000

set_option maxHeartbeats 2000000 in
theorem base_any (n : Int) (w : World) (hn : n ≤ 65536) :
    Calls Tryd.prog 28 #[.int .i64 n] w fun e w' => e = .returned (.int .i64 ((2 ^ Pm.lg n.toNat : Nat) : Int)) ∧ w' = w := by
  have hi := fun k (hk : k ≤ 8) => Pm.lg_iff (n := n.toNat) (by omega) k hk
  have hl8 := Pm.lg_le n.toNat
  obtain ⟨L, hL⟩ : ∃ L, L = Pm.lg n.toNat := ⟨_, rfl⟩
  rw [← hL] at hi hl8
  rw [← hL]
  obtain ⟨R, hR⟩ : ∃ R, R = 2 ^ L := ⟨_, rfl⟩
  rw [← hR]
  have HI := Lib.hid (And.intro hi hR)
  clear hL hi hR
  go_enter Tryd.func28, Tryd.ntmps28
  go_wp2_with fail
  go_loopw [3] (fun b wr => ∃ k : Nat, k ≤ L ∧ b = .int .i64 ((2 ^ k : Nat) : Int) ∧ w = wr) (fun b _ => 256 - (intOf b).toNat)
  case atStart => exact ⟨0, Nat.zero_le _, by simp, rfl⟩
  case round =>
    obtain ⟨k, hk, rfl, hw⟩ := hrel
    have hw := hw.symm
    subst hw
    have h1 := HI.out.1 k (by omega)
    have h2 : 2 ^ k ≤ 2 ^ 8 := Nat.pow_le_pow_right (by decide) (by omega)
    have h3 : 2 ^ (k + 1) = 2 ^ k * 2 := by rw [Nat.pow_succ]
    have h0 := Nat.two_pow_pos k
    obtain ⟨P, hP⟩ : ∃ P, P = 2 ^ k := ⟨_, rfl⟩
    rw [← hP] at h1 h2 h3 h0 ⊢
    have hsq : P * P ≤ 65536 := by have := Nat.mul_le_mul h2 h2; omega
    obtain ⟨Q, hQ⟩ : ∃ Q, Q = P * P := ⟨_, rfl⟩
    have hPQ : (P : Int) * (P : Int) = (Q : Int) := by rw [hQ]; simp
    rw [← hQ] at h1 hsq
    have hQ2 : (Q : Int) ≤ 65536 := by omega
    have hP2 : (P : Int) ≤ 256 := by omega
    have H1 := Lib.hid (And.intro h1 (And.intro h3 hP))
    clear h1 h3 hP hQ
    by_cases hlt : k < L
    · have hq : (Q : Int) < n := by have := H1.out.1.2 hlt; omega
      have h64 : P ≤ 128 := by
        have h5 : 2 ^ k ≤ 2 ^ 7 := Nat.pow_le_pow_right (by decide) (by omega)
        rw [← H1.out.2.2] at h5
        simpa using h5
      have HP := Lib.hid h64
      clear h64 h2
      go_wp2_with fail
      refine ⟨⟨k + 1, by omega, by rw [H1.out.2.1]; congr 1, trivial⟩, ?_⟩
      have := HP.out
      simp [intOf]
      omega
    · obtain rfl : k = L := by omega
      have hq : ¬ (Q : Int) < n := by have := H1.out.1; omega
      have hPR : P = R := by rw [HI.out.2]; exact H1.out.2.2
      subst hPR
      go_wp2_with fail
      go_ret
      exact ⟨rfl, rfl⟩

set_option maxHeartbeats 2000000 in
theorem exceeds_any (s : ByteArray) (A : Option Addr) (cap : Nat) (L : Nat) (n : Int) (w : World) (hs : s.size ≤ 1000000000) (hn : L ≤ 1000000000) :
    Calls Tryd.prog 34 #[.string s, .slice A L cap, .int .i64 n] w fun e w' => e = .returned (.bool (decide (s.size > 32 ∨ L > 8 ∨ n > 65536))) ∧ w' = w := by
  by_cases c1 : s.size > 32
  · rw [decide_eq_true (Or.inl c1)]
    have d1 : (s.size : Int) > 32 := by omega
    go_enter Tryd.func34, Tryd.ntmps34
    go_wp2_with fail
    go_ret
    exact ⟨rfl, rfl⟩
  · have d1 : ¬ (s.size : Int) > 32 := by omega
    by_cases c2 : L > 8
    · rw [decide_eq_true (Or.inr (Or.inl c2))]
      have d2 : (L : Int) > 8 := by omega
      go_enter Tryd.func34, Tryd.ntmps34
      go_wp2_with fail
      go_ret
      exact ⟨rfl, rfl⟩
    · have d2 : ¬ (L : Int) > 8 := by omega
      by_cases c3 : n > 65536
      · rw [decide_eq_true (Or.inr (Or.inr c3))]
        go_enter Tryd.func34, Tryd.ntmps34
        go_wp2_with fail
        go_ret
        exact ⟨rfl, rfl⟩
      · rw [decide_eq_false (by omega)]
        go_enter Tryd.func34, Tryd.ntmps34
        go_wp2_with fail
        go_ret
        exact ⟨rfl, rfl⟩

set_option maxHeartbeats 2000000 in
theorem check_any (s : ByteArray) (A : Option Addr) (cap : Nat) (p : List Int) (n i : Int) (w : World) (hs : s.size ≤ 1000000000) (hn : p.length ≤ 1000000000) :
    Calls Tryd.prog 25 #[.string s, .slice A p.length cap, .int .i64 n, .int .i64 i] w fun e w' => e = .returned (.int .i64 (errP s p n i)) ∧ w' = w := by
  have cE := exceeds_any s A cap p.length n w hs hn
  obtain ⟨N, hN⟩ : ∃ N, N = p.length := ⟨_, rfl⟩
  obtain ⟨x, hx⟩ : ∃ x, x = decide (s.size > 32 ∨ p.length > 8 ∨ n > 65536) := ⟨_, rfl⟩
  obtain ⟨y, hy⟩ : ∃ y, y = errP s p n i := ⟨_, rfl⟩
  rw [← hx, ← hN] at cE
  rw [← hy, ← hN]
  have e1 : x = true → y = 4 := fun h => by
    rw [hx] at h
    rw [hy]; unfold errP; rw [if_pos (of_decide_eq_true h)]
  have e0 : x = false → (¬ (i < 0 ∨ i ≥ n) → y = 0) ∧ ((i < 0 ∨ i ≥ n) → y = 1) := fun h => by
    rw [hx] at h
    have hc := of_decide_eq_false h
    exact ⟨fun hi => by rw [hy]; unfold errP; rw [if_neg hc, if_neg hi], fun hi => by rw [hy]; unfold errP; rw [if_neg hc, if_pos hi]⟩
  have CE := Lib.hid cE
  have HE := Lib.hid (And.intro e1 e0)
  clear cE e1 e0 hx hy hN hs hn
  go_enter Tryd.func25, Tryd.ntmps25
  go_wp2_with fail
  refine CE.out.mono ?_
  rintro e w0 ⟨rfl, rfl⟩
  cases x with
  | true =>
    obtain rfl := HE.out.1 rfl
    go_wp2_with fail
    go_ret
    exact ⟨rfl, rfl⟩
  | false =>
    obtain ⟨h0, h1⟩ := HE.out.2 rfl
    by_cases hi : i < 0
    · obtain rfl := h1 (.inl hi)
      clear h0 h1
      go_wp2_with fail
      go_ret
      exact ⟨rfl, rfl⟩
    · by_cases hi2 : i ≥ n
      · obtain rfl := h1 (.inr hi2)
        clear h0 h1
        go_wp2_with fail
        go_ret
        exact ⟨rfl, rfl⟩
      · obtain rfl := h0 (by omega)
        clear h0 h1
        go_wp2_with fail
        go_ret
        exact ⟨rfl, rfl⟩

/-- A function value of two captured variables steps as f. -/
def Steps (G : FuncId) (c1 c2 : Value) (f : Nat → Nat) (M : Nat) (w : World) : Prop :=
  ∀ (W : World) (z : Nat), Below w.heap.size w W → z < M → Calls Tryd.prog G #[.int .i64 z, c1, c2] W fun e w' => e = .returned (.int .i64 (f z : Int)) ∧ Below W.heap.size W w'

set_option maxHeartbeats 4000000 in
theorem walk_any (G : FuncId) (c1 c2 : Value) (f : Nat → Nat) (M n x K : Nat) (w : World) (hcf : ∀ (args : Array Value) (W : World), (callFunc G args).run Tryd.prog W = .ok (.enter G args) W)
    (hG : Steps G c1 c2 f M w) (hf : ∀ z, z < M → f z < M) (hM : M ≤ 65536) (hn : n ≤ 65536) (hx : x < M) (hK : Pm.Hit f n x K) :
    Calls Tryd.prog 26 #[.func (.func G) #[] #[c1, c2], .int .i64 n, .int .i64 x] w fun e w' => e = .returned (.int .i64 (Pm.iter f K x : Int)) ∧ Below w.heap.size w w' := by
  have hit := Pm.iter_lt hf hx
  obtain ⟨st, hst⟩ : ∃ st : Nat → Nat, st = fun j => Pm.iter f j x := ⟨_, rfl⟩
  have h0 : st 0 = x := by rw [hst]; rfl
  have hK2 : 1 ≤ K ∧ st K < n ∧ ∀ j, 1 ≤ j → j < K → ¬ st j < n := by rw [hst]; exact hK
  have cM : ∀ (W : World) (j : Nat), Below w.heap.size w W → Calls Tryd.prog G #[.int .i64 (st j : Int), c1, c2] W fun e w' => e = .returned (.int .i64 (st (j + 1) : Int)) ∧ Below W.heap.size W w' := by
    intro W j hb
    have := hG W (st j) hb (by rw [hst]; exact hit j)
    rw [show f (st j) = st (j + 1) by rw [hst]; rfl] at this
    exact this
  obtain ⟨ans, hans⟩ : ∃ ans, ans = Pm.iter f K x := ⟨_, rfl⟩
  have hans2 : ans = st K := by rw [hans, hst]
  rw [← hans]
  have h64 : ∀ j, st j < 65536 := fun j => Nat.lt_of_lt_of_le (by rw [hst]; exact hit j) hM
  have HK := Lib.hid (And.intro hK2 (And.intro hans2 (And.intro h0 h64)))
  have CM := Lib.hid cM
  have HCF := Lib.hid hcf
  have c0 := cM w 0 (Below.refl _ _)
  rw [h0] at c0
  have C0 := Lib.hid c0
  have hc0 := hcf #[.int .i64 (x : Int), c1, c2] w
  clear hK hit cM hst hK2 hans hans2 h0 h64 hG hf hcf hx c0
  go_enter Tryd.func26, Tryd.ntmps26
  go_wp2_with fail
  refine C0.out.mono ?_
  rintro e w1 ⟨rfl, hb1⟩
  clear hc0
  go_wp2_with fail
  go_loopg [2] (K - 1) (fun k z wr => ∃ j : Nat, 1 ≤ j ∧ j ≤ K ∧ k = K - j ∧ z = .int .i64 (st j : Int) ∧ Below w.heap.size w wr)
  case atStart => exact ⟨1, Nat.le_refl _, HK.out.1.1, rfl, rfl, hb1⟩
  case round =>
    clear hb1 C0
    obtain ⟨j, hj1, hjK, hgk, rfl, hb⟩ := hrel
    have HG := Lib.hid hgk
    clear hgk
    have h6 := HK.out.2.2.2 j
    by_cases hlt : j < K
    · have hge := HK.out.1.2.2 j hj1 hlt
      have cj := CM.out wr j hb
      obtain ⟨z, hz⟩ : ∃ z, z = st j := ⟨_, rfl⟩
      rw [← hz] at h6 hge cj
      rw [← hz]
      have CJ := Lib.hid cj
      have hge2 : (n : Int) ≤ z := by omega
      have hcj := HCF.out #[.int .i64 (z : Int), c1, c2] wr
      clear hz hge cj
      go_wp2_with fail
      refine CJ.out.mono ?_
      rintro e w2 ⟨rfl, hb2⟩
      clear hcj
      go_wp2_with fail
      go_roundg (K - (j + 1))
      case measure => have := HG.out; omega
      case rel => exact ⟨j + 1, by omega, by omega, rfl, rfl, hb.trans (hb2.mono hb.size)⟩
    · obtain rfl : j = K := by omega
      have hl := HK.out.1.2.1
      have ha := HK.out.2.1
      rw [← ha] at hl h6 ⊢
      have hl2 : (ans : Int) < n := by omega
      clear ha
      go_wp2_with fail
      go_ret
      exact ⟨rfl, hb⟩
end Go.Proofs.YtcmepgjbplpnbaaDoor
end

