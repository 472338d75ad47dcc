import Derived.Test.YtcmepgjbplpnbaaDoorJDrawD
import Derived.Test.YtcmepgjbplpnbaaDoorJDrawR
import Derived.Test.YtcmepgjbplpnbaaDoorJPermRa

section
/- The reference's Side and Given. -/

namespace Go.Proofs.YtcmepgjbplpnbaaDoor
open Go.RowKit
set_option linter.unusedVariables false
set_option maxRecDepth 100000

set_option maxHeartbeats 2000000 in
theorem refSide_any (n : Int) (w : World) (hn : n ≤ 65536) :
    Calls Tryd.prog 23 #[.int .i64 n] w fun e w' => e = .returned (.int .i64 ((2 ^ Pm.lg n.toNat : Nat) : Int)) ∧ w' = w := by
  have hi := fun k (hk : k ≤ 8) => Pm.lg_iff (n := n.toNat) (by omega) k hk
  have hl8 := Pm.lg_le n.toNat
  obtain ⟨L, hL⟩ : ∃ L, L = Pm.lg n.toNat := ⟨_, rfl⟩
  rw [← hL] at hi hl8
  rw [← hL]
  obtain ⟨R, hR⟩ : ∃ R, R = 2 ^ L := ⟨_, rfl⟩
  rw [← hR]
  have HI := Lib.hid (And.intro hi hR)
  clear hL hi hR
  go_enter Tryd.func23, Tryd.ntmps23
  go_wp2_with fail
  go_loopw [3] (fun b wr => ∃ k : Nat, k ≤ L ∧ b = .int .i64 ((2 ^ k : Nat) : Int) ∧ w = wr) (fun b _ => 256 - (intOf b).toNat)
  case atStart => exact ⟨0, Nat.zero_le _, by simp, rfl⟩
  case round =>
    obtain ⟨k, hk, rfl, hw⟩ := hrel
    have hw := hw.symm
    subst hw
    have h1 := HI.out.1 k (by omega)
    have h2 : 2 ^ k ≤ 2 ^ 8 := Nat.pow_le_pow_right (by decide) (by omega)
    have h3 : 2 ^ (k + 1) = 2 * 2 ^ k := by rw [Nat.pow_succ, Nat.mul_comm]
    have h0 := Nat.two_pow_pos k
    obtain ⟨P, hP⟩ : ∃ P, P = 2 ^ k := ⟨_, rfl⟩
    rw [← hP] at h1 h2 h3 h0 ⊢
    have hsq : P * P ≤ 65536 := by have := Nat.mul_le_mul h2 h2; omega
    obtain ⟨Q, hQ⟩ : ∃ Q, Q = P * P := ⟨_, rfl⟩
    have hPQ : (P : Int) * (P : Int) = (Q : Int) := by rw [hQ]; simp
    rw [← hQ] at h1 hsq
    have hQ2 : (Q : Int) ≤ 65536 := by omega
    have hP2 : (P : Int) ≤ 256 := by omega
    have H1 := Lib.hid (And.intro h1 (And.intro h3 hP))
    clear h1 h3 hP hQ
    by_cases hlt : k < L
    · have hq : (Q : Int) < n := by have := H1.out.1.2 hlt; omega
      have h64 : P ≤ 128 := by
        have h5 : 2 ^ k ≤ 2 ^ 7 := Nat.pow_le_pow_right (by decide) (by omega)
        rw [← H1.out.2.2] at h5
        simpa using h5
      have HP := Lib.hid h64
      clear h64 h2
      go_wp2_with fail
      refine ⟨⟨k + 1, by omega, by rw [H1.out.2.1]; congr 1, trivial⟩, ?_⟩
      have := HP.out
      simp [intOf]
      omega
    · obtain rfl : k = L := by omega
      have hq : ¬ (Q : Int) < n := by have := H1.out.1; omega
      have hPR : P = R := by rw [HI.out.2]; exact H1.out.2.2
      subst hPR
      go_wp2_with fail
      go_ret
      exact ⟨rfl, rfl⟩

set_option maxHeartbeats 2000000 in
theorem refGiven_any (s : ByteArray) (A : Option Addr) (cap : Nat) (L : Nat) (n : Int) (w : World) (hs : s.size ≤ 1000000000) (hn : L ≤ 1000000000) :
    Calls Tryd.prog 30 #[.string s, .slice A L cap, .int .i64 n] w fun e w' => e = .returned (.int .i64 (if s.size > 32 ∨ L > 8 ∨ n > 65536 then 4 else 0)) ∧ w' = w := by
  by_cases c1 : s.size > 32
  · rw [if_pos (.inl c1)]
    have d1 : (s.size : Int) > 32 := by omega
    go_enter Tryd.func30, Tryd.ntmps30
    go_wp2_with fail
    go_ret
    exact ⟨rfl, rfl⟩
  · have d1 : ¬ (s.size : Int) > 32 := by omega
    by_cases c2 : L > 8
    · rw [if_pos (.inr (.inl c2))]
      have d2 : (L : Int) > 8 := by omega
      go_enter Tryd.func30, Tryd.ntmps30
      go_wp2_with fail
      go_ret
      exact ⟨rfl, rfl⟩
    · have d2 : ¬ (L : Int) > 8 := by omega
      by_cases c3 : n > 65536
      · rw [if_pos (.inr (.inr c3))]
        go_enter Tryd.func30, Tryd.ntmps30
        go_wp2_with fail
        go_ret
        exact ⟨rfl, rfl⟩
      · rw [if_neg (by omega)]
        go_enter Tryd.func30, Tryd.ntmps30
        go_wp2_with fail
        go_ret
        exact ⟨rfl, rfl⟩
end Go.Proofs.YtcmepgjbplpnbaaDoor
end

section
/- The reference's Mix and Unmix. -/



namespace Go.Proofs.YtcmepgjbplpnbaaDoor
open Go.RowKit
set_option linter.unusedVariables false
set_option maxRecDepth 100000

/-- A row of ints and a seed that draw words, as they lie. -/
structure Src (s : ByteArray) (A : Option Addr) (cap : Nat) (p : List Int) (w : World) : Prop where
  rd : Rd w w.heap.size A (p.map iv)
  len : p.length ≤ cap
  cap : cap ≤ maxLen
  seed : s.size ≤ 1000
  few : p.length ≤ 100
  nums : ∀ n ∈ p, M.I64 n
  tab : HTab w
theorem Src.below {s : ByteArray} {A : Option Addr} {cap : Nat} {p : List Int} {w w' : World} (h : Src s A cap p w) (hb : Below w.heap.size w w') : Src s A cap p w' :=
  ⟨(h.rd.below hb).more hb.size, h.len, h.cap, h.seed, h.few, h.nums, h.tab.below hb (Nat.le_refl _)⟩
structure SrcR (s : ByteArray) (A : Option Addr) (cap : Nat) (p : List Int) (w : World) : Prop where
  src : Src s A cap p w
  tab : RTab w
theorem SrcR.below {s : ByteArray} {A : Option Addr} {cap : Nat} {p : List Int} {w w' : World} (h : SrcR s A cap p w) (hb : Below w.heap.size w w') : SrcR s A cap p w' :=
  ⟨h.src.below hb, h.tab.below hb (Nat.le_refl _)⟩
theorem Src.word {s : ByteArray} {A : Option Addr} {cap : Nat} {p : List Int} {w : World} (h : Src s A cap p w) (t : Int) (ht : M.I64 t) :
    Calls Tryd.prog 22 #[.string s, .slice A p.length cap, .int .i64 t] w fun e w' => e = .returned (.int .i64 (wordN s p t : Int)) ∧ Below w.heap.size w w' :=
  word_any s A cap p t w h.rd h.len h.cap h.seed h.few h.nums ht h.tab
theorem SrcR.word {s : ByteArray} {A : Option Addr} {cap : Nat} {p : List Int} {w : World} (h : SrcR s A cap p w) (t : Int) (ht : M.I64 t) :
    Calls Tryd.prog 44 #[.string s, .slice A p.length cap, .int .i64 t] w fun e w' => e = .returned (.int .i64 (wordN s p t : Int)) ∧ Below w.heap.size w w' :=
  refWord_any s A cap p t w h.src.rd h.src.seed h.src.few h.src.nums ht h.tab

set_option maxHeartbeats 4000000 in
theorem refMix_any (s : ByteArray) (A : Option Addr) (cap : Nat) (p : List Int) (n x : Nat) (w : World) (h : SrcR s A cap p w) (hx : x < 2 ^ Pm.lg n * 2 ^ Pm.lg n) :
    Calls Tryd.prog 42 #[.string s, .slice A p.length cap, .int .i64 ((2 ^ Pm.lg n : Nat) : Int), .int .i64 x] w fun e w' => e = .returned (.int .i64 (mixS s p n x : Int)) ∧ Below w.heap.size w w' := by
  have hB := side_le n
  have hB0 := Nat.two_pow_pos (Pm.lg n)
  have hF := fw_lt s p (Pm.lg n)
  have hin := fun c => Pm.rnds_in (k := Pm.lg n) hF (Pm.pair_in hx) c
  obtain ⟨B, hBB⟩ : ∃ B, B = 2 ^ Pm.lg n := ⟨_, rfl⟩
  obtain ⟨F, hFF⟩ : ∃ F, F = fw s p B := ⟨_, rfl⟩
  have hmx : mixS s p n x = Pm.unpair B (Pm.rnds F (Pm.pair B x) 4) := by rw [hFF, hBB]; rfl
  rw [← hBB] at hF hin hB hB0 hx
  rw [← hFF] at hF hin
  rw [hmx, ← hBB]
  obtain ⟨st, hst⟩ : ∃ st, st = Pm.rnds F (Pm.pair B x) := ⟨_, rfl⟩
  rw [← hst] at hin ⊢
  have h00 : st 0 = (x / B, x % B) := by rw [hst]; rfl
  have hss : ∀ c, st (c + 1) = ((st c).2, (st c).1 ^^^ F c (st c).2) := fun c => by rw [hst]; rfl
  have hFw : ∀ r y, F r y = wordN s p ((65536 * r + y : Nat) : Int) % B := fun r y => by rw [hFF]; rfl
  obtain ⟨N, hN⟩ : ∃ N, N = p.length := ⟨_, rfl⟩
  have hq : (x : Int).tdiv (B : Int) = ((x / B : Nat) : Int) := by rw [Int.tdiv_eq_ediv_of_nonneg (by omega)]; simp
  have hr : (x : Int).tmod (B : Int) = ((x % B : Nat) : Int) := by rw [Int.tmod_eq_emod_of_nonneg (by omega)]; simp
  have hx0 : x < 65536 := Nat.lt_of_lt_of_le hx (by have := Nat.mul_le_mul hB hB; omega)
  rw [← hN]
  have HS := Lib.hid (And.intro hin (And.intro h00 (And.intro hss (And.intro hFw hF))))
  have HN := Lib.hid hN
  have HP := Lib.hid h
  obtain ⟨xq, hxq⟩ : ∃ q, q = x / B := ⟨_, rfl⟩
  obtain ⟨xr, hxr⟩ : ∃ q, q = x % B := ⟨_, rfl⟩
  rw [← hxq] at hq
  rw [← hxr] at hr
  have HX := Lib.hid (And.intro hxq hxr)
  have hxqb : xq < 65536 := by rw [hxq]; exact Nat.lt_of_le_of_lt (Nat.div_le_self _ _) hx0
  have hB1 : (1 : Int) ≤ B := by omega
  have hB2 : ¬ B = 0 := by omega
  obtain ⟨ans, hans⟩ : ∃ ans, ans = Pm.unpair B (st 4) := ⟨_, rfl⟩
  rw [← hans]
  have HA := Lib.hid hans
  clear hin h00 hss hFw hst hFF hBB hmx hF hN h hx hxq hxr hans
  go_enter Tryd.func42, Tryd.ntmps42
  go_wp2_with fail
  go_loopw [9, 10, 11, 12, 13] (fun l r i f g wr => ∃ c : Nat, c ≤ 4 ∧ i = .int .i64 c ∧ l = .int .i64 ((st c).1 : Int) ∧ r = .int .i64 ((st c).2 : Int) ∧ Below w.heap.size w wr) (fun _ _ i _ _ _ => 4 - (intOf i).toNat)
  case atStart => exact ⟨0, by omega, rfl, by rw [HS.out.2.1, ← HX.out.1], by rw [HS.out.2.1, ← HX.out.2], Below.refl _ _⟩
  case round =>
    obtain ⟨c, hc, rfl, rfl, rfl, hb⟩ := hrel
    have hi := HS.out.1 c
    obtain ⟨l, hl⟩ : ∃ l, l = (st c).1 := ⟨_, rfl⟩
    obtain ⟨r, hr9⟩ : ∃ r, r = (st c).2 := ⟨_, rfl⟩
    have hlB : l < B := by rw [hl]; exact hi.1
    have hrB : r < B := by rw [hr9]; exact hi.2
    have hnx := HS.out.2.2.1 c
    rw [← hl, ← hr9] at hnx
    rw [← hl, ← hr9]
    by_cases hlt : c < 4
    · have hP2 := HP.out.below hb
      have cW := hP2.word (65536 * (c : Int) + (r : Int)) (by constructor <;> omega)
      have hFe := HS.out.2.2.2.1 c r
      rw [show ((65536 * c + r : Nat) : Int) = 65536 * (c : Int) + (r : Int) by omega] at hFe
      obtain ⟨z, hz⟩ : ∃ z : Nat, z = wordN s p (65536 * (c : Int) + (r : Int)) := ⟨_, rfl⟩
      have hzl : z < 281474976710656 := by rw [hz]; exact wordN_lt _ _ _
      rw [← HN.out, ← hz] at cW
      rw [← hz] at hFe
      obtain ⟨f, hf⟩ : ∃ f, f = F c r := ⟨_, rfl⟩
      have hfB : f < B := by rw [hf]; exact HS.out.2.2.2.2 c r
      rw [← hf] at hnx hFe
      have hzm : (z : Int).tmod (B : Int) = (f : Int) := by rw [Int.tmod_eq_emod_of_nonneg (by omega), hFe]; simp
      have cX := fun W => refXor_any l f W (by omega) (by omega)
      obtain ⟨y, hy⟩ : ∃ y, y = l ^^^ f := ⟨_, rfl⟩
      rw [← hy] at cX hnx
      have CW := Lib.hid cW
      have CX := Lib.hid cX
      have HY := Lib.hid hnx
      have hc4 : (c : Int) < 4 := by omega
      have hr4 : (r : Int) < 256 := by omega
      clear hi hl hr9 hnx hP2 cW hFe hz hf cX hy hlB hfB hq hr
      go_wp2_with fail
      refine CW.out.mono ?_
      rintro e w2 ⟨rfl, hb2⟩
      have HB := Lib.hid (hb.trans (hb2.mono hb.size))
      clear hb hb2 CW
      go_wp2_with fail
      refine (CX.out _).mono ?_
      rintro e w3 ⟨rfl, rfl⟩
      go_wp2_with fail
      refine ⟨⟨c + 1, by omega, by go_num, ?_, ?_, HB.out⟩, by simp [intOf]; omega⟩
      · rw [HY.out]
      · rw [HY.out]
    · obtain rfl : c = 4 := by omega
      have hlB4 : (l : Int) < 256 := by omega
      have hlb : l * B ≤ 65536 := by have := Nat.mul_le_mul (Nat.le_of_lt hlB) hB; omega
      have hu : Pm.unpair B (st 4) = l * B + r := by unfold Pm.unpair; rw [← hl, ← hr9]
      obtain ⟨m, hm⟩ : ∃ m, m = l * B := ⟨_, rfl⟩
      have hlm : (l : Int) * (B : Int) = (m : Int) := by rw [hm]; simp
      rw [← hm] at hlb hu
      have hm6 : (m : Int) ≤ 65536 := by omega
      have hsum : (ans : Int) = (m : Int) + (r : Int) := by rw [HA.out, hu]; omega
      have HU := Lib.hid hsum
      clear hi hl hr9 hnx hm hu hq hr hsum
      go_wp2_with fail
      go_ret
      exact ⟨by rw [HU.out]; rfl, hb⟩
end Go.Proofs.YtcmepgjbplpnbaaDoor
end

