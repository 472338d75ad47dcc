import Derived.Deep.LoopGhost
import Derived.Test.YtcmepgjbplpnbaaDoorJPermRc

section
/- The reference's Unmix. -/

namespace Go.Proofs.YtcmepgjbplpnbaaDoor
open Go.RowKit
set_option linter.unusedVariables false
set_option maxRecDepth 100000

set_option maxHeartbeats 4000000 in
theorem refUnmix_any (s : ByteArray) (A : Option Addr) (cap : Nat) (p : List Int) (n x : Nat) (w : World) (h : SrcR s A cap p w) (hx : x < 2 ^ Pm.lg n * 2 ^ Pm.lg n) :
    Calls Tryd.prog 33 #[.string s, .slice A p.length cap, .int .i64 ((2 ^ Pm.lg n : Nat) : Int), .int .i64 x] w fun e w' => e = .returned (.int .i64 (unmixS s p n x : Int)) ∧ Below w.heap.size w w' := by
  have hB := side_le n
  have hB0 := Nat.two_pow_pos (Pm.lg n)
  have hF := fw_lt s p (Pm.lg n)
  have hin := fun c => Pm.dnrs_in (k := Pm.lg n) hF (Pm.pair_in hx) c
  obtain ⟨B, hBB⟩ : ∃ B, B = 2 ^ Pm.lg n := ⟨_, rfl⟩
  obtain ⟨F, hFF⟩ : ∃ F, F = fw s p B := ⟨_, rfl⟩
  have hmx : unmixS s p n x = Pm.unpair B (Pm.dnrs F (Pm.pair B x) 4) := by rw [hFF, hBB]; rfl
  rw [← hBB] at hF hin hB hB0 hx
  rw [← hFF] at hF hin
  rw [hmx, ← hBB]
  obtain ⟨st, hst⟩ : ∃ st, st = Pm.dnrs F (Pm.pair B x) := ⟨_, rfl⟩
  rw [← hst] at hin ⊢
  have h00 : st 0 = (x / B, x % B) := by rw [hst]; rfl
  have hss : ∀ c, st (c + 1) = ((st c).2 ^^^ F (3 - c) (st c).1, (st c).1) := fun c => by rw [hst]; rfl
  have hFw : ∀ r y, F r y = wordN s p ((65536 * r + y : Nat) : Int) % B := fun r y => by rw [hFF]; rfl
  obtain ⟨N, hN⟩ : ∃ N, N = p.length := ⟨_, rfl⟩
  have hq : (x : Int).tdiv (B : Int) = ((x / B : Nat) : Int) := by rw [Int.tdiv_eq_ediv_of_nonneg (by omega)]; simp
  have hr : (x : Int).tmod (B : Int) = ((x % B : Nat) : Int) := by rw [Int.tmod_eq_emod_of_nonneg (by omega)]; simp
  have hx0 : x < 65536 := Nat.lt_of_lt_of_le hx (by have := Nat.mul_le_mul hB hB; omega)
  rw [← hN]
  have HS := Lib.hid (And.intro hin (And.intro h00 (And.intro hss (And.intro hFw hF))))
  have HN := Lib.hid hN
  have HP := Lib.hid h
  obtain ⟨xq, hxq⟩ : ∃ q, q = x / B := ⟨_, rfl⟩
  obtain ⟨xr, hxr⟩ : ∃ q, q = x % B := ⟨_, rfl⟩
  rw [← hxq] at hq
  rw [← hxr] at hr
  have HX := Lib.hid (And.intro hxq hxr)
  have hxqb : xq < 65536 := by rw [hxq]; exact Nat.lt_of_le_of_lt (Nat.div_le_self _ _) hx0
  have hB1 : (1 : Int) ≤ B := by omega
  have hB2 : ¬ B = 0 := by omega
  obtain ⟨ans, hans⟩ : ∃ ans, ans = Pm.unpair B (st 4) := ⟨_, rfl⟩
  rw [← hans]
  have HA := Lib.hid hans
  clear hin h00 hss hFw hst hFF hBB hmx hF hN h hx hxq hxr hans
  go_enter Tryd.func33, Tryd.ntmps33
  go_wp2_with fail
  go_loopw [9, 10, 11, 12, 13] (fun l r i f g wr => ∃ c : Nat, c ≤ 4 ∧ i = .int .i64 ((3 : Int) - c) ∧ l = .int .i64 ((st c).1 : Int) ∧ r = .int .i64 ((st c).2 : Int) ∧ Below w.heap.size w wr) (fun _ _ i _ _ _ => (intOf i + 1).toNat)
  case atStart => exact ⟨0, by omega, by simp, by rw [HS.out.2.1, ← HX.out.1], by rw [HS.out.2.1, ← HX.out.2], Below.refl _ _⟩
  case round =>
    obtain ⟨c, hc, rfl, rfl, rfl, hb⟩ := hrel
    have hi := HS.out.1 c
    obtain ⟨l, hl⟩ : ∃ l, l = (st c).1 := ⟨_, rfl⟩
    obtain ⟨r, hr9⟩ : ∃ r, r = (st c).2 := ⟨_, rfl⟩
    have hlB : l < B := by rw [hl]; exact hi.1
    have hrB : r < B := by rw [hr9]; exact hi.2
    have hnx := HS.out.2.2.1 c
    rw [← hl, ← hr9] at hnx
    rw [← hl, ← hr9]
    by_cases hlt : c < 4
    · obtain ⟨d, hd⟩ : ∃ d : Nat, d = 3 - c := ⟨_, rfl⟩
      have hdc : (3 : Int) - (c : Int) = (d : Int) := by omega
      rw [← hd] at hnx
      rw [hdc]
      have hP2 := HP.out.below hb
      have cW := hP2.word (65536 * (d : Int) + (l : Int)) (by constructor <;> omega)
      have hFe := HS.out.2.2.2.1 d l
      rw [show ((65536 * d + l : Nat) : Int) = 65536 * (d : Int) + (l : Int) by omega] at hFe
      obtain ⟨z, hz⟩ : ∃ z : Nat, z = wordN s p (65536 * (d : Int) + (l : Int)) := ⟨_, rfl⟩
      have hzl : z < 281474976710656 := by rw [hz]; exact wordN_lt _ _ _
      rw [← HN.out, ← hz] at cW
      rw [← hz] at hFe
      obtain ⟨f, hf⟩ : ∃ f, f = F d l := ⟨_, rfl⟩
      have hfB : f < B := by rw [hf]; exact HS.out.2.2.2.2 d l
      rw [← hf] at hnx hFe
      have hzm : (z : Int).tmod (B : Int) = (f : Int) := by rw [Int.tmod_eq_emod_of_nonneg (by omega), hFe]; simp
      have cX := fun W => refXor_any r f W (by omega) (by omega)
      obtain ⟨y, hy⟩ : ∃ y, y = r ^^^ f := ⟨_, rfl⟩
      rw [← hy] at cX hnx
      have CW := Lib.hid cW
      have CX := Lib.hid cX
      have HY := Lib.hid hnx
      have hc4 : (d : Int) < 4 := by omega
      have hr4 : (l : Int) < 256 := by omega
      have HD := Lib.hid (And.intro hdc hd)
      clear hi hl hr9 hnx hP2 cW hFe hz hf cX hy hrB hfB hq hr hdc hd
      go_wp2_with fail
      refine CW.out.mono ?_
      rintro e w2 ⟨rfl, hb2⟩
      have HB := Lib.hid (hb.trans (hb2.mono hb.size))
      clear hb hb2 CW
      go_wp2_with fail
      refine (CX.out _).mono ?_
      rintro e w3 ⟨rfl, rfl⟩
      go_wp2_with fail
      refine ⟨⟨c + 1, by omega, by congr 1; have := HD.out.1; omega, ?_, ?_, HB.out⟩, by simp [intOf] <;> omega⟩
      · rw [HY.out]
      · rw [HY.out]
    · obtain rfl : c = 4 := by omega
      have hlB4 : (l : Int) < 256 := by omega
      have hlb : l * B ≤ 65536 := by have := Nat.mul_le_mul (Nat.le_of_lt hlB) hB; omega
      have hu : Pm.unpair B (st 4) = l * B + r := by unfold Pm.unpair; rw [← hl, ← hr9]
      obtain ⟨m, hm⟩ : ∃ m, m = l * B := ⟨_, rfl⟩
      have hlm : (l : Int) * (B : Int) = (m : Int) := by rw [hm]; simp
      rw [← hm] at hlb hu
      have hm6 : (m : Int) ≤ 65536 := by omega
      have hsum : (ans : Int) = (m : Int) + (r : Int) := by rw [HA.out, hu]; omega
      have HU := Lib.hid hsum
      clear hi hl hr9 hnx hm hu hq hr hsum
      go_wp2_with fail
      go_ret
      exact ⟨by rw [HU.out]; rfl, hb⟩
end Go.Proofs.YtcmepgjbplpnbaaDoor
end

section
/- The reference's Place and At. -/


namespace Go.Proofs.YtcmepgjbplpnbaaDoor
open Go.RowKit
set_option linter.unusedVariables false
set_option maxRecDepth 100000

set_option maxHeartbeats 4000000 in
theorem refPlace_any (s : ByteArray) (A : Option Addr) (cap : Nat) (p : List Int) (n x : Nat) (w : World) (h : SrcR s A cap p w) (hn : n ≤ 65536) (hx : x < n) :
    Calls Tryd.prog 31 #[.string s, .slice A p.length cap, .int .i64 n, .int .i64 x] w fun e w' => e = .returned (.int .i64 (placeS s p n x : Int)) ∧ Below w.heap.size w w' := by
  obtain ⟨K, hK, hpl⟩ := placeS_hit s p hn hx
  have hit := iter_mix_lt s p hn hx
  have cS := fun W => refSide_any n W (by omega)
  simp only [Int.toNat_natCast] at cS
  obtain ⟨Bz, hBz⟩ : ∃ b : Int, b = ((2 ^ Pm.lg n : Nat) : Int) := ⟨_, rfl⟩
  have cM := fun (W : World) (hb : Below w.heap.size w W) (z : Nat) (hz : z < 2 ^ Pm.lg n * 2 ^ Pm.lg n) => refMix_any s A cap p n z W (h.below hb) hz
  obtain ⟨st, hst⟩ : ∃ st : Nat → Nat, st = fun j => Pm.iter (mixS s p n) j x := ⟨_, rfl⟩
  have h0 : st 0 = x := by rw [hst]; rfl
  have hss : ∀ j, mixS s p n (st j) = st (j + 1) := fun j => by rw [hst]; rfl
  have hit2 : ∀ j, st j < 2 ^ Pm.lg n * 2 ^ Pm.lg n := fun j => by rw [hst]; exact hit j
  have hK2 : 1 ≤ K ∧ st K < n ∧ ∀ j, 1 ≤ j → j < K → ¬ st j < n := by rw [hst]; exact hK
  have cM2 : ∀ (W : World) (j : Nat), Below w.heap.size w W → Calls Tryd.prog 42 #[.string s, .slice A p.length cap, .int .i64 Bz, .int .i64 (st j : Int)] W fun e w' => e = .returned (.int .i64 (st (j + 1) : Int)) ∧ Below W.heap.size W w' := by
    intro W j hb
    have := cM W hb (st j) (hit2 j)
    rw [hss, ← hBz] at this
    exact this
  rw [← hBz] at cS
  obtain ⟨ans, hans⟩ : ∃ ans, ans = placeS s p n x := ⟨_, rfl⟩
  have hans2 : ans = st K := by rw [hans, hpl, hst]
  rw [← hans]
  obtain ⟨N, hN⟩ : ∃ N, N = p.length := ⟨_, rfl⟩
  rw [← hN] at cM2 ⊢
  have h64 : ∀ j, st j < 65536 := fun j => Nat.lt_of_lt_of_le (hit2 j) (side_sq n)
  have HK := Lib.hid (And.intro hK2 (And.intro hans2 (And.intro h0 h64)))
  have CM := Lib.hid cM2
  have CS := Lib.hid cS
  clear hK hpl hit cS cM hst hss hit2 hK2 cM2 hans hans2 hN hBz h h0 h64
  go_enter Tryd.func31, Tryd.ntmps31
  go_wp2_with fail
  refine (CS.out _).mono ?_
  rintro e w0 ⟨rfl, rfl⟩
  have c0 := CM.out w0 0 (Below.refl _ _)
  rw [HK.out.2.2.1] at c0
  have C0 := Lib.hid c0
  clear c0
  go_wp2_with fail
  refine C0.out.mono ?_
  rintro e w1 ⟨rfl, hb1⟩
  go_wp2_with fail
  go_loopg [10] (K - 1) (fun k z wr => ∃ j : Nat, 1 ≤ j ∧ j ≤ K ∧ k = K - j ∧ z = .int .i64 (st j : Int) ∧ Below w0.heap.size w0 wr)
  case atStart => exact ⟨1, Nat.le_refl _, HK.out.1.1, rfl, rfl, hb1⟩
  case round =>
    clear hb1 C0
    obtain ⟨j, hj1, hjK, hgk, rfl, hb⟩ := hrel
    have HG := Lib.hid hgk
    clear hgk
    have h6 := HK.out.2.2.2 j
    by_cases hlt : j < K
    · have hge := HK.out.1.2.2 j hj1 hlt
      have cj := CM.out wr j hb
      obtain ⟨z, hz⟩ : ∃ z, z = st j := ⟨_, rfl⟩
      rw [← hz] at h6 hge cj
      rw [← hz]
      have CJ := Lib.hid cj
      have hge2 : (n : Int) ≤ z := by omega
      clear hz hge cj
      go_wp2_with fail
      refine CJ.out.mono ?_
      rintro e w2 ⟨rfl, hb2⟩
      go_wp2_with fail
      go_roundg (K - (j + 1))
      case measure => have := HG.out; omega
      case rel => exact ⟨j + 1, by omega, by omega, rfl, rfl, hb.trans (hb2.mono hb.size)⟩
    · obtain rfl : j = K := by omega
      have hl := HK.out.1.2.1
      have ha := HK.out.2.1
      rw [← ha] at hl h6 ⊢
      have hl2 : (ans : Int) < n := by omega
      clear ha
      go_wp2_with fail
      go_ret
      exact ⟨rfl, hb⟩

set_option maxHeartbeats 4000000 in
theorem refAt_any (s : ByteArray) (A : Option Addr) (cap : Nat) (p : List Int) (n i : Int) (w : World) (h : SrcR s A cap p w) :
    Calls Tryd.prog 13 #[.string s, .slice A p.length cap, .int .i64 n, .int .i64 i] w fun e w' => e = .returned (.tuple #[.int .i64 (atP s p n i), .int .i64 (errP s p n i)]) ∧ Below w.heap.size w w' := by
  have cG := refGiven_any s A cap p.length n w (by have := h.src.seed; omega) (by have := h.src.few; omega)
  have cP : ∀ (W : World), Below w.heap.size w W → n ≤ 65536 → 0 ≤ i → i < n → Calls Tryd.prog 31 #[.string s, .slice A p.length cap, .int .i64 n, .int .i64 i] W fun e w' => e = .returned (.int .i64 (placeS s p n.toNat i.toNat : Int)) ∧ Below W.heap.size W w' := by
    intro W hb h1 h2 h3
    have := refPlace_any s A cap p n.toNat i.toNat W (h.below hb) (by omega) (by omega)
    rw [show ((n.toNat : Nat) : Int) = n by omega, show ((i.toNat : Nat) : Int) = i by omega] at this
    exact this
  obtain ⟨x, hx⟩ : ∃ x, x = atP s p n i := ⟨_, rfl⟩
  obtain ⟨y, hy⟩ : ∃ y, y = errP s p n i := ⟨_, rfl⟩
  obtain ⟨N, hN⟩ : ∃ N, N = p.length := ⟨_, rfl⟩
  obtain ⟨g, hg⟩ : ∃ g : Int, g = if s.size > 32 ∨ N > 8 ∨ n > 65536 then 4 else 0 := ⟨_, rfl⟩
  have e1 : g = 4 → x = 0 ∧ y = 4 := fun h => by
    have hc : s.size > 32 ∨ p.length > 8 ∨ n > 65536 := by rw [← hN]; apply Decidable.byContradiction; intro hc; rw [hg, if_neg hc] at h; cases h
    have : errP s p n i = 4 := by unfold errP; rw [if_pos hc]
    exact ⟨by rw [hx]; unfold atP; rw [this]; rfl, by rw [hy, this]⟩
  have e0 : g = 0 → n ≤ 65536 ∧ (¬ (i < 0 ∨ i ≥ n) → x = (placeS s p n.toNat i.toNat : Int) ∧ y = 0) ∧ ((i < 0 ∨ i ≥ n) → x = 0 ∧ y = 1) := fun h => by
    have hc : ¬ (s.size > 32 ∨ p.length > 8 ∨ n > 65536) := by rw [← hN]; intro hc; rw [hg, if_pos hc] at h; cases h
    refine ⟨by omega, fun hi => ?_, fun hi => ?_⟩
    · have : errP s p n i = 0 := by unfold errP; rw [if_neg hc, if_neg hi]
      exact ⟨by rw [hx]; unfold atP; rw [if_pos this], by rw [hy, this]⟩
    · have : errP s p n i = 1 := by unfold errP; rw [if_neg hc, if_pos hi]
      exact ⟨by rw [hx]; unfold atP; rw [this]; rfl, by rw [hy, this]⟩
  have hg2 : g = 4 ∨ g = 0 := by rw [hg]; split <;> simp
  rw [← hN] at cG cP ⊢
  rw [← hg] at cG
  rw [← hx, ← hy]
  have CG := Lib.hid cG
  have CP := Lib.hid cP
  have HE := Lib.hid (And.intro e1 (And.intro e0 hg2))
  clear cG cP e1 e0 hg2 hg hx hy hN h
  go_enter Tryd.func13, Tryd.ntmps13
  go_wp2_with fail
  refine CG.out.mono ?_
  rintro e w0 ⟨rfl, rfl⟩
  rcases HE.out.2.2 with rfl | rfl
  · obtain ⟨rfl, rfl⟩ := HE.out.1 rfl
    go_wp2_with fail
    refine bodyPost_ret (results_tmp2 rfl _ _ _) rfl ⟨rfl, Below.refl _ _⟩
  · obtain ⟨hn, h1, h2⟩ := HE.out.2.1 rfl
    by_cases hi : i < 0
    · obtain ⟨rfl, rfl⟩ := h2 (.inl hi)
      clear h1 h2
      go_wp2_with fail
      refine bodyPost_ret (results_tmp2 rfl _ _ _) rfl ⟨rfl, Below.refl _ _⟩
    · by_cases hi2 : i ≥ n
      · obtain ⟨rfl, rfl⟩ := h2 (.inr hi2)
        clear h1 h2
        go_wp2_with fail
        refine bodyPost_ret (results_tmp2 rfl _ _ _) rfl ⟨rfl, Below.refl _ _⟩
      · obtain ⟨hx, rfl⟩ := h1 (by omega)
        have c2 := CP.out w0 (Below.refl _ _) hn (by omega) (by omega)
        rw [← hx] at c2
        have C2 := Lib.hid c2
        clear h1 h2 hx c2
        go_wp2_with fail
        refine C2.out.mono ?_
        rintro e w1 ⟨rfl, hb⟩
        go_wp2_with fail
        refine bodyPost_ret (results_tmp2 rfl _ _ _) rfl ⟨rfl, hb⟩
end Go.Proofs.YtcmepgjbplpnbaaDoor
end

