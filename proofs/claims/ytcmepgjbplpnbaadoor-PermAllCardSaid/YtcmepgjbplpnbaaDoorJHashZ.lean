import Derived.Test.YtcmepgjbplpnbaaDoorJAppend
import Derived.Test.YtcmepgjbplpnbaaDoorJHashI
import Derived.Test.YtcmepgjbplpnbaaDoorJWireK1

section
/- The contract of the reference's padded. -/



namespace Go.Proofs.YtcmepgjbplpnbaaDoor
open Go.RowKit
set_option linter.unusedVariables false
set_option maxRecDepth 100000

def lenV : Value → Nat
  | .slice _ n _ => n
  | _ => 0
def padA (l : List UInt8) (k : Nat) : List UInt8 := l ++ ([128] ++ H.zeros k)
theorem padA_len (l : List UInt8) (k : Nat) : (padA l k).length = l.length + 1 + k := by simp [padA, H.zeros_len]; omega
theorem padA_succ (l : List UInt8) (k : Nat) : padA l (k + 1) = padA l k ++ [0] := by
  unfold padA H.zeros
  rw [List.replicate_succ']
  simp
def padB (l : List UInt8) (k : Nat) : List UInt8 := padA l ((119 - l.length % 64) % 64) ++ (H.be64 (8 * l.length)).take k
theorem padB_len (l : List UInt8) (k : Nat) (hk : k ≤ 8) : (padB l k).length = l.length + 1 + (119 - l.length % 64) % 64 + k := by
  simp [padB, padA_len, H.be64_len]; omega
theorem padB_succ (l : List UInt8) (k : Nat) (hk : k < 8) : padB l (k + 1) = padB l k ++ [UInt8.ofNat (8 * l.length / 2 ^ (56 - 8 * k))] := by
  unfold padB
  rw [List.take_add_one, be64_at _ k hk, List.append_assoc]
  rfl
theorem padB_full (l : List UInt8) : padB l 8 = H.pad l := by
  unfold padB padA H.pad
  rw [List.take_of_length_le (by rw [H.be64_len]; omega)]
  simp

theorem own_lenV {w : World} {base n size : Nat} {e : TypeId} {v : Value} {xs : List Value} (h : w.ownsRow base e size v n xs) : lenV v = n := by
  rcases h.2 with ⟨rfl, h0⟩ | ⟨g, cap, cur, rfl, _⟩
  · exact h0.symm
  · rfl

set_option maxHeartbeats 2000000 in
theorem refPadded_any (A : Option Addr) (cap : Nat) (l : List UInt8) (w : World) (hr : RdB w w.heap.size A l) (hl : l.length ≤ 100000000) :
    Calls Tryd.prog 68 #[.slice A l.length cap] w (Makes (H.pad l) w) := by
  obtain ⟨i0, hi, hz0, hz1, hz2⟩ := info_parts info_u8
  obtain ⟨n, hn⟩ : ∃ n, n = l.length := ⟨_, rfl⟩
  obtain ⟨w1, hw1⟩ : ∃ w1, w1 = w.alloc (.cells #[] 5) := ⟨_, rfl⟩
  have hb1 : Below w.heap.size w w1 := by rw [hw1]; exact (Below.refl _ _).alloc (Nat.le_refl _) _
  have ho1 : w1.ownsRow w.heap.size 5 1 (.slice (some ⟨w.heap.size, 0, none⟩) 0 0) ([] : List UInt8).length (([] : List UInt8).map bv) := by rw [hw1]; exact own_new w w.heap.size 0 5 [] rfl (Nat.le_refl _) (by decide)
  have hr1 : RdB w1 w1.heap.size A l := (hr.below hb1).more hb1.size
  have HW1 := Lib.hid hw1
  have K1 := Lib.hid (And.intro hb1 (And.intro ho1 hr1))
  have Hn := Lib.hid hn
  rw [← hn] at hl ⊢
  clear hw1 hb1 ho1 hr hr1 hn
  go_enter Tryd.func68, Tryd.ntmps68
  go_wp2_with (first
    | (at_builtin; rw [← HW1.out]; refine wpList_append_ownB w1 rfl (.tmp 6) (.tmp 7) rfl w.heap.size (.slice (some ⟨w.heap.size, 0, none⟩) 0 0) [] l A cap rfl (by rw [← Hn.out]; rfl) K1.out.2.1 K1.out.2.2 (by rw [← Hn.out]; simp; omega) K1.out.1.size ?_; intro v2 w2 hown2 hgrow2; have hb2 := Lib.hid (K1.out.1.grown hgrow2 K1.out.1.size (fun j hj => (K1.out.2.1.lt j hj).1)); rw [List.nil_append] at hown2; clear hgrow2)
    | (at_builtin; refine wpList_append_ownB _ rfl (.tmp 9) (.tmp 10) rfl w.heap.size _ l [128] (some ⟨w2.heap.size, 0, none⟩) 1 rfl rfl (hown2.alloc _) (rd_new w2 [bv 128] 5) (by rw [← Hn.out]; simp; omega) (by have := hb2.out.size; simp; omega) ?_; intro v3 w3 hown3 hgrow3; have hb3 := Lib.hid ((hb2.out.alloc hb2.out.size (.cells #[.int .u8 128] 5)).grown hgrow3 (by have := hb2.out.size; simp; omega) (fun j hj => (hown2.lt j hj).1)); clear hgrow3 hown2 hb2))
  obtain ⟨Z, hZ⟩ : ∃ Z, Z = (119 - n % 64) % 64 := ⟨_, rfl⟩
  have HZ := Lib.hid hZ
  clear hZ
  rw [show l ++ [128] = padA l 0 by simp [padA, H.zeros]] at hown3
  go_loopw [3] (fun v wr => ∃ k, k ≤ Z ∧ wr.ownsRow w.heap.size 5 1 v (padA l k).length ((padA l k).map bv) ∧ Below w.heap.size w wr) (fun v _ => n + 1 + Z - lenV v)
  case atStart => exact ⟨0, Nat.zero_le _, hown3, hb3.out⟩
  case round =>
    clear hown3 hb3
    obtain ⟨k, hk, hown, hbel⟩ := hrel
    have hN := padA_len l k
    rw [← Hn.out] at hN
    have hsucc := padA_succ l k
    obtain ⟨N, hNN⟩ : ∃ N, N = (padA l k).length := ⟨_, rfl⟩
    have hown' := hown
    rw [← hNN] at hN hown'
    obtain ⟨g, cap2, rfl, hg1, hg2, hg3, hg4, hcl⟩ := own_form hown' (by omega)
    have HN := Lib.hid hNN
    have Hs := Lib.hid hsucc
    have Hc := Lib.hid hcl
    clear hNN hsucc hcl hown'
    by_cases hlt : k < Z
    · have hz := HZ.out
      have hm : ((N : Int) % 64 != 56) = true := by simp; omega
      have hm2 : ((N : Int) % 64 == 56) = false := by simp; omega
      have hm3 : (N : Int).tmod 64 = (N : Int) % 64 := Int.tmod_eq_emod_of_nonneg (by omega)
      have hpos : 0 < N := by omega
      have hbig : N ≤ 200000000 := by omega
      have HN1 := Lib.hid hN
      clear hz hN
      go_wp2_with (at_builtin; refine wpList_append_ownB _ rfl (.tmp 16) (.tmp 17) rfl w.heap.size _ (padA l k) [0] (some ⟨wr.heap.size, 0, none⟩) 1 rfl rfl (hown.alloc _) (rd_new wr [bv 0] 5) (by rw [← HN.out]; simp; omega) (by have := hbel.size; simp; omega) ?_; intro v4 w4 hown4 hgrow4; have hb4 := Lib.hid ((hbel.alloc hbel.size (.cells #[.int .u8 0] 5)).grown hgrow4 (by have := hbel.size; simp; omega) (fun j hj => (hown.lt j hj).1)); rw [← Hs.out] at hown4; clear hgrow4 hown hbel)
      refine ⟨⟨k + 1, by omega, hown4, hb4.out⟩, ?_⟩
      rw [own_lenV hown4, padA_len, ← Hn.out]
      show _ < n + 1 + Z - N
      have := HN1.out
      omega
    · have hkz : k = Z := by omega
      have hz := HZ.out
      have hm : ((N : Int) % 64 != 56) = false := by simp; omega
      have hm2 : ((N : Int) % 64 == 56) = true := by simp; omega
      have hm3 : (N : Int).tmod 64 = (N : Int) % 64 := Int.tmod_eq_emod_of_nonneg (by omega)
      have HN1 := Lib.hid hN
      clear hz hN
      have e0 : padA l k = padB l 0 := by rw [hkz, HZ.out, Hn.out]; simp [padB]
      rw [e0] at hown
      clear e0 hkz
      go_wp2_with fail
      go_loopw [3, 5] (fun v i wr => ∃ k : Nat, k ≤ 8 ∧ i = .int .i64 k ∧ wr.ownsRow w.heap.size 5 1 v (padB l k).length ((padB l k).map bv) ∧ Below w.heap.size w wr) (fun _ i _ => 8 - (intOf i).toNat)
      case atStart => exact ⟨0, Nat.zero_le _, rfl, hown, hbel⟩
      case round =>
        clear hown hbel
        obtain ⟨k, hk, rfl, hown, hbel⟩ := hrel
        by_cases hlt : k < 8
        · have ik : (k : Int) < 8 := by omega
          have hsucc := padB_succ l k hlt
          have hN := padB_len l k (by omega)
          rw [← Hn.out] at hN
          have hbig : (padB l k).length ≤ 200000000 := by omega
          have Hs := Lib.hid hsucc
          clear hsucc hN
          obtain ⟨c, hc⟩ : ∃ c, c = UInt8.ofNat (8 * l.length / 2 ^ (56 - 8 * k)) := ⟨_, rfl⟩
          have hbc : Value.int .u8 (8 * (n : Int) / 2 ^ (56 - 8 * k) % 256) = bv c := by
            rw [hc, bv_ofNat, ← div_cast, Hn.out]
            congr 3
          have hrd : RdB (wr.alloc (.cells #[.int .u8 (8 * (n : Int) / 2 ^ (56 - 8 * k) % 256)] 5)) (wr.alloc (.cells #[.int .u8 (8 * (n : Int) / 2 ^ (56 - 8 * k) % 256)] 5)).heap.size (some ⟨wr.heap.size, 0, none⟩) [c] := by
            have := rd_new wr [bv c] 5
            rw [hbc]
            exact this
          have Hrd := Lib.hid hrd
          rw [← hc] at Hs
          clear hrd hbc hc
          go_wp2_with (at_builtin; refine wpList_append_ownB _ rfl (.tmp 27) (.tmp 34) rfl w.heap.size _ (padB l k) [c] (some ⟨wr.heap.size, 0, none⟩) 1 rfl rfl (hown.alloc _) Hrd.out (by simp; omega) (by have := hbel.size; simp; omega) ?_; intro v4 w4 hown4 hgrow4; have hb4 := Lib.hid ((hbel.alloc hbel.size (.cells #[.int .u8 (8 * (n : Int) / 2 ^ (56 - 8 * k) % 256)] 5)).grown hgrow4 (by have := hbel.size; simp; omega) (fun j hj => (hown.lt j hj).1)); rw [← Hs.out] at hown4; clear hgrow4 hown hbel)
          exact ⟨⟨k + 1, by omega, by go_num, hown4, hb4.out⟩, by simp [intOf]; omega⟩
        · have hk8 : k = 8 := by omega
          have ik : (8 : Int) ≤ k := by omega
          rw [hk8, padB_full] at hown
          have Ho := Lib.hid hown
          clear hk8 hown
          go_wp2_with fail
          go_ret
          exact ⟨_, rfl, Ho.out, hbel⟩
end Go.Proofs.YtcmepgjbplpnbaaDoor
end

