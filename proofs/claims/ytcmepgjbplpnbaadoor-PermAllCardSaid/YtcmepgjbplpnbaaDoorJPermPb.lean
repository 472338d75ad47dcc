import Derived.Deep.QuietTactic
import Derived.BigQuiet
import Derived.Test.YtcmepgjbplpnbaaDoorJPermPa
import Derived.Test.YtcmepgjbplpnbaaDoorJPermRc
import Derived.Test.YtcmepgjbplpnbaaDoorJPermRh

section
/- perm: the closures of forward and backward, for whatever words. -/





namespace Go.Proofs.YtcmepgjbplpnbaaDoor
open Go.RowKit
set_option linter.unusedVariables false
set_option maxRecDepth 100000

theorem i64_xor_nat (a b : Nat) (ha : a < 9223372036854775808) (hb : b < 9223372036854775808) : bits .xor .i64 (a : Int) (b : Int) = ((a ^^^ b : Nat) : Int) := by
  have hx : a ^^^ b < 2 ^ 63 := Nat.xor_lt_two_pow (by omega) (by omega)
  have e : ∀ c : Nat, c < 9223372036854775808 → (BitVec.ofInt IntKind.i64.bits (c : Int)).toNat = c := fun c hc => by
    rw [BitVec.toNat_ofInt]
    simp only [IntKind.bits]
    omega
  show IntKind.i64.wrap (((BitVec.ofInt IntKind.i64.bits (a : Int)) ^^^ (BitVec.ofInt IntKind.i64.bits (b : Int))).toNat : Int) = _
  rw [BitVec.toNat_xor, e a ha, e b hb]
  exact i64_in _ (by omega) (by omega)

/-- A function value of two captured variables yields words, whose remainders by B are those of F. -/
def Words (H : FuncId) (d1 d2 : Value) (F : Nat → Nat → Nat) (B : Nat) (w : World) : Prop :=
  ∀ r y, r < 4 → y < B → ∃ z : Nat, z < 281474976710656 ∧ z % B = F r y ∧ ∀ (W : World), Below w.heap.size w W → Calls Tryd.prog H #[.int .i64 r, .int .i64 y, d1, d2] W fun e w' => e = .returned (.int .i64 (z : Int)) ∧ Below W.heap.size W w'
/-- Two variables: a size, and words. -/
structure Mixer (H : FuncId) (d1 d2 : Value) (F : Nat → Nat → Nat) (B b1 b2 : Nat) (w : World) : Prop where
  size : Blk w b1 [.int .i64 B] 3
  fn : Blk w b2 [.func (.func H) #[] #[d1, d2]] 45
  words : Words H d1 d2 F B w
theorem Words.below {H : FuncId} {d1 d2 : Value} {F : Nat → Nat → Nat} {B : Nat} {w w' : World} (h : Words H d1 d2 F B w) (hb : Below w.heap.size w w') : Words H d1 d2 F B w' := fun r y hr hy => by
  obtain ⟨z, h1, h2, h3⟩ := h r y hr hy
  exact ⟨z, h1, h2, fun W hW => h3 W (hb.trans (hW.mono hb.size))⟩
theorem Mixer.below {H : FuncId} {d1 d2 : Value} {F : Nat → Nat → Nat} {B b1 b2 : Nat} {w w' : World} (h : Mixer H d1 d2 F B b1 b2 w) (hb : Below w.heap.size w w') : Mixer H d1 d2 F B b1 b2 w' :=
  ⟨h.size.below hb h.size.lt, h.fn.below hb h.fn.lt, h.words.below hb⟩

set_option maxHeartbeats 4000000 in
theorem forward1_any (H : FuncId) (d1 d2 : Value) (F : Nat → Nat → Nat) (k x b1 b2 : Nat) (w : World) (hcf : ∀ (args : Array Value) (W : World), (callFunc H args).run Tryd.prog W = .ok (.enter H args) W)
    (hk : k ≤ 8) (hF : ∀ r y, F r y < 2 ^ k) (hM : Mixer H d1 d2 F (2 ^ k) b1 b2 w) (hx : x < 2 ^ k * 2 ^ k) :
    Calls Tryd.prog 40 #[.int .i64 x, .pointer (some ⟨b1, 0, none⟩), .pointer (some ⟨b2, 0, none⟩)] w fun e w' => e = .returned (.int .i64 (Pm.mix F (2 ^ k) x : Int)) ∧ Below w.heap.size w w' := by
  have hB : 2 ^ k ≤ 256 := by
    have h : 2 ^ k ≤ 2 ^ 8 := Nat.pow_le_pow_right (by decide) hk
    simpa using h
  have hB0 := Nat.two_pow_pos k
  have hin := fun c => Pm.rnds_in (k := k) hF (Pm.pair_in hx) c
  obtain ⟨B, hBB⟩ : ∃ B, B = 2 ^ k := ⟨_, rfl⟩
  have hxl : ∀ a f : Nat, a < B → f < B → a ^^^ f < B := by rw [hBB]; exact fun a f h1 h2 => Nat.xor_lt_two_pow h1 h2
  have hmx : Pm.mix F B x = Pm.unpair B (Pm.rnds F (Pm.pair B x) 4) := rfl
  rw [← hBB] at hF hin hB hB0 hx hM
  rw [← hBB, hmx]
  obtain ⟨st, hst⟩ : ∃ st, st = Pm.rnds F (Pm.pair B x) := ⟨_, rfl⟩
  rw [← hst] at hin ⊢
  have h00 : st 0 = (x / B, x % B) := by rw [hst]; rfl
  have hss : ∀ c, st (c + 1) = ((st c).2, (st c).1 ^^^ F c (st c).2) := fun c => by rw [hst]; rfl
  have hq : (x : Int).tdiv (B : Int) = ((x / B : Nat) : Int) := by rw [Int.tdiv_eq_ediv_of_nonneg (by omega)]; simp
  have hr : (x : Int).tmod (B : Int) = ((x % B : Nat) : Int) := by rw [Int.tmod_eq_emod_of_nonneg (by omega)]; simp
  have hx0 : x < 65536 := Nat.lt_of_lt_of_le hx (by have := Nat.mul_le_mul hB hB; omega)
  have HS := Lib.hid (And.intro hin (And.intro h00 (And.intro hss hF)))
  have HM := Lib.hid hM
  have HCF := Lib.hid hcf
  have HXL := Lib.hid hxl
  obtain ⟨xq, hxq⟩ : ∃ q, q = x / B := ⟨_, rfl⟩
  obtain ⟨xr, hxr⟩ : ∃ q, q = x % B := ⟨_, rfl⟩
  rw [← hxq] at hq
  rw [← hxr] at hr
  have HX := Lib.hid (And.intro hxq hxr)
  have hxqb : xq < 65536 := by rw [hxq]; exact Nat.lt_of_le_of_lt (Nat.div_le_self _ _) hx0
  have hB1 : (1 : Int) ≤ B := by omega
  have hB2 : ¬ B = 0 := by omega
  have hb1 := hM.size.cell 0 _ rfl
  obtain ⟨ans, hans⟩ : ∃ ans, ans = Pm.unpair B (st 4) := ⟨_, rfl⟩
  rw [← hans]
  have HA := Lib.hid hans
  clear hin h00 hss hst hBB hmx hF hM hx hxq hxr hans hcf hxl
  go_enter Tryd.func40, Tryd.ntmps40
  go_wp2_with fail
  go_quiet (fail)
  go_wp2_with fail
  clear hb1
  go_loopw [5, 6, 7, 14] (fun l r rd i wr => ∃ c : Nat, c ≤ 4 ∧ i = .int .i64 c ∧ l = .int .i64 ((st c).1 : Int) ∧ r = .int .i64 ((st c).2 : Int) ∧ Below w.heap.size w wr) (fun _ _ _ i _ => 4 - (intOf i).toNat)
  case atStart => exact ⟨0, by omega, rfl, by rw [HS.out.2.1, ← HX.out.1], by rw [HS.out.2.1, ← HX.out.2], drewN_below (Below.refl _ _) _⟩
  case round =>
    obtain ⟨c, hc, rfl, rfl, rfl, hb⟩ := hrel
    have hi := HS.out.1 c
    obtain ⟨l, hl⟩ : ∃ l, l = (st c).1 := ⟨_, rfl⟩
    obtain ⟨r, hr9⟩ : ∃ r, r = (st c).2 := ⟨_, rfl⟩
    have hlB : l < B := by rw [hl]; exact hi.1
    have hrB : r < B := by rw [hr9]; exact hi.2
    have hnx := HS.out.2.2.1 c
    rw [← hl, ← hr9] at hnx
    rw [← hl, ← hr9]
    have hM2 := HM.out.below hb
    by_cases hlt : c < 4
    · obtain ⟨z, hz1, hz2, hz3⟩ := hM2.words c r (by omega) hrB
      obtain ⟨f, hf⟩ : ∃ f, f = F c r := ⟨_, rfl⟩
      have hfB : f < B := by rw [hf]; exact HS.out.2.2.2 c r
      rw [← hf] at hnx hz2
      have hzm : (z : Int).tmod (B : Int) = (f : Int) := by rw [Int.tmod_eq_emod_of_nonneg (by omega), ← hz2]; simp
      have hz0 : (z : Int) < 281474976710656 := by omega
      have hyl := HXL.out l f hlB hfB
      obtain ⟨y, hy⟩ : ∃ y, y = l ^^^ f := ⟨_, rfl⟩
      rw [← hy] at hnx hyl
      have hxo : bits .xor .i64 (l : Int) (f : Int) = (y : Int) := by rw [hy]; exact i64_xor_nat l f (by omega) (by omega)
      have cS : ∀ q : BelT wr.heap.size wr, q.at.cell? ⟨b1, 0, none⟩ = some (.int .i64 (B : Int)) := fun q => (hM2.size.below q.out hM2.size.lt).cell 0 _ rfl
      have cF : ∀ q : BelT wr.heap.size wr, q.at.cell? ⟨b2, 0, none⟩ = some (.func (.func H) #[] #[d1, d2]) := fun q => (hM2.fn.below q.out hM2.fn.lt).cell 0 _ rfl
      have CZ := Lib.hid hz3
      have HY := Lib.hid hnx
      have HCF2 := fun W => HCF.out #[.int .i64 (c : Int), .int .i64 (r : Int), d1, d2] W
      have hc4 : (c : Int) < 4 := by omega
      clear hi hl hr9 hnx hM2 hz1 hz2 hz3 hf hlB hfB hq hr
      go_wp2_with fail
      refine wp_region_below wr.heap.size (by kernel_rfl) (by kernel_rfl) ?_
      repeat (go_big_quiet_step (exact (CZ.out _ (BelT.out _)).mono fun e w' h => ⟨h.1, BelT.of ((BelT.out _).trans (h.2.mono (BelT.out _).size))⟩))
      refine wpQuiet_nil ?_
      intro w' hw'
      obtain ⟨q, rfl⟩ := hw'
      go_wp2_with fail
      refine ⟨⟨c + 1, by omega, by go_num, ?_, ?_, hb.trans (q.out.mono hb.size)⟩, by simp [intOf]; omega⟩
      · rw [HY.out]
      · rw [HY.out, ← hy]
    · obtain rfl : c = 4 := by omega
      have c1 := hM2.size.cell 0 _ rfl
      have hlB4 : (l : Int) < 256 := by omega
      have hlb : l * B ≤ 65536 := by have := Nat.mul_le_mul (Nat.le_of_lt hlB) hB; omega
      have hu : Pm.unpair B (st 4) = l * B + r := by unfold Pm.unpair; rw [← hl, ← hr9]
      obtain ⟨m, hm⟩ : ∃ m, m = l * B := ⟨_, rfl⟩
      have hlm : (l : Int) * (B : Int) = (m : Int) := by rw [hm]; simp
      rw [← hm] at hlb hu
      have hm6 : (m : Int) ≤ 65536 := by omega
      have hsum : (ans : Int) = (m : Int) + (r : Int) := by rw [HA.out, hu]; omega
      have HU := Lib.hid hsum
      clear hi hl hr9 hnx hm hu hq hr hsum hM2
      go_wp2_with fail
      go_ret
      exact ⟨by rw [HU.out]; rfl, hb⟩

set_option maxHeartbeats 4000000 in
theorem backward1_any (H : FuncId) (d1 d2 : Value) (F : Nat → Nat → Nat) (k x b1 b2 : Nat) (w : World) (hcf : ∀ (args : Array Value) (W : World), (callFunc H args).run Tryd.prog W = .ok (.enter H args) W)
    (hk : k ≤ 8) (hF : ∀ r y, F r y < 2 ^ k) (hM : Mixer H d1 d2 F (2 ^ k) b1 b2 w) (hx : x < 2 ^ k * 2 ^ k) :
    Calls Tryd.prog 43 #[.int .i64 x, .pointer (some ⟨b1, 0, none⟩), .pointer (some ⟨b2, 0, none⟩)] w fun e w' => e = .returned (.int .i64 (Pm.unmix F (2 ^ k) x : Int)) ∧ Below w.heap.size w w' := by
  have hB : 2 ^ k ≤ 256 := by
    have h : 2 ^ k ≤ 2 ^ 8 := Nat.pow_le_pow_right (by decide) hk
    simpa using h
  have hB0 := Nat.two_pow_pos k
  have hin := fun c => Pm.dnrs_in (k := k) hF (Pm.pair_in hx) c
  obtain ⟨B, hBB⟩ : ∃ B, B = 2 ^ k := ⟨_, rfl⟩
  have hxl : ∀ a f : Nat, a < B → f < B → a ^^^ f < B := by rw [hBB]; exact fun a f h1 h2 => Nat.xor_lt_two_pow h1 h2
  have hmx : Pm.unmix F B x = Pm.unpair B (Pm.dnrs F (Pm.pair B x) 4) := rfl
  rw [← hBB] at hF hin hB hB0 hx hM
  rw [← hBB, hmx]
  obtain ⟨st, hst⟩ : ∃ st, st = Pm.dnrs F (Pm.pair B x) := ⟨_, rfl⟩
  rw [← hst] at hin ⊢
  have h00 : st 0 = (x / B, x % B) := by rw [hst]; rfl
  have hss : ∀ c, st (c + 1) = ((st c).2 ^^^ F (3 - c) (st c).1, (st c).1) := fun c => by rw [hst]; rfl
  have hq : (x : Int).tdiv (B : Int) = ((x / B : Nat) : Int) := by rw [Int.tdiv_eq_ediv_of_nonneg (by omega)]; simp
  have hr : (x : Int).tmod (B : Int) = ((x % B : Nat) : Int) := by rw [Int.tmod_eq_emod_of_nonneg (by omega)]; simp
  have hx0 : x < 65536 := Nat.lt_of_lt_of_le hx (by have := Nat.mul_le_mul hB hB; omega)
  have HS := Lib.hid (And.intro hin (And.intro h00 (And.intro hss hF)))
  have HM := Lib.hid hM
  have HCF := Lib.hid hcf
  have HXL := Lib.hid hxl
  obtain ⟨xq, hxq⟩ : ∃ q, q = x / B := ⟨_, rfl⟩
  obtain ⟨xr, hxr⟩ : ∃ q, q = x % B := ⟨_, rfl⟩
  rw [← hxq] at hq
  rw [← hxr] at hr
  have HX := Lib.hid (And.intro hxq hxr)
  have hxqb : xq < 65536 := by rw [hxq]; exact Nat.lt_of_le_of_lt (Nat.div_le_self _ _) hx0
  have hB1 : (1 : Int) ≤ B := by omega
  have hB2 : ¬ B = 0 := by omega
  have hb1 := hM.size.cell 0 _ rfl
  obtain ⟨ans, hans⟩ : ∃ ans, ans = Pm.unpair B (st 4) := ⟨_, rfl⟩
  rw [← hans]
  have HA := Lib.hid hans
  clear hin h00 hss hst hBB hmx hF hM hx hxq hxr hans hcf hxl
  go_enter Tryd.func43, Tryd.ntmps43
  go_wp2_with fail
  go_quiet (fail)
  go_wp2_with fail
  clear hb1
  go_loopw [5, 6, 7] (fun l r i wr => ∃ c : Nat, c ≤ 4 ∧ i = .int .i64 ((3 : Int) - c) ∧ l = .int .i64 ((st c).1 : Int) ∧ r = .int .i64 ((st c).2 : Int) ∧ Below w.heap.size w wr) (fun _ _ i _ => (intOf i + 1).toNat)
  case atStart => exact ⟨0, by omega, rfl, by rw [HS.out.2.1, ← HX.out.1], by rw [HS.out.2.1, ← HX.out.2], drewN_below (Below.refl _ _) _⟩
  case round =>
    obtain ⟨c, hc, rfl, rfl, rfl, hb⟩ := hrel
    have hi := HS.out.1 c
    obtain ⟨l, hl⟩ : ∃ l, l = (st c).1 := ⟨_, rfl⟩
    obtain ⟨r, hr9⟩ : ∃ r, r = (st c).2 := ⟨_, rfl⟩
    have hlB : l < B := by rw [hl]; exact hi.1
    have hrB : r < B := by rw [hr9]; exact hi.2
    have hnx := HS.out.2.2.1 c
    rw [← hl, ← hr9] at hnx
    rw [← hl, ← hr9]
    have hM2 := HM.out.below hb
    by_cases hlt : c < 4
    · obtain ⟨d, hd⟩ : ∃ d : Nat, d = 3 - c := ⟨_, rfl⟩
      have hdc : (3 : Int) - (c : Int) = (d : Int) := by omega
      rw [← hd] at hnx
      rw [hdc]
      obtain ⟨z, hz1, hz2, hz3⟩ := hM2.words d l (by omega) hlB
      obtain ⟨f, hf⟩ : ∃ f, f = F d l := ⟨_, rfl⟩
      have hfB : f < B := by rw [hf]; exact HS.out.2.2.2 d l
      rw [← hf] at hnx hz2
      have hzm : (z : Int).tmod (B : Int) = (f : Int) := by rw [Int.tmod_eq_emod_of_nonneg (by omega), ← hz2]; simp
      have hz0 : (z : Int) < 281474976710656 := by omega
      have hyl := HXL.out r f hrB hfB
      obtain ⟨y, hy⟩ : ∃ y, y = r ^^^ f := ⟨_, rfl⟩
      rw [← hy] at hnx hyl
      have hxo : bits .xor .i64 (r : Int) (f : Int) = (y : Int) := by rw [hy]; exact i64_xor_nat r f (by omega) (by omega)
      have cS : ∀ q : BelT wr.heap.size wr, q.at.cell? ⟨b1, 0, none⟩ = some (.int .i64 (B : Int)) := fun q => (hM2.size.below q.out hM2.size.lt).cell 0 _ rfl
      have cF : ∀ q : BelT wr.heap.size wr, q.at.cell? ⟨b2, 0, none⟩ = some (.func (.func H) #[] #[d1, d2]) := fun q => (hM2.fn.below q.out hM2.fn.lt).cell 0 _ rfl
      have CZ := Lib.hid hz3
      have hd4 : (d : Int) < 4 := by omega
      have HD := Lib.hid (And.intro hdc hd)
      have HY := Lib.hid hnx
      have HCF2 := fun W => HCF.out #[.int .i64 (d : Int), .int .i64 (l : Int), d1, d2] W
      clear hdc hd hi hl hr9 hnx hM2 hz1 hz2 hz3 hf hlB hfB hq hr
      go_wp2_with fail
      refine wp_region_below wr.heap.size (by kernel_rfl) (by kernel_rfl) ?_
      repeat (go_big_quiet_step (exact (CZ.out _ (BelT.out _)).mono fun e w' h => ⟨h.1, BelT.of ((BelT.out _).trans (h.2.mono (BelT.out _).size))⟩))
      refine wpQuiet_nil ?_
      intro w' hw'
      obtain ⟨q, rfl⟩ := hw'
      go_wp2_with fail
      refine ⟨⟨c + 1, by omega, by congr 1; have := HD.out.1; omega, ?_, ?_, hb.trans (q.out.mono hb.size)⟩, by simp [intOf] <;> omega⟩
      · rw [HY.out, ← hy]
      · rw [HY.out]
    · obtain rfl : c = 4 := by omega
      have c1 := hM2.size.cell 0 _ rfl
      have hlB4 : (l : Int) < 256 := by omega
      have hlb : l * B ≤ 65536 := by have := Nat.mul_le_mul (Nat.le_of_lt hlB) hB; omega
      have hu : Pm.unpair B (st 4) = l * B + r := by unfold Pm.unpair; rw [← hl, ← hr9]
      obtain ⟨m, hm⟩ : ∃ m, m = l * B := ⟨_, rfl⟩
      have hlm : (l : Int) * (B : Int) = (m : Int) := by rw [hm]; simp
      rw [← hm] at hlb hu
      have hm6 : (m : Int) ≤ 65536 := by omega
      have hsum : (ans : Int) = (m : Int) + (r : Int) := by rw [HA.out, hu]; omega
      have HU := Lib.hid hsum
      clear hi hl hr9 hnx hm hu hq hr hsum hM2
      go_wp2_with fail
      go_ret
      exact ⟨by rw [HU.out]; rfl, hb⟩
end Go.Proofs.YtcmepgjbplpnbaaDoor
end

