import Derived.Test.YtcmepgjbplpnbaaDoorJPermQ

section
/- The law PermDraws. -/

namespace Go.Proofs.YtcmepgjbplpnbaaDoor
open Go.RowKit
set_option linter.unusedVariables false
set_option maxRecDepth 100000

theorem xor_bits (a b : Nat) (ha : a < 2) (hb : b < 2) : a ^^^ b = (a + b) % 2 := by
  have h1 : a = 0 ∨ a = 1 := by omega
  have h2 : b = 0 ∨ b = 1 := by omega
  rcases h1 with rfl | rfl <;> rcases h2 with rfl | rfl <;> rfl
/-- The pair of x behind c rounds, for 4 numbers. -/
def st4 (s : ByteArray) (p : List Int) (x c : Nat) : Nat × Nat := Pm.rnds (fw s p 2) (Pm.pair 2 x) c
theorem st4_in (s : ByteArray) (p : List Int) (x : Nat) (hx : x < 4) (c : Nat) : (st4 s p x c).1 < 2 ∧ (st4 s p x c).2 < 2 :=
  Pm.rnds_in (k := 1) (F := fw s p 2) (fw_lt s p 1) (Pm.pair_in (B := 2) hx) c
theorem st4_zero (s : ByteArray) (p : List Int) (x : Nat) : st4 s p x 0 = (x / 2, x % 2) := rfl
theorem st4_succ (s : ByteArray) (p : List Int) (x c : Nat) (hx : x < 4) : st4 s p x (c + 1) = ((st4 s p x c).2, ((st4 s p x c).1 + wordN s p ((65536 * c + (st4 s p x c).2 : Nat) : Int) % 2) % 2) := by
  have h := st4_in s p x hx c
  rw [← xor_bits _ _ h.1 (Nat.mod_lt _ (by decide))]
  rfl
theorem place4 (s : ByteArray) (p : List Int) (x : Nat) (hx : x < 4) : placeS s p 4 x = 2 * (st4 s p x 4).1 + (st4 s p x 4).2 := by
  have hm : mixS s p 4 x = (st4 s p x 4).1 * 2 + (st4 s p x 4).2 := rfl
  have hin := st4_in s p x hx 4
  have hh : Pm.Hit (mixS s p 4) 4 x 1 := ⟨Nat.le_refl _, by show mixS s p 4 x < 4; omega, fun j h1 h2 => by omega⟩
  have := Pm.place_is hh
  show Pm.place (mixS s p 4) 4 x = _
  rw [this]
  show mixS s p 4 x = _
  omega

set_option maxHeartbeats 4000000 in
theorem draws_walk (s : ByteArray) (A : Option Addr) (cap : Nat) (l : List Int) (w : World) (hr : Rd w w.heap.size A (l.map iv)) (hI : ∀ n ∈ l, M.I64 n) (hl : l.length ≤ 9223372036854775807) (hT : PTab w) :
    Calls Tryd.prog 7 #[.string s, .slice A l.length cap] w (Tells true w) := by
  have cP := refPath_any A cap l w hr hI hl
  have hpl := pathOf_len l
  have hpn := pathOf_nums l
  obtain ⟨p, hp⟩ : ∃ p, p = pathOf l := ⟨_, rfl⟩
  obtain ⟨N, hN⟩ : ∃ N, N = l.length := ⟨_, rfl⟩
  rw [← hp] at cP hpl hpn
  rw [← hN] at cP ⊢
  have cS := fun W => refSeed_any s W
  have hqs := shortAt_size 12 s
  obtain ⟨q, hq⟩ : ∃ q, q = shortAt 12 s := ⟨_, rfl⟩
  rw [← hq] at cS hqs
  have CP := Lib.hid cP
  have CS := Lib.hid cS
  have HP := Lib.hid (And.intro hpl (And.intro hpn (And.intro hqs hT)))
  clear cP hpl hpn hp hN cS hqs hq hT hr hI hl
  go_enter Tryd.func7, Tryd.ntmps7
  go_wp2_with fail
  refine (CS.out _).mono ?_
  rintro e w0 ⟨rfl, rfl⟩
  go_wp2_with fail
  refine CP.out.mono ?_
  rintro e w1 ⟨v, rfl, hown, hb1⟩
  obtain ⟨A1, c1, rfl, -, -, -⟩ := own_rd (B := 0) hown
  have P1 := psrc_of (s := q) hown (by have := HP.out.2.2.1; omega) (by have := HP.out.1; omega) HP.out.2.1 (HP.out.2.2.2.below hb1)
  have cL := P1.all (by have := HP.out.2.2.1; omega) (by have := HP.out.1; omega) 4 (by decide)
  have cW := fun (W : World) (hb : Below w1.heap.size w1 W) (t : Int) (ht : M.I64 t) => (P1.below hb).src.word t ht
  obtain ⟨Np, hNp⟩ : ∃ N, N = p.length := ⟨_, rfl⟩
  rw [← hNp] at cL cW ⊢
  have CL := Lib.hid cL
  have CW := Lib.hid cW
  have B1 := Lib.hid (And.intro hb1 P1.tab)
  clear hown P1 cL cW hNp hb1 CP CS
  go_wp2_with fail
  refine CL.out.mono ?_
  rintro e w2 ⟨A2, c2, rfl, hrow, -, -, b2⟩
  obtain ⟨b, rfl, hg1, hg2, hcell⟩ := hrow (by decide)
  have HC := Lib.hid (And.intro hg2 hcell)
  have B2 := Lib.hid b2
  clear hrow hg1 hg2 hcell b2 CL
  go_wp2_with fail
  go_loopw [9, 10, 11, 12, 13, 14] (fun i a c r z y wr => ∃ k : Nat, k ≤ 4 ∧ i = .int .i64 k ∧ Below w2.heap.size w2 wr) (fun i _ _ _ _ _ _ => 4 - (intOf i).toNat)
  case atStart => exact ⟨0, by omega, rfl, Below.refl _ _⟩
  case round =>
    obtain ⟨k, hk, rfl, hb⟩ := hrel
    by_cases hlt : k < 4
    · have hk4 : (k : Int) < 4 := by omega
      have hd : (k : Int).tdiv 2 = ((k / 2 : Nat) : Int) := by rw [Int.tdiv_eq_ediv_of_nonneg (by omega)]; simp
      have hm : (k : Int).tmod 2 = ((k % 2 : Nat) : Int) := by rw [Int.tmod_eq_emod_of_nonneg (by omega)]; simp
      obtain ⟨kd, hkd⟩ : ∃ d, d = k / 2 := ⟨_, rfl⟩
      obtain ⟨km, hkm⟩ : ∃ d, d = k % 2 := ⟨_, rfl⟩
      rw [← hkd] at hd
      rw [← hkm] at hm
      have hd2 : (k : Int) / 2 = (kd : Int) := by omega
      have hm2 : (k : Int) % 2 = (km : Int) := by omega
      have HK := Lib.hid (And.intro hkd hkm)
      clear hkd hkm
      go_wp2_with fail
      rename World => Wo
      go_loopw [10, 11, 12, 13, 14] (fun a r c z y wx => ∃ d : Nat, d ≤ 4 ∧ c = .int .i64 d ∧ a = .int .i64 ((st4 q p k d).1 : Int) ∧ r = .int .i64 ((st4 q p k d).2 : Int) ∧ Below w2.heap.size w2 wx) (fun _ _ c _ _ _ => 4 - (intOf c).toNat)
      case atStart => exact ⟨0, by omega, rfl, by rw [st4_zero, HK.out.1], by rw [st4_zero, HK.out.2], hb⟩
      case round =>
        clear hb hd hm hd2 hm2
        obtain ⟨d, hd, rfl, rfl, rfl, hb⟩ := hrel
        have hin := st4_in q p k hlt d
        have hsu := st4_succ q p k d hlt
        have hpl := place4 q p k hlt
        obtain ⟨a, ha⟩ : ∃ a, a = (st4 q p k d).1 := ⟨_, rfl⟩
        obtain ⟨c, hcc⟩ : ∃ a, a = (st4 q p k d).2 := ⟨_, rfl⟩
        rw [← ha, ← hcc] at hin hsu
        rw [← ha, ← hcc]
        obtain ⟨ha2, hc2⟩ := hin
        by_cases hd4 : d < 4
        · have cw := CW.out wr (B2.out.trans (hb.mono B2.out.size)) (65536 * (d : Int) + (c : Int)) (by constructor <;> omega)
          rw [show ((65536 * d + c : Nat) : Int) = 65536 * (d : Int) + (c : Int) by omega] at hsu
          obtain ⟨z, hz⟩ : ∃ z : Nat, z = wordN q p (65536 * (d : Int) + (c : Int)) := ⟨_, rfl⟩
          have hzl : z < 281474976710656 := by rw [hz]; exact wordN_lt _ _ _
          rw [← hz] at cw hsu
          obtain ⟨zm, hzm⟩ : ∃ m, m = z % 2 := ⟨_, rfl⟩
          have hz1 : (z : Int).tmod 2 = (zm : Int) := by rw [Int.tmod_eq_emod_of_nonneg (by omega)]; omega
          have hz2 : (z : Int) % 2 = (zm : Int) := by omega
          rw [← hzm] at hsu
          obtain ⟨y, hy⟩ : ∃ m, m = (a + zm) % 2 := ⟨_, rfl⟩
          have hy1 : ((a : Int) + (zm : Int)).tmod 2 = (y : Int) := by rw [Int.tmod_eq_emod_of_nonneg (by omega)]; omega
          have hy2 : ((a : Int) + (zm : Int)) % 2 = (y : Int) := by omega
          rw [← hy] at hsu
          have hz0 : ¬ (z : Int) < 0 := by omega
          have hzm2 : (zm : Int) < 2 := by omega
          have ha3 : (a : Int) < 2 := by omega
          have hc3 : (c : Int) < 2 := by omega
          have hd5 : (d : Int) < 4 := by omega
          have HS := Lib.hid hsu
          have C := Lib.hid cw
          clear hsu cw hz hzm hy ha hcc hpl ha2 hc2
          go_wp2_with fail
          refine C.out.mono ?_
          rintro e w3 ⟨rfl, hb3⟩
          go_wp2_with fail
          go_roundw
          case rel => exact ⟨d + 1, by omega, by go_num, by rw [HS.out], by rw [HS.out], hb.trans (hb3.mono hb.size)⟩
          case measure => simp [intOf]; omega
        · obtain rfl : d = 4 := by omega
          rw [← ha, ← hcc] at hpl
          have hck := (hb.cell (p := ⟨b, k, none⟩) HC.out.1).trans (HC.out.2 k hlt)
          obtain ⟨P, hP⟩ : ∃ P, P = placeS q p 4 k := ⟨_, rfl⟩
          rw [← hP] at hpl hck
          have hP2 : (2 : Int) * (a : Int) + (c : Int) = (P : Int) := by omega
          have ha3 : (a : Int) < 2 := by omega
          have hc3 : (c : Int) < 2 := by omega
          clear hpl hP ha hcc hsu
          go_wp2_with fail
          exact ⟨⟨k + 1, by omega, by go_num, hb⟩, by simp [intOf]; omega⟩
    · obtain rfl : k = 4 := by omega
      have cL := lives_any wr (B1.out.2.below (B2.out.trans (hb.mono B2.out.size)))
      have BF := Lib.hid (B1.out.1.trans ((B2.out.trans (hb.mono B2.out.size)).mono B1.out.1.size))
      have CLv := Lib.hid cL
      clear cL
      go_wp2_with fail
      refine CLv.out.mono ?_
      rintro e w10 ⟨rfl, b10⟩
      go_wp2_with fail
      go_ret
      exact ⟨rfl, BF.out.trans (b10.mono BF.out.size)⟩
end Go.Proofs.YtcmepgjbplpnbaaDoor
end

