import Derived.Deep.QuietTactic
import Derived.BigQuiet
import Derived.Test.YtcmepgjbplpnbaaDoorJPermQ
import Derived.Test.YtcmepgjbplpnbaaDoorJPermRc

section
/- The law PermSizes. -/




namespace Go.Proofs.YtcmepgjbplpnbaaDoor
open Go.RowKit
set_option linter.unusedVariables false
set_option maxRecDepth 100000

/-- Numbers of the same size: more than a quarter of the square. -/
theorem lg_same {n m : Nat} (hn : 2 ≤ n) (hn2 : n ≤ 65536) (hm : 2 ^ Pm.lg n * 2 ^ Pm.lg n / 4 + 1 ≤ m) (hmn : m ≤ n) : Pm.lg m = Pm.lg n := by
  have hc := Pm.lg_cap hn2
  have hl := Pm.lg_le n
  have h1 := fun k hk => Pm.lg_iff (n := m) (by omega) k hk
  have hcm := Pm.lg_cap (n := m) (by omega)
  have hlm := Pm.lg_le m
  have h2 := fun k hk => Pm.lg_iff hn2 k hk
  have le1 : Pm.lg m ≤ Pm.lg n := by
    apply Nat.le_of_not_lt
    intro h
    have := (h1 (Pm.lg n) hl).2 h
    omega
  have le2 : Pm.lg n ≤ Pm.lg m := by
    apply Nat.le_of_not_lt
    intro h
    obtain ⟨j, hj⟩ : ∃ j, Pm.lg n = j + 1 := ⟨Pm.lg n - 1, by omega⟩
    have h3 : ¬ (2 ^ j * 2 ^ j < m) := fun h4 => by have := (h1 j (by omega)).1 h4; omega
    rw [hj] at hm
    have e : 2 ^ (j + 1) * 2 ^ (j + 1) = 4 * (2 ^ j * 2 ^ j) := by rw [Nat.pow_succ]; generalize 2 ^ j = x; rw [show x * 2 * (x * 2) = 4 * (x * x) by rw [Nat.mul_mul_mul_comm]; omega]
    rw [e] at hm
    omega
  omega
theorem least_le {n : Nat} (hn : 2 ≤ n) (hn2 : n ≤ 65536) : 2 ^ Pm.lg n * 2 ^ Pm.lg n / 4 + 1 ≤ n := by
  have h2 := fun k hk => Pm.lg_iff hn2 k hk
  have hl := Pm.lg_le n
  have hc := Pm.lg_cap hn2
  obtain ⟨j, hj⟩ : ∃ j, Pm.lg n = j + 1 := by
    refine ⟨Pm.lg n - 1, ?_⟩
    have := (h2 0 (by omega)).1 (by simp; omega)
    omega
  have h3 := (h2 j (by omega)).2 (by omega)
  rw [hj]
  have e : 2 ^ (j + 1) * 2 ^ (j + 1) = 4 * (2 ^ j * 2 ^ j) := by rw [Nat.pow_succ]; generalize 2 ^ j = x; rw [show x * 2 * (x * 2) = 4 * (x * x) by rw [Nat.mul_mul_mul_comm]; omega]
  rw [e]
  omega
theorem places_same (s : ByteArray) (p : List Int) {n m x : Nat} (hn2 : n ≤ 65536) (hmn : m ≤ n) (hl : Pm.lg m = Pm.lg n) (hx : x < m) (h : placeS s p n x < m) : placeS s p m x = placeS s p n x := by
  have e : mixS s p m = mixS s p n := by unfold mixS; rw [hl]
  unfold placeS at h ⊢
  rw [e]
  exact Pm.place_less (fw_lt s p _) (by omega) (Pm.lg_cap hn2) hmn h

set_option maxHeartbeats 4000000 in
theorem sizes_walk (s : ByteArray) (A : Option Addr) (cap : Nat) (l : List Int) (n m : Int) (w : World) (hr : Rd w w.heap.size A (l.map iv)) (hI : ∀ n ∈ l, M.I64 n) (hl : l.length ≤ 9223372036854775807) (hn : M.I64 n) (hm : M.I64 m) (hT : PTab w) :
    Calls Tryd.prog 8 #[.string s, .slice A l.length cap, .int .i64 n, .int .i64 m] w (Tells true w) := by
  have cP := refPath_any A cap l w hr hI hl
  have hpl := pathOf_len l
  have hpn := pathOf_nums l
  obtain ⟨p, hp⟩ : ∃ p, p = pathOf l := ⟨_, rfl⟩
  obtain ⟨N, hN⟩ : ∃ N, N = l.length := ⟨_, rfl⟩
  rw [← hp] at cP hpl hpn
  rw [← hN] at cP ⊢
  have cS := fun W => refSeed_any s W
  have hqs := shortAt_size 12 s
  obtain ⟨q, hq⟩ : ∃ q, q = shortAt 12 s := ⟨_, rfl⟩
  rw [← hq] at cS hqs
  have ck := fun W => around_any n 120 W hn (by constructor <;> decide)
  have hk := around_lt n 120 (by decide)
  obtain ⟨g0, hg0⟩ := Int.eq_ofNat_of_zero_le hk.1
  rw [hg0] at hk ck
  obtain ⟨G, hG⟩ : ∃ G : Nat, G = g0 + 2 := ⟨_, rfl⟩
  have hgG : (2 : Int) + (g0 : Int) = (G : Int) := by omega
  have hG1 : 2 ≤ G := by omega
  have hG2 : G ≤ 121 := by omega
  have cB := fun W => refSide_any G W (by omega)
  simp only [Int.toNat_natCast] at cB
  have hle := least_le hG1 (by omega)
  have hsm := fun M (h1 : 2 ^ Pm.lg G * 2 ^ Pm.lg G / 4 + 1 ≤ M) (h2 : M ≤ G) => lg_same hG1 (by omega) h1 h2
  have hB := side_le G
  obtain ⟨B, hBB⟩ : ∃ B, B = 2 ^ Pm.lg G := ⟨_, rfl⟩
  rw [← hBB] at cB hle hsm hB
  obtain ⟨Q, hQ⟩ : ∃ Q, Q = B * B := ⟨_, rfl⟩
  have hQ6 : Q ≤ 65536 := by rw [hQ]; have := Nat.mul_le_mul hB hB; omega
  have hBQ : (B : Int) * (B : Int) = (Q : Int) := by rw [hQ]; simp
  rw [← hQ] at hle hsm
  obtain ⟨R, hR⟩ : ∃ R, R = Q / 4 := ⟨_, rfl⟩
  have hQR : (Q : Int).tdiv 4 = (R : Int) := by rw [Int.tdiv_eq_ediv_of_nonneg (by omega)]; omega
  have hQR2 : (Q : Int) / 4 = (R : Int) := by omega
  rw [← hR] at hle hsm
  have cm := fun W => around_any m ((G : Int) - ((R : Int) + 1) + 1) W hm (by constructor <;> omega)
  have hmm := around_lt m ((G : Int) - ((R : Int) + 1) + 1) (by omega)
  obtain ⟨m0, hm0⟩ := Int.eq_ofNat_of_zero_le hmm.1
  rw [hm0] at hmm cm
  obtain ⟨K, hK⟩ : ∃ K : Nat, K = R + 1 + m0 := ⟨_, rfl⟩
  have hmK : (R : Int) + 1 + (m0 : Int) = (K : Int) := by omega
  have hKG : K ≤ G := by omega
  have hlg := hsm K (by omega) hKG
  have hsame := fun (x : Nat) (hx : x < K) (h : placeS q p G x < K) => places_same q p (by omega) hKG hlg hx h
  have CP := Lib.hid cP
  have CS := Lib.hid cS
  have CK := Lib.hid ck
  have CB := Lib.hid cB
  have CM := Lib.hid cm
  have HS := Lib.hid hsame
  have HP := Lib.hid (And.intro hpl (And.intro hpn (And.intro hqs hT)))
  have hB2 : (B : Int) ≤ 256 := by omega
  have hRG : (R : Int) + 1 ≤ G := by omega
  have hK0 : 0 < K := by omega
  clear cP hpl hpn hp hN cS hqs hq ck hk hg0 cB hle hsm hB hBB hQ hR cm hmm hm0 hlg hsame hT hr hI hl hn hm hK hG
  go_enter Tryd.func8, Tryd.ntmps8
  go_wp2_with fail
  refine (CS.out _).mono ?_
  rintro e w0 ⟨rfl, rfl⟩
  go_wp2_with fail
  refine CP.out.mono ?_
  rintro e w1 ⟨v, rfl, hown, hb1⟩
  obtain ⟨A1, c1, rfl, -, -, -⟩ := own_rd (B := 0) hown
  have P1 := psrc_of (s := q) hown (by have := HP.out.2.2.1; omega) (by have := HP.out.1; omega) HP.out.2.1 (HP.out.2.2.2.below hb1)
  have cL := P1.all (by have := HP.out.2.2.1; omega) (by have := HP.out.1; omega) G (by omega)
  have cL2 := fun (W : World) (hb : Below w1.heap.size w1 W) => (P1.below hb).all (by have := HP.out.2.2.1; omega) (by have := HP.out.1; omega) K (by omega)
  obtain ⟨Np, hNp⟩ : ∃ N, N = p.length := ⟨_, rfl⟩
  rw [← hNp] at cL cL2 ⊢
  have CL := Lib.hid cL
  have CL2 := Lib.hid cL2
  have B1 := Lib.hid (And.intro hb1 P1.tab)
  clear hown P1 cL cL2 hNp hb1 CP CS
  go_wp2_with fail
  refine (CK.out _).mono ?_
  rintro e w' ⟨rfl, rfl⟩
  go_wp2_with fail
  refine (CB.out _).mono ?_
  rintro e w'' ⟨rfl, rfl⟩
  go_wp2_with fail
  refine (CM.out _).mono ?_
  rintro e w2 ⟨rfl, rfl⟩
  go_wp2_with fail
  refine CL.out.mono ?_
  rintro e w3 ⟨A3, c3, rfl, hrow, -, -, b3⟩
  obtain ⟨b, rfl, hg1, hg2, hcell⟩ := hrow (by omega)
  have HC := Lib.hid (And.intro hg2 hcell)
  clear hrow hg1 hg2 hcell CL CM CB CK
  go_wp2_with fail
  refine (CL2.out _ b3).mono ?_
  rintro e w4 ⟨A4, c4, rfl, hrow, -, -, b4⟩
  obtain ⟨d, rfl, hg1, hg2, hcell⟩ := hrow hK0
  have HD := Lib.hid (And.intro hg2 hcell)
  have hlt4 : b < w4.heap.size := Nat.lt_of_lt_of_le HC.out.1 b4.size
  have HL4 := Lib.hid hlt4
  have HC4 := Lib.hid (fun (k : Nat) (hk : k < G) => (b4.cell (p := ⟨b, k, none⟩) HC.out.1).trans (HC.out.2 k hk))
  have B4 := Lib.hid (b3.trans (b4.mono b3.size))
  clear hrow hg1 hg2 hcell CL2 b3 b4 hlt4
  have hKK : ((K : Int) != (K : Int)) = false := by simp
  go_wp2_with fail
  go_loopw [19] (fun i wr => ∃ k : Nat, k ≤ K ∧ i = .int .i64 k ∧ Below w4.heap.size w4 wr) (fun i _ => K - (intOf i).toNat)
  case atStart => exact ⟨0, Nat.zero_le _, rfl, Below.refl _ _⟩
  case round =>
    obtain ⟨k, hk, rfl, hb⟩ := hrel
    by_cases hlt : k < K
    · have ck := (hb.cell (p := ⟨b, k, none⟩) HL4.out).trans (HC4.out k (by omega))
      have dk := (hb.cell (p := ⟨d, k, none⟩) HD.out.1).trans (HD.out.2 k hlt)
      have hsm := HS.out k hlt
      obtain ⟨x, hx⟩ : ∃ x, x = placeS q p G k := ⟨_, rfl⟩
      obtain ⟨y, hy⟩ : ∃ x, x = placeS q p K k := ⟨_, rfl⟩
      rw [← hx] at ck hsm
      rw [← hy] at dk hsm
      have hkK : (k : Int) < K := by omega
      have hkG : (k : Int) < G := by omega
      clear hx hy
      by_cases hxK : x < K
      · have hyx := hsm hxK
        subst hyx
        have hxi : (y : Int) < K := by omega
        clear hsm
        go_wp2_with fail
        go_quiet (fail)
        go_wp2_with fail
        exact ⟨⟨k + 1, by omega, by go_num, below_drewN hb _⟩, by simp [intOf]; omega⟩
      · have hxi : ¬ (x : Int) < K := by omega
        have hxd : decide ((x : Int) < K) = false := decide_eq_false hxi
        clear hsm
        go_wp2_with fail
        go_quiet (fail)
        go_wp2_with fail
        exact ⟨⟨k + 1, by omega, by go_num, below_drewN hb _⟩, by simp [intOf]; omega⟩
    · obtain rfl : k = K := by omega
      have cL := lives_any wr (B1.out.2.below (B4.out.trans (hb.mono B4.out.size)))
      have BF := Lib.hid (B1.out.1.trans ((B4.out.trans (hb.mono B4.out.size)).mono B1.out.1.size))
      have CLv := Lib.hid cL
      clear cL
      go_wp2_with fail
      refine CLv.out.mono ?_
      rintro e w10 ⟨rfl, b10⟩
      go_wp2_with fail
      go_ret
      exact ⟨rfl, BF.out.trans (b10.mono BF.out.size)⟩
end Go.Proofs.YtcmepgjbplpnbaaDoor
end

