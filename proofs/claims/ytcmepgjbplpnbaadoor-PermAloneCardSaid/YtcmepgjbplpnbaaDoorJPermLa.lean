import Derived.Test.YtcmepgjbplpnbaaDoorJPermQ

section
/- The law PermAlone. -/

namespace Go.Proofs.YtcmepgjbplpnbaaDoor
open Go.RowKit
set_option linter.unusedVariables false
set_option maxRecDepth 100000

set_option maxHeartbeats 4000000 in
theorem alone_walk (s : ByteArray) (A : Option Addr) (cap : Nat) (l : List Int) (n i : Int) (o : ByteArray) (w : World) (hr : Rd w w.heap.size A (l.map iv)) (hI : ∀ n ∈ l, M.I64 n) (hl : l.length ≤ 9223372036854775807) (hn : M.I64 n) (hi : M.I64 i) (hT : PTab w) :
    Calls Tryd.prog 6 #[.string s, .slice A l.length cap, .int .i64 n, .int .i64 i, .string o] w (Tells true w) := by
  have cP := refPath_any A cap l w hr hI hl
  have hpl := pathOf_len l
  have hpn := pathOf_nums l
  obtain ⟨p, hp⟩ : ∃ p, p = pathOf l := ⟨_, rfl⟩
  obtain ⟨N, hN⟩ : ∃ N, N = l.length := ⟨_, rfl⟩
  rw [← hp] at cP hpl hpn
  rw [← hN] at cP ⊢
  have cS := fun W => refSeed_any s W
  have hqs := shortAt_size 12 s
  obtain ⟨q, hq⟩ : ∃ q, q = shortAt 12 s := ⟨_, rfl⟩
  rw [← hq] at cS hqs
  have cS2 := fun W => refSeed_any o W
  have hqs2 := shortAt_size 12 o
  obtain ⟨q2, hq2⟩ : ∃ q, q = shortAt 12 o := ⟨_, rfl⟩
  rw [← hq2] at cS2 hqs2
  have ck := fun W => around_any n 100 W hn (by constructor <;> decide)
  have hk := around_lt n 100 (by decide)
  obtain ⟨m, hm⟩ := Int.eq_ofNat_of_zero_le hk.1
  rw [hm] at hk ck
  obtain ⟨K, hK⟩ : ∃ K : Nat, K = m + 1 := ⟨_, rfl⟩
  have hmK : (1 : Int) + (m : Int) = (K : Int) := by omega
  have cj := fun W => around_any i K W hi (by constructor <;> omega)
  have hj := around_lt i K (by omega)
  obtain ⟨j, hjj⟩ := Int.eq_ofNat_of_zero_le hj.1
  rw [hjj] at hj cj
  have hi2 : M.I64 (i.tdiv 2) := by
    unfold M.I64 at hi ⊢
    rcases Int.le_total 0 i with h | h
    · rw [Int.tdiv_eq_ediv_of_nonneg h]; omega
    · rw [show i = -(-i) by omega, Int.neg_tdiv, Int.tdiv_eq_ediv_of_nonneg (by omega)]; omega
  have cx := fun W => around_any (i.tdiv 2) K W hi2 (by constructor <;> omega)
  have hx := around_lt (i.tdiv 2) K (by omega)
  obtain ⟨x, hxx⟩ := Int.eq_ofNat_of_zero_le hx.1
  rw [hxx] at hx cx
  obtain ⟨i2, hi2e⟩ : ∃ z, z = i.tdiv 2 := ⟨_, rfl⟩
  rw [← hi2e] at cx
  have CP := Lib.hid cP
  have CS := Lib.hid cS
  have CS2 := Lib.hid cS2
  have CK := Lib.hid ck
  have CJ := Lib.hid cj
  have CX := Lib.hid cx
  have HP := Lib.hid (And.intro hpl (And.intro hpn (And.intro hqs (And.intro hqs2 hT))))
  rw [← hi2e] at hi2
  have HE := Lib.hid (And.intro hi2e hi2)
  have hK1 : K ≤ 100 := by omega
  have hjK : j < K := by omega
  have hxK : x < K := by omega
  clear cP hpl hpn hp hN cS hqs hq cS2 hqs2 hq2 ck hk hm cj hj hjj cx hx hxx hi2 hT hr hI hl hn hi hK
  go_enter Tryd.func6, Tryd.ntmps6
  go_wp2_with fail
  refine (CS.out _).mono ?_
  rintro e w0 ⟨rfl, rfl⟩
  go_wp2_with fail
  refine CP.out.mono ?_
  rintro e w1 ⟨v, rfl, hown, hb1⟩
  obtain ⟨A1, c1, rfl, -, -, -⟩ := own_rd (B := 0) hown
  have P1 := psrc_of (s := q) hown (by have := HP.out.2.2.1; omega) (by have := HP.out.1; omega) HP.out.2.1 (HP.out.2.2.2.2.below hb1)
  have hpl := HP.out.1
  have hqs := HP.out.2.2.1
  have cA := fun (W : World) (hb : Below w1.heap.size w1 W) => (P1.below hb).at (by omega) (by omega) K j (by omega) hjK
  have cB := fun (W : World) (hb : Below w1.heap.size w1 W) => (P1.below hb).back (by omega) (by omega) K x (by omega) hxK
  have cL := fun (W : World) (hb : Below w1.heap.size w1 W) => (P1.below hb).all (by omega) (by omega) K (by omega)
  obtain ⟨u2, hu2⟩ : ∃ u : Nat, u = placeS q2 [] K 0 := ⟨_, rfl⟩
  have c2 : ∀ (W : World), Below w1.heap.size w1 W → Calls Tryd.prog 12 #[.string q2, .slice none 0 0, .int .i64 K, .int .i64 0] W fun e w' => e = .returned (.tuple #[.int .i64 u2, .int .i64 0]) ∧ Below W.heap.size W w' := fun (W : World) (hb : Below w1.heap.size w1 W) => hu2 ▸ (psrc_nil (s := q2) (by have := HP.out.2.2.2.1; omega) (P1.tab.below hb)).at (by have := HP.out.2.2.2.1; omega) (by decide) K 0 (by omega) (by omega)
  obtain ⟨Np, hNp⟩ : ∃ N, N = p.length := ⟨_, rfl⟩
  rw [← hNp] at cA cB cL ⊢
  obtain ⟨z, hz⟩ : ∃ z, z = placeS q p K := ⟨_, rfl⟩
  rw [← hz] at cA cL
  have CA := Lib.hid cA
  have CB := Lib.hid cB
  have CL := Lib.hid cL
  have C2 := Lib.hid c2
  have B1 := Lib.hid (And.intro hb1 P1.tab)
  obtain ⟨u3, hu3⟩ : ∃ u : Nat, u = backS q p K x := ⟨_, rfl⟩
  rw [← hu3] at CB
  clear hown P1 hpl hqs cA cB cL c2 hNp hz hb1 CP CS hu2 hu3 hi2e
  go_wp2_with fail
  refine (CK.out _).mono ?_
  rintro e w' ⟨rfl, rfl⟩
  go_wp2_with fail
  refine (CJ.out _).mono ?_
  rintro e w2 ⟨rfl, rfl⟩
  go_wp2_with fail
  refine (CA.out _ (Below.refl _ _)).mono ?_
  rintro e w3 ⟨rfl, b3⟩
  go_wp2_with fail
  refine (CL.out _ b3).mono ?_
  rintro e w4 ⟨A4, c4, rfl, hrow, -, -, b4⟩
  obtain ⟨b, rfl, hg1, hg2, hcell⟩ := hrow (by omega)
  have b4' := b3.trans (b4.mono b3.size)
  have HC := Lib.hid (And.intro hg2 hcell)
  clear hrow hg1 hg2 hcell b4 b3
  go_wp2_with fail
  refine (CS2.out _).mono ?_
  rintro e w5 ⟨rfl, rfl⟩
  go_wp2_with fail
  refine (C2.out _ b4').mono ?_
  rintro e w6 ⟨rfl, b6⟩
  have b6' := b4'.trans (b6.mono b4'.size)
  have HC6 := Lib.hid (And.intro (Nat.lt_of_lt_of_le HC.out.1 b6.size) (fun k (hk : k < K) => (b6.cell (p := ⟨b, k, none⟩) HC.out.1).trans (HC.out.2 k hk)))
  clear b4' b6 HC
  have hq2 : wrap64 (i.tdiv 2) = i2 := by
    have h1 := HE.out.2
    rw [← HE.out.1]
    unfold M.I64 at h1
    unfold wrap64
    omega
  go_wp2_with fail
  refine (CX.out _).mono ?_
  rintro e w7 ⟨rfl, rfl⟩
  go_wp2_with fail
  refine (CB.out _ b6').mono ?_
  rintro e w8 ⟨rfl, b8⟩
  have b8' := b6'.trans (b8.mono b6'.size)
  have HC8 := Lib.hid (And.intro (Nat.lt_of_lt_of_le HC6.out.1 b8.size) (fun k (hk : k < K) => (b8.cell (p := ⟨b, k, none⟩) HC6.out.1).trans (HC6.out.2 k hk)))
  clear b6' b8 HC6 hq2
  go_wp2_with fail
  refine (CA.out _ b8').mono ?_
  rintro e w9 ⟨rfl, b9⟩
  have b9' := b8'.trans (b9.mono b8'.size)
  have hcj : w9.cell? ⟨b, j, none⟩ = some (.int .i64 (z j : Int)) := (b9.cell (p := ⟨b, j, none⟩) HC8.out.1).trans (HC8.out.2 j hjK)
  have B9 := Lib.hid b9'
  obtain ⟨zj, hzj⟩ : ∃ y : Nat, y = z j := ⟨_, rfl⟩
  rw [← hzj] at hcj ⊢
  have hmin : min (j : Int) (max ((K : Int) - 1) 0) = (j : Int) := by omega
  have hw : wrap64 ((K : Int) - 1) = (K : Int) - 1 := by unfold wrap64; omega
  have hj0 : (j : Int) < K := by omega
  have cL := lives_any w9 (B1.out.2.below b9')
  have BF := Lib.hid (B1.out.1.trans (b9'.mono B1.out.1.size))
  have CLv := Lib.hid cL
  clear b8' b9 b9' HC8 hzj CA CL C2 CB cL B9
  go_wp2_with fail
  refine CLv.out.mono ?_
  rintro e w10 ⟨rfl, b10⟩
  go_wp2_with fail
  go_ret
  exact ⟨rfl, BF.out.trans (b10.mono BF.out.size)⟩
end Go.Proofs.YtcmepgjbplpnbaaDoor
end

