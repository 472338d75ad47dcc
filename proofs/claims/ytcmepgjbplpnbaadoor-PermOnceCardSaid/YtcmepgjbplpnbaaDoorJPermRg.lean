import Derived.Test.YtcmepgjbplpnbaaDoorJPermRe
import Derived.Test.YtcmepgjbplpnbaaDoorJTake

section
/- The reference's Back and All. -/

namespace Go.Proofs.YtcmepgjbplpnbaaDoor
open Go.RowKit
set_option linter.unusedVariables false
set_option maxRecDepth 100000

set_option maxHeartbeats 4000000 in
theorem refBack_any (s : ByteArray) (A : Option Addr) (cap : Nat) (p : List Int) (n i : Int) (w : World) (h : SrcR s A cap p w) :
    Calls Tryd.prog 15 #[.string s, .slice A p.length cap, .int .i64 n, .int .i64 i] w fun e w' => e = .returned (.tuple #[.int .i64 (backP s p n i), .int .i64 (errP s p n i)]) ∧ Below w.heap.size w w' := by
  have cG := refGiven_any s A cap p.length n w (by have := h.src.seed; omega) (by have := h.src.few; omega)
  obtain ⟨x, hx⟩ : ∃ x, x = backP s p n i := ⟨_, rfl⟩
  obtain ⟨y, hy⟩ : ∃ y, y = errP s p n i := ⟨_, rfl⟩
  obtain ⟨N, hN⟩ : ∃ N, N = p.length := ⟨_, rfl⟩
  obtain ⟨g, hg⟩ : ∃ g : Int, g = if s.size > 32 ∨ N > 8 ∨ n > 65536 then 4 else 0 := ⟨_, rfl⟩
  have e1 : g = 4 → x = 0 ∧ y = 4 := fun h => by
    have hc : s.size > 32 ∨ p.length > 8 ∨ n > 65536 := by rw [← hN]; apply Decidable.byContradiction; intro hc; rw [hg, if_neg hc] at h; cases h
    have : errP s p n i = 4 := by unfold errP; rw [if_pos hc]
    exact ⟨by rw [hx]; unfold backP; rw [this]; rfl, by rw [hy, this]⟩
  have e0 : g = 0 → n ≤ 65536 ∧ (¬ (i < 0 ∨ i ≥ n) → x = (backS s p n.toNat i.toNat : Int) ∧ y = 0) ∧ ((i < 0 ∨ i ≥ n) → x = 0 ∧ y = 1) := fun h => by
    have hc : ¬ (s.size > 32 ∨ p.length > 8 ∨ n > 65536) := by rw [← hN]; intro hc; rw [hg, if_pos hc] at h; cases h
    refine ⟨by omega, fun hi => ?_, fun hi => ?_⟩
    · have : errP s p n i = 0 := by unfold errP; rw [if_neg hc, if_neg hi]
      exact ⟨by rw [hx]; unfold backP; rw [if_pos this], by rw [hy, this]⟩
    · have : errP s p n i = 1 := by unfold errP; rw [if_neg hc, if_pos hi]
      exact ⟨by rw [hx]; unfold backP; rw [this]; rfl, by rw [hy, this]⟩
  have hg2 : g = 4 ∨ g = 0 := by rw [hg]; split <;> simp
  have HH := Lib.hid (And.intro h hN)
  rw [← hN] at cG ⊢
  rw [← hg] at cG
  rw [← hx, ← hy]
  have CG := Lib.hid cG
  have HE := Lib.hid (And.intro e1 (And.intro e0 hg2))
  clear cG e1 e0 hg2 hg hx hy hN h
  go_enter Tryd.func15, Tryd.ntmps15
  go_wp2_with fail
  refine CG.out.mono ?_
  rintro e w0 ⟨rfl, rfl⟩
  rcases HE.out.2.2 with rfl | rfl
  · obtain ⟨rfl, rfl⟩ := HE.out.1 rfl
    go_wp2_with fail
    refine bodyPost_ret (results_tmp2 rfl _ _ _) rfl ⟨rfl, Below.refl _ _⟩
  · obtain ⟨hn, h1, h2⟩ := HE.out.2.1 rfl
    by_cases hi : i < 0
    · obtain ⟨rfl, rfl⟩ := h2 (.inl hi)
      clear h1 h2
      go_wp2_with fail
      refine bodyPost_ret (results_tmp2 rfl _ _ _) rfl ⟨rfl, Below.refl _ _⟩
    · by_cases hi2 : i ≥ n
      · obtain ⟨rfl, rfl⟩ := h2 (.inr hi2)
        clear h1 h2
        go_wp2_with fail
        refine bodyPost_ret (results_tmp2 rfl _ _ _) rfl ⟨rfl, Below.refl _ _⟩
      · obtain ⟨hx, rfl⟩ := h1 (by omega)
        obtain ⟨m, rfl⟩ := Int.eq_ofNat_of_zero_le (show 0 ≤ n by omega)
        obtain ⟨k, rfl⟩ := Int.eq_ofNat_of_zero_le (show 0 ≤ i by omega)
        simp only [Int.toNat_natCast] at hx
        have hm : m ≤ 65536 := by omega
        have hk : k < m := by omega
        obtain ⟨K, hK, hpl⟩ := backS_hit s p hm hk
        have hit := iter_unmix_lt s p hm hk
        have cS := fun W => refSide_any m W (by omega)
        simp only [Int.toNat_natCast] at cS
        obtain ⟨Bz, hBz⟩ : ∃ b : Int, b = ((2 ^ Pm.lg m : Nat) : Int) := ⟨_, rfl⟩
        have cM := fun (W : World) (hb : Below w0.heap.size w0 W) (z : Nat) (hz : z < 2 ^ Pm.lg m * 2 ^ Pm.lg m) => refUnmix_any s A cap p m z W (HH.out.1.below hb) hz
        obtain ⟨st, hst⟩ : ∃ st : Nat → Nat, st = fun j => Pm.iter (unmixS s p m) j k := ⟨_, rfl⟩
        have h0 : st 0 = k := by rw [hst]; rfl
        have hss : ∀ j, unmixS s p m (st j) = st (j + 1) := fun j => by rw [hst]; rfl
        have hit2 : ∀ j, st j < 2 ^ Pm.lg m * 2 ^ Pm.lg m := fun j => by rw [hst]; exact hit j
        have hK2 : 1 ≤ K ∧ st K < m ∧ ∀ j, 1 ≤ j → j < K → ¬ st j < m := by rw [hst]; exact hK
        have cM2 : ∀ (W : World) (j : Nat), Below w0.heap.size w0 W → Calls Tryd.prog 33 #[.string s, .slice A N cap, .int .i64 Bz, .int .i64 (st j : Int)] W fun e w' => e = .returned (.int .i64 (st (j + 1) : Int)) ∧ Below W.heap.size W w' := by
          intro W j hb
          have := cM W hb (st j) (hit2 j)
          rw [hss, ← hBz, ← HH.out.2] at this
          exact this
        rw [← hBz] at cS
        have hans2 : x = (st K : Int) := by rw [hx, hpl, hst]
        have HK := Lib.hid (And.intro hK2 (And.intro hans2 h0))
        have h64 : ∀ j, st j < 65536 := fun j => Nat.lt_of_lt_of_le (hit2 j) (side_sq m)
        have H64 := Lib.hid h64
        have CM := Lib.hid cM2
        have CS := Lib.hid cS
        clear h1 h2 hx hK hpl hit cS cM hst hss hit2 hK2 cM2 hans2 h0 hBz h64 CG HE hi hn
        have hi3 : (k : Int) < m := by omega
        go_wp2_with fail
        refine (CS.out _).mono ?_
        rintro e w1 ⟨rfl, rfl⟩
        go_wp2_with fail
        go_loopg [3] K (fun q z wr => ∃ j : Nat, j < K ∧ q = K - j ∧ z = .int .i64 (st j : Int) ∧ Below w1.heap.size w1 wr)
        case atStart => exact ⟨0, HK.out.1.1, rfl, by rw [HK.out.2.2], Below.refl _ _⟩
        case round =>
          clear hi3 hi2 hk
          obtain ⟨j, hj1, hgk, rfl, hb⟩ := hrel
          have HG := Lib.hid hgk
          clear hgk
          have cj := CM.out wr j hb
          have hz6 := H64.out (j + 1)
          obtain ⟨z, hz⟩ : ∃ z, z = st (j + 1) := ⟨_, rfl⟩
          rw [← hz] at cj hz6
          have HZ := Lib.hid hz
          have CJ := Lib.hid cj
          clear hz cj
          go_wp2_with fail
          refine CJ.out.mono ?_
          rintro e w2 ⟨rfl, hb2⟩
          have HB := Lib.hid (hb.trans (hb2.mono hb.size))
          clear hb hb2 CJ
          by_cases hlt : j + 1 < K
          · have hge := HK.out.1.2.2 (j + 1) (by omega) hlt
            rw [← HZ.out] at hge
            have hge2 : (m : Int) ≤ z := by omega
            have hge3 : ¬ z < m := hge
            clear hge
            go_wp2_with fail
            go_roundg (K - (j + 1))
            case measure => have := HG.out; omega
            case rel => exact ⟨j + 1, hlt, rfl, by rw [HZ.out], HB.out⟩
          · have hjk : j + 1 = K := by omega
            have hl := HK.out.1.2.1
            have ha := HK.out.2.1
            rw [← hjk, ← HZ.out] at hl ha
            have hl2 : (z : Int) < m := by omega
            have HA := Lib.hid ha
            clear ha hjk
            go_wp2_with fail
            refine bodyPost_ret (results_tmp2 rfl _ _ _) rfl ⟨by rw [HA.out]; rfl, HB.out⟩
end Go.Proofs.YtcmepgjbplpnbaaDoor
end

section
/- The reference's All. -/


namespace Go.Proofs.YtcmepgjbplpnbaaDoor
open Go.RowKit
set_option linter.unusedVariables false
set_option maxRecDepth 100000

/-- What All answers: a new row and an error. -/
def GivesI (l : List Int) (y : Int) (w : World) (e : Ending) (w' : World) : Prop := ∃ v, e = .returned (.tuple #[v, .int .i64 y]) ∧ w'.ownsRow w.heap.size 3 1 v l.length (l.map iv) ∧ Below w.heap.size w w'
theorem allS_succ (s : ByteArray) (p : List Int) (n k : Nat) (h : k < n) : (allS s p n).take (k + 1) = (allS s p n).take k ++ [(placeS s p n k : Int)] := by
  have := allS_at s p n k h
  rw [List.take_add_one, this]
  rfl

set_option maxHeartbeats 4000000 in
theorem refAll_any (s : ByteArray) (A : Option Addr) (cap : Nat) (p : List Int) (n : Int) (w : World) (h : SrcR s A cap p w) :
    Calls Tryd.prog 18 #[.string s, .slice A p.length cap, .int .i64 n] w (GivesI (allP s p n) (errA s p n) w) := by
  have cG := refGiven_any s A cap p.length n w (by have := h.src.seed; omega) (by have := h.src.few; omega)
  obtain ⟨l, hl⟩ : ∃ l, l = allP s p n := ⟨_, rfl⟩
  obtain ⟨y, hy⟩ : ∃ y, y = errA s p n := ⟨_, rfl⟩
  obtain ⟨N, hN⟩ : ∃ N, N = p.length := ⟨_, rfl⟩
  obtain ⟨g, hg⟩ : ∃ g : Int, g = if s.size > 32 ∨ N > 8 ∨ n > 65536 then 4 else 0 := ⟨_, rfl⟩
  have e1 : g = 4 → l = [] ∧ y = 4 := fun h => by
    have hc : s.size > 32 ∨ p.length > 8 ∨ n > 65536 := by rw [← hN]; apply Decidable.byContradiction; intro hc; rw [hg, if_neg hc] at h; cases h
    have : errA s p n = 4 := by unfold errA; rw [if_pos hc]
    exact ⟨by rw [hl]; unfold allP; rw [this]; rfl, by rw [hy, this]⟩
  have e0 : g = 0 → n ≤ 65536 ∧ (¬ n < 0 → l = allS s p n.toNat ∧ y = 0) ∧ (n < 0 → l = [] ∧ y = 1) := fun h => by
    have hc : ¬ (s.size > 32 ∨ p.length > 8 ∨ n > 65536) := by rw [← hN]; intro hc; rw [hg, if_pos hc] at h; cases h
    refine ⟨by omega, fun hi => ?_, fun hi => ?_⟩
    · have : errA s p n = 0 := by unfold errA; rw [if_neg hc, if_neg hi]
      exact ⟨by rw [hl]; unfold allP; rw [if_pos this], by rw [hy, this]⟩
    · have : errA s p n = 1 := by unfold errA; rw [if_neg hc, if_pos hi]
      exact ⟨by rw [hl]; unfold allP; rw [this]; rfl, by rw [hy, this]⟩
  have hg2 : g = 4 ∨ g = 0 := by rw [hg]; split <;> simp
  have HH := Lib.hid (And.intro h hN)
  rw [← hN] at cG ⊢
  rw [← hg] at cG
  rw [← hl, ← hy]
  have CG := Lib.hid cG
  have HE := Lib.hid (And.intro e1 (And.intro e0 hg2))
  clear cG e1 e0 hg2 hg hl hy hN h
  go_enter Tryd.func18, Tryd.ntmps18
  go_wp2_with fail
  refine CG.out.mono ?_
  rintro e w0 ⟨rfl, rfl⟩
  rcases HE.out.2.2 with rfl | rfl
  · obtain ⟨rfl, rfl⟩ := HE.out.1 rfl
    go_wp2_with fail
    refine bodyPost_ret (results_tmp2 rfl _ _ _) rfl ⟨_, rfl, World.ownsRow_nil _ _ _ _, Below.refl _ _⟩
  · obtain ⟨hn, h1, h2⟩ := HE.out.2.1 rfl
    by_cases hi : n < 0
    · obtain ⟨rfl, rfl⟩ := h2 hi
      clear h1 h2
      go_wp2_with fail
      refine bodyPost_ret (results_tmp2 rfl _ _ _) rfl ⟨_, rfl, World.ownsRow_nil _ _ _ _, Below.refl _ _⟩
    · obtain ⟨hx, rfl⟩ := h1 (by omega)
      obtain ⟨m, rfl⟩ := Int.eq_ofNat_of_zero_le (show 0 ≤ n by omega)
      simp only [Int.toNat_natCast] at hx
      have hm : m ≤ 65536 := by omega
      have cP : ∀ (W : World) (k : Nat), Below w0.heap.size w0 W → k < m → Calls Tryd.prog 31 #[.string s, .slice A N cap, .int .i64 m, .int .i64 k] W fun e w' => e = .returned (.int .i64 (placeS s p m k : Int)) ∧ Below W.heap.size W w' := by
        intro W k hb hk
        rw [HH.out.2]
        exact refPlace_any s A cap p m k W (HH.out.1.below hb) hm hk
      have hlen : l.length = m := by rw [hx]; exact allS_len _ _ _
      have hsu : ∀ k, k < m → l.take (k + 1) = l.take k ++ [(placeS s p m k : Int)] := fun k hk => by rw [hx]; exact allS_succ s p m k hk
      have HX := Lib.hid (And.intro hlen hsu)
      have CP := Lib.hid cP
      clear h1 h2 hx cP CG HE hi hn hlen hsu
      go_wp2_with fail
      go_loopw [9, 10] (fun v i wr => ∃ k : Nat, k ≤ m ∧ i = .int .i64 k ∧ wr.ownsRow w0.heap.size 3 1 v (l.take k).length ((l.take k).map iv) ∧ Below w0.heap.size w0 wr) (fun _ i _ => m - (intOf i).toNat)
      case atStart => exact ⟨0, Nat.zero_le _, rfl, World.ownsRow_nil _ _ _ _, Below.refl _ _⟩
      case round =>
        obtain ⟨k, hk, rfl, hown, hb⟩ := hrel
        by_cases hlt : k < m
        · have c1 := CP.out wr k hb hlt
          obtain ⟨z, hz⟩ : ∃ z : Nat, z = placeS s p m k := ⟨_, rfl⟩
          have hs := HX.out.2 k hlt
          rw [← hz] at c1 hs
          obtain ⟨T, hT⟩ : ∃ T, T = l.take k := ⟨_, rfl⟩
          have hTl : T.length ≤ 65536 := by rw [hT, List.length_take]; omega
          rw [← hT] at hs hown
          have C1 := Lib.hid c1
          have HS := Lib.hid hs
          have hk2 : (k : Int) < m := by omega
          clear c1 hz hs hT
          go_wp2_with fail
          refine C1.out.mono ?_
          rintro e w2 ⟨rfl, hb2⟩
          have hown2 := own_below hown hb2 (Nat.le_refl _)
          have hb3 := hb.trans (hb2.mono hb.size)
          have hB3 := hb3.size
          clear hb hb2 hown C1
          go_wp2_with (at_builtin; refine wpList_append_ownI _ rfl (.tmp 25) (.tmp 31) rfl w0.heap.size _ T [(z : Int)] (some ⟨w2.heap.size, 0, none⟩) 1 rfl rfl (hown2.alloc _) (rd_new w2 [iv (z : Int)] 3) (by simp; omega) (by simp; omega) ?_; intro v' w3 hown' hgrow)
          go_roundw
          case rel =>
            refine ⟨k + 1, by omega, by go_num, ?_, (hb3.alloc hB3 _).grown hgrow (by simp; omega) (fun j hj => (hown2.lt j hj).1)⟩
            rw [HS.out]
            exact hown'
          case measure => simp [intOf]; omega
        · obtain rfl : k = m := by omega
          rw [← HX.out.1, List.take_length] at hown
          have HO := Lib.hid hown
          clear hown
          go_wp2_with fail
          refine bodyPost_ret (results_tmp2 rfl _ _ _) rfl ⟨_, rfl, HO.out, hb⟩
end Go.Proofs.YtcmepgjbplpnbaaDoor
end

