import Derived.Test.YtjdidnonfmdfmaaDoorJAround
import Derived.Test.YtjdidnonfmdfmaaDoorJSplitL1
import Derived.Test.YtjdidnonfmdfmaaDoorJSplitM
import Derived.Test.YtjdidnonfmdfmaaDoorJTail

section
/- The walk of the statement SplitEnds, over what split's functions return (AllEnds, PartOne, SplitEx: to be shown of the landed code). -/




namespace Go.Proofs.YtjdidnonfmdfmaaDoor
open Go.RowKit
set_option linter.unusedVariables false
set_option maxRecDepth 100000

/-- All of a split whose total lies at an end, or of one part. -/
def AllEnds : Prop := ∀ (s : ByteArray) (A : Option Addr) (cap : Nat) (p : List Int) (n : Nat) (t lo hi v : Int) (w : World), s.size ≤ 32 → p.length ≤ 6 → p.length ≤ cap → cap ≤ maxLen → Rd w w.heap.size A (p.map iv) → (∀ x ∈ p, M.I64 x) →
  n ≤ 65536 → -1048576 ≤ lo → lo ≤ hi → hi ≤ 1048576 → (t = n * lo ∧ v = lo ∨ t = n * hi ∧ v = hi ∨ n = 1 ∧ v = t ∧ lo ≤ t ∧ t ≤ hi) → HTab w →
  Calls Tryd.prog 14 #[spl s A p.length cap t n lo hi] w (RowR (List.replicate n v) w)
/-- The part of a split of one part. -/
def PartOne : Prop := ∀ (s : ByteArray) (A : Option Addr) (cap : Nat) (p : List Int) (t lo hi : Int) (w : World), s.size ≤ 32 → p.length ≤ 6 → p.length ≤ cap → cap ≤ maxLen → Rd w w.heap.size A (p.map iv) → (∀ x ∈ p, M.I64 x) →
  -1048576 ≤ lo → lo ≤ t → t ≤ hi → hi ≤ 1048576 → HTab w →
  Calls Tryd.prog 18 #[spl s A p.length cap t 1 lo hi, .int .i64 0] w fun e w' => e = .returned (.tuple #[.int .i64 t, .int .i64 0]) ∧ Below w.heap.size w w'
theorem seedM_size (k : Nat) : (seedM k).size ≤ 32 := by
  unfold seedM
  split <;> decide
theorem mPath_in (l : List Int) (k : Nat) : ∀ x ∈ mPath l k, M.I64 x := by
  intro x hx
  unfold mPath at hx
  obtain ⟨i, -, rfl⟩ := List.mem_map.1 hx
  have := atN_lt l (5 + i) 100 (by decide)
  unfold M.I64
  omega

set_option maxHeartbeats 8000000 in
theorem splitEnds_walk (hAll : AllEnds) (hPart : PartOne) (hEx : SplitEx) (A : Option Addr) (cap : Nat) (l : List Int) (w : World) (hr : Rd w w.heap.size A (l.map iv)) (hI : ∀ n ∈ l, M.I64 n) (hl : l.length ≤ 9223372036854775807) (hT : HTab w) :
    Calls Tryd.prog 8 #[.slice A l.length cap] w (Tells true w) := by
  have cM := made_any A cap l w hr hI hl
  have h0 := seedM_size (atN l 0 3).toNat
  have h1 := atN_lt l 1 13 (by decide)
  have h2 := atN_lt l 2 7 (by decide)
  have h3 := atN_lt l 3 12 (by decide)
  have h4 := atN_lt l 4 4 (by decide)
  have cA : ∀ (W : World), Below w.heap.size w W → ∀ (i : Nat) (most : Int), M.I64 most → Calls Tryd.prog 27 #[.slice A l.length cap, .int .i64 (i : Int), .int .i64 most] W fun e w' => e = .returned (.int .i64 (atN l i most)) ∧ w' = W := fun W hb i most hm => atN_any A cap l i most W ((hr.below hb).more hb.size) hI hm hl
  unfold MadeE at cM
  have hpI := mPath_in l (atN l 4 4).toNat
  have hpl : (mPath l (atN l 4 4).toNat).length ≤ 6 := by unfold mPath; simp; omega
  obtain ⟨P, hP⟩ : ∃ P, P = mPath l (atN l 4 4).toNat := ⟨_, rfl⟩
  obtain ⟨sd, hsd⟩ : ∃ s, s = seedM (atN l 0 3).toNat := ⟨_, rfl⟩
  obtain ⟨n, hn⟩ : ∃ n : Nat, atN l 1 13 = (n : Int) := Int.eq_ofNat_of_zero_le h1.1
  obtain ⟨lo, hlo⟩ : ∃ x, x = mLo l := ⟨_, rfl⟩
  obtain ⟨hi, hhi⟩ : ∃ x, x = mHi l := ⟨_, rfl⟩
  obtain ⟨t0, ht0⟩ : ∃ x, x = mTot l := ⟨_, rfl⟩
  obtain ⟨x0, hx0⟩ : ∃ x, x = atN l 3 12 := ⟨_, rfl⟩
  have elo : lo = atN l 2 7 - 2 := hlo
  have ehi : hi = lo + x0 := by rw [hhi, hlo, hx0]; rfl
  rw [show mN l = (n : Int) from hn, ← hP, ← hsd, ← hlo, ← hhi, ← ht0] at cM
  rw [← hP] at hpI hpl
  rw [← hsd] at h0
  rw [hn] at h1
  rw [← hx0] at h3
  have hlo1 : -2 ≤ lo := by omega
  have hlo2 : lo ≤ 4 := by omega
  have hx1 : 0 ≤ x0 := h3.1
  have hx2 : x0 ≤ 11 := by omega
  have hn12 : n ≤ 12 := by omega
  have hlh : lo ≤ hi := by omega
  have hhi2 : hi ≤ 15 := by omega
  obtain ⟨m1, hm1⟩ : ∃ m, m = (n : Int) * lo := ⟨_, rfl⟩
  obtain ⟨m2, hm2⟩ : ∃ m, m = (n : Int) * hi := ⟨_, rfl⟩
  have b1 : (n : Int) * -2 ≤ n * lo := Int.mul_le_mul_of_nonneg_left (by omega) (by omega)
  have b2 : (n : Int) * lo ≤ n * 4 := Int.mul_le_mul_of_nonneg_left (by omega) (by omega)
  have b3 : (n : Int) * -2 ≤ n * hi := Int.mul_le_mul_of_nonneg_left (by omega) (by omega)
  have b4 : (n : Int) * hi ≤ n * 15 := Int.mul_le_mul_of_nonneg_left (by omega) (by omega)
  have hw1 : wrap64 ((n : Int) * lo) = m1 := by rw [← hm1] at b1 b2 ⊢; unfold wrap64; omega
  have hw2 : wrap64 ((n : Int) * hi) = m2 := by rw [← hm2] at b3 b4 ⊢; unfold wrap64; omega
  have HM := Lib.hid (And.intro hm1 (And.intro hm2 ehi))
  obtain ⟨N, hN⟩ : ∃ N, N = l.length := ⟨_, rfl⟩
  rw [← hN] at cM cA ⊢
  have CA := Lib.hid cA
  have CM := Lib.hid cM
  have HA := Lib.hid (And.intro hAll (And.intro hPart (And.intro hEx hT)))
  have HP := Lib.hid (And.intro h0 (And.intro hpl hpI))
  clear cA cM hAll hPart hEx hT h0 hpl hpI hP hsd hn hlo hhi ht0 hx0 elo h1 h2 h3 h4 hN hr hI hl ehi hm1 hm2 b1 b2 b3 b4
  go_enter Tryd.func8, Tryd.ntmps8
  go_wp2_with fail
  refine CM.out.mono ?_
  rintro e w1 ⟨A1, c1, rfl, hrd, hc1, hc2, hb1⟩
  unfold spl
  have H1 := Lib.hid (And.intro hrd (And.intro hc1 (And.intro hc2 hb1)))
  clear hrd hc1 hc2 hb1 CM
  go_wp2_with fail
  clear hw1 hw2
  obtain ⟨WM, hWM⟩ : ∃ W, W = ((w1.alloc (.cells #[.string sd, .slice A1 P.length c1, .int .i64 t0, .int .i64 n, .int .i64 lo, .int .i64 hi] 24)).alloc (.cells #[.string sd, .slice A1 P.length c1, .int .i64 m1, .int .i64 n, .int .i64 lo, .int .i64 hi] 24)).alloc (.cells #[.string sd, .slice A1 P.length c1, .int .i64 m2, .int .i64 n, .int .i64 lo, .int .i64 hi] 24) := ⟨_, rfl⟩
  have k3 : Blk WM w1.heap.size [.string sd, .slice A1 P.length c1, .int .i64 t0, .int .i64 n, .int .i64 lo, .int .i64 hi] 24 := by rw [hWM]; exact ((Blk.new w1 _ _).alloc _).alloc _
  have k4 : Blk WM (w1.heap.size + 1) [.string sd, .slice A1 P.length c1, .int .i64 m1, .int .i64 n, .int .i64 lo, .int .i64 hi] 24 := by
    have := Blk.new (w1.alloc (.cells #[.string sd, .slice A1 P.length c1, .int .i64 t0, .int .i64 n, .int .i64 lo, .int .i64 hi] 24)) [.string sd, .slice A1 P.length c1, .int .i64 m1, .int .i64 n, .int .i64 lo, .int .i64 hi] 24
    rw [World.size_alloc] at this
    rw [hWM]
    exact this.alloc _
  have k5 : Blk WM (w1.heap.size + 1 + 1) [.string sd, .slice A1 P.length c1, .int .i64 m2, .int .i64 n, .int .i64 lo, .int .i64 hi] 24 := by
    have := Blk.new ((w1.alloc (.cells #[.string sd, .slice A1 P.length c1, .int .i64 t0, .int .i64 n, .int .i64 lo, .int .i64 hi] 24)).alloc (.cells #[.string sd, .slice A1 P.length c1, .int .i64 m1, .int .i64 n, .int .i64 lo, .int .i64 hi] 24)) [.string sd, .slice A1 P.length c1, .int .i64 m2, .int .i64 n, .int .i64 lo, .int .i64 hi] 24
    rw [World.size_alloc, World.size_alloc] at this
    rw [hWM]
    exact this
  have hbM : Below w1.heap.size w1 WM := by rw [hWM]; exact (((Below.refl _ _).alloc (Nat.le_refl _) _).alloc (by simp) _).alloc (by simp; omega) _
  rw [← hWM]
  clear hWM
  have step : ∀ (W W' : World), Below W.heap.size W W' → (Blk W w1.heap.size [.string sd, .slice A1 P.length c1, .int .i64 t0, .int .i64 n, .int .i64 lo, .int .i64 hi] 24 ∧ Blk W (w1.heap.size + 1 + 1) [.string sd, .slice A1 P.length c1, .int .i64 m2, .int .i64 n, .int .i64 lo, .int .i64 hi] 24 ∧ Below w.heap.size w W ∧ Rd W W.heap.size A1 (P.map iv)) → (Blk W' w1.heap.size [.string sd, .slice A1 P.length c1, .int .i64 t0, .int .i64 n, .int .i64 lo, .int .i64 hi] 24 ∧ Blk W' (w1.heap.size + 1 + 1) [.string sd, .slice A1 P.length c1, .int .i64 m2, .int .i64 n, .int .i64 lo, .int .i64 hi] 24 ∧ Below w.heap.size w W' ∧ Rd W' W'.heap.size A1 (P.map iv)) :=
    fun W W' hb h => ⟨h.1.below hb h.1.lt, h.2.1.below hb h.2.1.lt, h.2.2.1.trans (hb.mono h.2.2.1.size), (h.2.2.2.below hb).more hb.size⟩
  have ST := Lib.hid step
  have S0 := Lib.hid (And.intro k3 (And.intro k5 (And.intro (H1.out.2.2.2.trans (hbM.mono H1.out.2.2.2.size)) ((H1.out.1.below hbM).more hbM.size))))
  clear step k3 k4 k5 hbM
  have cO := fun t W => splitOwn_any sd A1 P.length c1 t n lo hi W
  have cE := fun t v W (h : t = (n : Int) * lo ∧ v = lo ∨ t = (n : Int) * hi ∧ v = hi ∨ n = 1 ∧ v = t ∧ lo ≤ t ∧ t ≤ hi) (hb : Below w.heap.size w W) (hr : Rd W W.heap.size A1 (P.map iv)) => HA.out.1 sd A1 c1 P n t lo hi v W HP.out.1 HP.out.2.1 H1.out.2.1 H1.out.2.2.1 hr HP.out.2.2 (by omega) (by omega) hlh (by omega) h (HA.out.2.2.2.next hb)
  unfold spl at cO cE
  have CO := Lib.hid cO
  have CE := Lib.hid cE
  clear cO cE
  refine (CO.out _ _).mono ?_
  rintro e w2 ⟨rfl, hb⟩
  have S1 := Lib.hid (ST.out _ _ hb S0.out)
  clear hb S0
  go_wp2_with fail
  refine (CE.out m1 lo _ (.inl ⟨HM.out.1, rfl⟩) S1.out.2.2.1 S1.out.2.2.2).mono ?_
  rintro e w3 ⟨Aa, ca, rfl, hra, -, -, hb⟩
  have S2 := Lib.hid (ST.out _ _ hb S1.out)
  have RA2 := Lib.hid hra
  clear hb S1 hra
  simp only [List.length_replicate]
  have z0 := S2.out.2.1.cell 0 _ rfl
  have z1 := S2.out.2.1.cell 1 _ rfl
  have z2 := S2.out.2.1.cell 2 _ rfl
  have z3 := S2.out.2.1.cell 3 _ rfl
  have z4 := S2.out.2.1.cell 4 _ rfl
  have z5 := S2.out.2.1.cell 5 _ rfl
  go_wp2_with fail
  clear z0 z1 z2 z3 z4 z5
  refine (CO.out _ _).mono ?_
  rintro e w4 ⟨rfl, hb⟩
  have S3 := Lib.hid (ST.out _ _ hb S2.out)
  have RA3 := Lib.hid ((RA2.out.below hb).more hb.size)
  clear hb S2 RA2
  go_wp2_with fail
  refine (CE.out m2 hi _ (.inr (.inl ⟨HM.out.2.1, rfl⟩)) S3.out.2.2.1 S3.out.2.2.2).mono ?_
  rintro e w5 ⟨Ab, cb, rfl, hrb, -, -, hb⟩
  have S4 := Lib.hid (ST.out _ _ hb S3.out)
  have RA4 := Lib.hid ((RA3.out.below hb).more hb.size)
  have RB4 := Lib.hid hrb
  clear hb S3 RA3 hrb
  simp only [List.length_replicate]
  have y3 := S4.out.1.cell 3 _ rfl
  go_wp2_with fail
  go_loopw [10] (fun i wr => ∃ k : Nat, k ≤ n ∧ i = .int .i64 k ∧ Below w5.heap.size w5 wr) (fun i _ => n - (intOf i).toNat)
  case atStart => exact ⟨0, Nat.zero_le _, rfl, Below.refl _ _⟩
  case round =>
    obtain ⟨k, hk, rfl, hb⟩ := hrel
    have S5 := Lib.hid (ST.out _ _ hb S4.out)
    have RA5 := Lib.hid ((RA4.out.below hb).more hb.size)
    have RB5 := Lib.hid ((RB4.out.below hb).more hb.size)
    have HB := Lib.hid hb
    clear hb y3
    by_cases hlt : k < n
    · have hlt2 : (k : Int) < n := by omega
      obtain ⟨ba, oa, hA, hla, hca⟩ := RA5.out (by simp; omega)
      obtain ⟨bb, ob, hB, hlb, hcb⟩ := RB5.out (by simp; omega)
      have x1 := hca k (iv lo) (by simp [hlt])
      have x2 := hcb k (iv hi) (by simp [hlt])
      unfold iv at x1 x2
      have q1 : ∀ q : BelT wr.heap.size wr, q.at.cell? ⟨ba, oa + k, none⟩ = some (.int .i64 lo) := fun q => (q.out.cell hla).trans x1
      have q2 : ∀ q : BelT wr.heap.size wr, q.at.cell? ⟨bb, ob + k, none⟩ = some (.int .i64 hi) := fun q => (q.out.cell hlb).trans x2
      have q4 : ∀ q : BelT wr.heap.size wr, q.at.cell? ⟨w1.heap.size, 4, none⟩ = some (.int .i64 lo) := fun q => (S5.out.1.below q.out S5.out.1.lt).cell 4 _ rfl
      have q5 : ∀ q : BelT wr.heap.size wr, q.at.cell? ⟨w1.heap.size, 5, none⟩ = some (.int .i64 hi) := fun q => (S5.out.1.below q.out S5.out.1.lt).cell 5 _ rfl
      have y3 := S5.out.1.cell 3 _ rfl
      subst hA hB
      clear RA4 RB4 RA5 RB5 hla hlb hca hcb x1 x2
      go_wp2_with fail
      clear y3
      refine wp_region_below wr.heap.size (by kernel_rfl) (by kernel_rfl) ?_
      repeat (go_big_quiet_step (fail))
      refine wpQuiet_nil ?_
      intro w' hw'
      obtain ⟨q, rfl⟩ := hw'
      have HB6 := Lib.hid (HB.out.trans (q.out.mono HB.out.size))
      clear q1 q2 q4 q5
      go_wp2_with fail
      go_roundw
      case rel => exact ⟨k + 1, by omega, by go_num, HB6.out⟩
      case measure => simp [intOf]; omega
    · obtain rfl : k = n := by omega
      have hlt2 : ¬ (k : Int) < k := by omega
      have y0 := S5.out.1.cell 0 _ rfl
      have y1 := S5.out.1.cell 1 _ rfl
      have y2 := S5.out.1.cell 2 _ rfl
      have y3 := S5.out.1.cell 3 _ rfl
      have y4 := S5.out.1.cell 4 _ rfl
      have y5 := S5.out.1.cell 5 _ rfl
      go_wp2_with fail
      obtain ⟨WO, hWO⟩ : ∃ W, W = wr.alloc (.cells #[.string sd, .slice A1 P.length c1, .int .i64 t0, .int .i64 1, .int .i64 lo, .int .i64 hi] 24) := ⟨_, rfl⟩
      have ko : Blk WO wr.heap.size [.string sd, .slice A1 P.length c1, .int .i64 t0, .int .i64 1, .int .i64 lo, .int .i64 hi] 24 := by rw [hWO]; exact Blk.new wr _ _
      have hbO : Below wr.heap.size wr WO := by rw [hWO]; exact (Below.refl _ _).alloc (Nat.le_refl _) _
      have S6 := Lib.hid (ST.out _ _ hbO S5.out)
      have KO := Lib.hid (And.intro ko hbO)
      rw [← hWO]
      clear hWO ko hbO y0 y1 y2 y3 y4 y5
      have lY := atN_lt l 9 (hi - lo + 1) (by omega)
      have cY : ∀ W, Below WO.heap.size WO W → Calls Tryd.prog 27 #[.slice A N cap, .int .i64 9, .int .i64 (hi - lo + 1)] W fun e w' => e = .returned (.int .i64 (atN l 9 (hi - lo + 1))) ∧ w' = W := fun W hb => CA.out W (S6.out.2.2.1.trans (hb.mono S6.out.2.2.1.size)) 9 (hi - lo + 1) (by unfold M.I64; omega)
      obtain ⟨y, hy⟩ : ∃ y, y = atN l 9 (hi - lo + 1) := ⟨_, rfl⟩
      rw [← hy] at lY
      simp only [← hy] at cY
      obtain ⟨lY1, lY2⟩ := lY
      have CY := Lib.hid cY
      clear cY hy
      have q4 : ∀ q : BelS WO.heap.size WO, q.at.cell? ⟨w1.heap.size, 4, none⟩ = some (.int .i64 lo) := fun q => (S6.out.1.below q.out S6.out.1.lt).cell 4 _ rfl
      have q5 : ∀ q : BelS WO.heap.size WO, q.at.cell? ⟨w1.heap.size, 5, none⟩ = some (.int .i64 hi) := fun q => (S6.out.1.below q.out S6.out.1.lt).cell 5 _ rfl
      refine wp_region_headB 11 WO.heap.size (by kernel_rfl) (by kernel_rfl) ?_
      dsimp only [List.take, List.drop]
      repeat (go_big_quiet_step (exact (CY.out _ (BelS.out _)).mono fun e w' h => ⟨h.1, _, h.2⟩))
      refine wpQuiet_nil ?_
      intro w2' hw'
      obtain ⟨q, rfl⟩ := hw'
      obtain ⟨W8, hW8⟩ : ∃ W, W = q.at := ⟨_, rfl⟩
      have ko := KO.out.1.below q.out KO.out.1.lt
      have hb8 := KO.out.2.trans (q.out.mono KO.out.2.size)
      rw [← hW8] at ko hb8 ⊢
      have HB8 := Lib.hid hb8
      have KO8 := Lib.hid ko
      clear q4 q5 hW8 hb8 KO CY
      have z0 := ko.cell 0 _ rfl
      have z1 := ko.cell 1 _ rfl
      have z2 := ko.cell 2 _ rfl
      have z3 := ko.cell 3 _ rfl
      have z4 := ko.cell 4 _ rfl
      have z5 := ko.cell 5 _ rfl
      have f2 := ko.frozen 2
      clear ko
      go_wp2_with fail
      clear z0 z1 z2 z3 z4 z5 f2
      obtain ⟨W9, hW9⟩ : ∃ W, W = W8.setCell ⟨wr.heap.size, 2, none⟩ (.int .i64 (lo + y)) := ⟨_, rfl⟩
      have k9 : Blk W9 wr.heap.size [.string sd, .slice A1 P.length c1, .int .i64 (lo + y), .int .i64 1, .int .i64 lo, .int .i64 hi] 24 := by rw [hW9]; exact KO8.out.set 2 _
      have hb9 : Below wr.heap.size wr W9 := by rw [hW9]; exact HB8.out.setCell (Nat.le_refl _) _
      have S9 := Lib.hid (ST.out _ _ hb9 S5.out)
      have K9 := Lib.hid k9
      rw [← hW9]
      clear hW9 k9 hb9 HB8 KO8 S6
      have cO := fun W => splitOwn_any sd A1 P.length c1 (lo + y) 1 lo hi W
      have cP := fun W (hb : Below w.heap.size w W) (hr : Rd W W.heap.size A1 (P.map iv)) => HA.out.2.1 sd A1 c1 P (lo + y) lo hi W HP.out.1 HP.out.2.1 H1.out.2.1 H1.out.2.2.1 hr HP.out.2.2 (by omega) (by omega) (by omega) (by omega) (HA.out.2.2.2.next hb)
      unfold spl at cO cP
      have CO9 := Lib.hid cO
      have CP9 := Lib.hid cP
      clear cO cP
      refine (CO9.out _).mono ?_
      rintro e wa ⟨rfl, hb⟩
      have Sa := Lib.hid (ST.out _ _ hb S9.out)
      have Ka := Lib.hid (K9.out.below hb K9.out.lt)
      clear hb S9 K9
      go_wp2_with fail
      refine (CP9.out _ Sa.out.2.2.1 Sa.out.2.2.2).mono ?_
      rintro e wb ⟨rfl, hb⟩
      have Sb := Lib.hid (ST.out _ _ hb Sa.out)
      have z2 := (Ka.out.below hb Ka.out.lt).cell 2 _ rfl
      clear hb Sa Ka
      go_wp2_with fail
      refine (splitLives_any HA.out.2.2.1 _ (HA.out.2.2.2.next Sb.out.2.2.1)).mono ?_
      rintro e wc ⟨rfl, hb⟩
      have Bc := Lib.hid (Sb.out.2.2.1.trans (hb.mono Sb.out.2.2.1.size))
      clear hb z2
      go_wp2_with fail
      go_ret
      exact ⟨rfl, Bc.out⟩
end Go.Proofs.YtjdidnonfmdfmaaDoor
end

