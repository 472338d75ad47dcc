/- The walk of the statement CalendarAgain. -/
import Derived.Test.YtkenfgifhebnpaaDoorCalLd
import Derived.Test.YtkenfgifhebnpaaDoorCalAg
namespace Go.Proofs.YtkenfgifhebnpaaDoor
open Go.RowKit
set_option linter.unusedVariables false
set_option maxRecDepth 100000

set_option maxHeartbeats 8000000 in
theorem calAgain_walk (n a b : Int) (A : Option Addr) (cap : Nat) (l : List Int) (w : World) (hn : M.I64 n) (hka : M.I64 a) (hkb : M.I64 b)
    (hr : Rd w w.heap.size A (l.map iv)) (hI : ∀ n ∈ l, M.I64 n) (hl : l.length ≤ 9223372036854775807) (hD : CDoor w) :
    Calls Tryd.prog 9 #[.int .i64 n, .int .i64 a, .int .i64 b, .slice A l.length cap] w (Tells true w) := by
  have HD := Lib.hid hD
  clear hD
  have cS := some_any n w hn
  have hS := someD_known n
  obtain ⟨day, hday⟩ : ∃ x, x = someD n := ⟨_, rfl⟩
  rw [← hday] at cS hS
  have hin := fun m => hols_in day l m hS
  have hS1 : -146097 ≤ day := hS.1
  have hS2 : day ≤ 146096 := hS.2
  obtain ⟨N, hN⟩ : ∃ N, N = l.length := ⟨_, rfl⟩
  have HR := Lib.hid (And.intro hr (And.intro hI (And.intro hN hin)))
  have CS := Lib.hid cS
  have HI := Lib.hid (And.intro hka (And.intro hkb hS))
  rw [← hN] at hl ⊢
  clear cS hS hday hr hI hN hn hka hkb hin
  go_enter Tryd.func9, Tryd.ntmps9
  go_wp2_with fail
  refine CS.out.mono ?_
  rintro e w1 ⟨rfl, hb1⟩
  have B1 := Lib.hid hb1
  clear hb1 CS
  go_wp2_with fail
  go_loopw [10, 11] (fun h i wr => ∃ m : Nat, m ≤ N ∧ m ≤ 30 ∧ i = .int .i64 m ∧ wr.ownsRow w1.heap.size 3 1 h (hols day l m).length ((hols day l m).map iv) ∧ Below w1.heap.size w1 wr) (fun _ i _ => 30 - (intOf i).toNat)
  case atStart => exact ⟨0, Nat.zero_le _, Nat.zero_le _, rfl, World.ownsRow_nil _ _ _ _, Below.refl _ _⟩
  case round =>
    obtain ⟨m, hmN, hm30, rfl, hown, hb⟩ := hrel
    by_cases hlt : m < N ∧ m < 30
    · obtain ⟨h1, h2⟩ := hlt
      have i1 : (m : Int) < N := by omega
      have i2 : (m : Int) < 30 := by omega
      obtain ⟨x, hx⟩ : ∃ x, l[m]? = some x := ⟨_, List.getElem?_eq_getElem (by have := HR.out.2.2.1; omega)⟩
      have hxI : M.I64 x := HR.out.2.1 x (List.mem_of_getElem? hx)
      have hsu := hols_succ day l m x hx
      have cA := fun W => around_any x 60 W hxI (small64 _ (by decide) (by decide))
      have lA := around_lt x 60 (by decide)
      obtain ⟨ax, ha⟩ : ∃ a, a = around x 60 := ⟨_, rfl⟩
      rw [← ha] at lA hsu
      simp only [← ha] at cA
      obtain ⟨lA1, lA2⟩ := lA
      have hrd := (HR.out.1.below (B1.out.trans (hb.mono B1.out.size)))
      obtain ⟨bl, off, hA, hlb, hcell⟩ := hrd (by rw [List.length_map, ← HR.out.2.2.1]; omega)
      have hc := hcell m (iv x) (by rw [List.getElem?_map, hx]; rfl)
      unfold iv at hc
      have hHl := hols_len day l m
      have CA := Lib.hid cA
      have HS := Lib.hid (And.intro hsu hHl)
      have HB := Lib.hid (And.intro hb hown)
      subst hA
      clear cA ha hsu hHl hb hown hx hxI hrd hcell hlb
      go_wp2_with fail
      refine (CA.out _).mono ?_
      rintro e w' ⟨rfl, rfl⟩
      obtain ⟨T, hT⟩ : ∃ T, T = hols day l m := ⟨_, rfl⟩
      have hTl : T.length ≤ 30 := by have := HS.out.2; rw [hT]; omega
      have hown := HB.out.2
      have hsz := HB.out.1.size
      rw [← hT] at hown
      have HT := Lib.hid hT
      clear hT CA hc
      go_wp2_with (at_builtin; refine wpList_append_ownI _ rfl (.tmp 34) (.tmp 43) rfl w1.heap.size _ T [day + ax - 30] (some ⟨w'.heap.size, 0, none⟩) 1 rfl rfl (hown.alloc _) (rd_new w' [iv (day + ax - 30)] 3) (by simp; omega) (by simp; omega) ?_; intro v' w3 hown' hgrow)
      go_roundw
      case rel =>
        refine ⟨m + 1, by omega, by omega, by go_num, ?_, (HB.out.1.alloc HB.out.1.size _).grown hgrow (by simp; omega) (fun j hj => (hown.lt j hj).1)⟩
        rw [HS.out.1, ← HT.out]
        exact hown'
      case measure => simp [intOf]; omega
    · have hgu : (¬ (m : Int) < N) ∨ ((m : Int) < N ∧ ¬ (m : Int) < 30) := by omega
      have B2 := B1.out.trans (hb.mono B1.out.size)
      have hHl := hols_len day l m
      have hin := HR.out.2.2.2 m
      obtain ⟨H, hH⟩ : ∃ H, H = hols day l m := ⟨_, rfl⟩
      rw [← hH] at hown hHl hin
      have hHl2 : H.length ≤ 30 := by omega
      have cA := fun W => around_any a 30 W HI.out.1 (small64 _ (by decide) (by decide))
      have lA := around_lt a 30 (by decide)
      have cB := fun W => around_any b 30 W HI.out.2.1 (small64 _ (by decide) (by decide))
      have lB := around_lt b 30 (by decide)
      obtain ⟨aa, haa⟩ : ∃ x, x = around a 30 := ⟨_, rfl⟩
      obtain ⟨bb, hbb⟩ : ∃ x, x = around b 30 := ⟨_, rfl⟩
      rw [← haa] at lA
      simp only [← haa] at cA
      rw [← hbb] at lB
      simp only [← hbb] at cB
      obtain ⟨lA1, lA2⟩ := lA
      obtain ⟨lB1, lB2⟩ := lB
      have CA := Lib.hid cA
      have CB := Lib.hid cB
      have ohs := own_rd (B := 0) hown
      obtain ⟨A1, c1, rfl, -, hc1, hc2⟩ := ohs
      have hrdH := own_rd2 hown
      have hrd : ∀ W, Below wr.heap.size wr W → Rd W W.heap.size A1 (H.map iv) := fun W h => (hrdH.below h).more h.size
      have again' := fun p q h => again H day p q HI.out.2.2 (show H.length ≤ 400 by omega) h
      have work := fun d (hd : Cal.known d) n (hn : M.I64 n) W (h : Below wr.heap.size wr W) => calWork_any d n A1 c1 H W (by unfold Cal.known at hd; exact small64 _ (by omega) (by omega)) hn (hrd W h) (by omega) hc1 hc2 hin
      have wking := fun d W (h : Below wr.heap.size wr W) => working_any d A1 c1 H W (hrd W h) (by omega)
      obtain ⟨NL, hNL⟩ : ∃ N, N = H.length := ⟨_, rfl⟩
      simp only [← hNL] at work wking
      rw [← hNL]
      have HW := Lib.hid (And.intro work (And.intro wking again'))
      have fin : ∀ W : World, Below wr.heap.size wr W → Calls Tryd.prog 20 #[] W fun e w' => e = .returned (.bool true) ∧ Below w.heap.size w w' := fun W hb => (calLives_any W (HD.out.below (B2.trans (hb.mono B2.size)) (Nat.le_refl _))).mono fun e w' h => ⟨h.1, (B2.trans (hb.mono B2.size)).trans (h.2.mono (Nat.le_trans B2.size hb.size))⟩
      have FIN := Lib.hid fin
      clear cA cB haa hbb hH hown hin hrdH hHl hb hlt B1 hmN hm30 hrd work wking again' fin B2 HR hNL hHl2
      have hodd : a.tmod 2 = 1 ∨ ¬ a.tmod 2 = 1 := Decidable.em _
      rcases hgu with g1 | ⟨g1, g2⟩
      all_goals
        rcases hodd with h2 | h2
        · go_wp2_with fail
          refine (CA.out _).mono ?_
          rintro e w4 ⟨rfl, rfl⟩
          go_wp2_with fail
          refine (CB.out _).mono ?_
          rintro e w5 ⟨rfl, rfl⟩
          clear CA CB
          go_wp2_with fail
          obtain ⟨p, hp⟩ : ∃ p : Int, p = -(1 + aa) := ⟨_, rfl⟩
          obtain ⟨q, hq⟩ : ∃ q : Int, q = -(1 + bb) := ⟨_, rfl⟩
          rw [← hp, ← hq]
          have hpq : 0 < p ∧ p ≤ 400 ∧ 0 < q ∧ q ≤ 400 ∨ p < 0 ∧ -400 ≤ p ∧ q < 0 ∧ -400 ≤ q := by omega
          have hp1 : -30 ≤ p := by omega
          have hp2 : p ≤ 30 := by omega
          have hq1 : -30 ≤ q := by omega
          have hq2 : q ≤ 30 := by omega
          clear hp hq lA1 lA2 lB1 lB2 h2
          have hag := HW.out.2.2 p q hpq
          have cP := HW.out.1 day HI.out.2.2 p (small64 _ (by omega) (by omega))
          have cQ := HW.out.1 day HI.out.2.2 (p + q) (small64 _ (by omega) (by omega))
          have B0 := Lib.hid (Below.refl w5.heap.size w5)
          rcases hag with ⟨e1, e2⟩ | ⟨x, e1, hx, e2 | ⟨y, e2, e3, hy, e4, e5, e6⟩⟩
          · simp only [e1] at cP
            simp only [e2] at cQ
            have CP := Lib.hid cP
            have CQ := Lib.hid cQ
            clear cP cQ e1 e2 hpq
            refine (CP.out _ B0.out).mono ?_
            rintro e w6 ⟨rfl, hb⟩
            have B1 := Lib.hid (B0.out.trans (hb.mono B0.out.size))
            clear hb B0 CP
            go_wp2_with fail
            refine (CQ.out _ B1.out).mono ?_
            rintro e w7 ⟨rfl, hb⟩
            have B2 := Lib.hid (B1.out.trans (hb.mono B1.out.size))
            clear hb B1 CQ
            go_wp2_with fail
            refine (FIN.out _ B2.out).mono ?_
            rintro e w8 ⟨rfl, hb⟩
            have B3 := Lib.hid hb
            clear hb B2
            go_wp2_with fail
            go_ret
            exact ⟨rfl, B3.out⟩
          · simp only [e1] at cP
            simp only [e2] at cQ
            have CP := Lib.hid cP
            have CQ := Lib.hid cQ
            clear cP cQ e1 e2 hpq
            refine (CP.out _ B0.out).mono ?_
            rintro e w6 ⟨rfl, hb⟩
            have B1 := Lib.hid (B0.out.trans (hb.mono B0.out.size))
            clear hb B0 CP
            go_wp2_with fail
            refine (CQ.out _ B1.out).mono ?_
            rintro e w7 ⟨rfl, hb⟩
            have B2 := Lib.hid (B1.out.trans (hb.mono B1.out.size))
            clear hb B1 CQ
            go_wp2_with fail
            refine (FIN.out _ B2.out).mono ?_
            rintro e w8 ⟨rfl, hb⟩
            have B3 := Lib.hid hb
            clear hb B2
            go_wp2_with fail
            go_ret
            exact ⟨rfl, B3.out⟩
          · have cR := HW.out.1 x hx q (small64 _ (by omega) (by omega))
            have cT := HW.out.1 x hx (-p) (small64 _ (by omega) (by omega))
            have cU := HW.out.2.1 x
            have cV := HW.out.2.1 day
            have cW := fun W => calWeekday_any y W (by unfold Cal.known at hy; exact small64 _ (by omega) (by omega))
            simp only [e1] at cP
            simp only [e2] at cQ
            simp only [e3] at cR
            simp only [e4] at cU
            obtain ⟨v0, hv0⟩ : ∃ v, v = Cal.wk y := ⟨_, rfl⟩
            rw [← hv0] at e5
            simp only [← hv0] at cW
            have hgt : ¬ v0 > 4 := by omega
            have CP := Lib.hid cP
            have CQ := Lib.hid cQ
            have CR := Lib.hid cR
            have CU := Lib.hid cU
            have CW := Lib.hid cW
            obtain ⟨⟨r1, r2⟩, hR⟩ : ∃ R, R = workR x (-p) H := ⟨_, rfl⟩
            obtain ⟨V, hV⟩ : ∃ V, V = works day H := ⟨_, rfl⟩
            simp only [← hR] at cT
            simp only [← hV] at cV
            rw [← hV, ← hR] at e6
            have CT := Lib.hid cT
            have CV := Lib.hid cV
            have E6 := Lib.hid e6
            clear cP cQ cR cT cU cV cW e1 e2 e3 e4 e6 hpq hR hV hv0 e5 hx hy
            refine (CP.out _ B0.out).mono ?_
            rintro e w6 ⟨rfl, hb⟩
            have B1 := Lib.hid (B0.out.trans (hb.mono B0.out.size))
            clear hb B0 CP
            go_wp2_with fail
            refine (CQ.out _ B1.out).mono ?_
            rintro e w7 ⟨rfl, hb⟩
            have B2 := Lib.hid (B1.out.trans (hb.mono B1.out.size))
            clear hb B1 CQ
            go_wp2_with fail
            refine (CR.out _ B2.out).mono ?_
            rintro e w8 ⟨rfl, hb⟩
            have B3 := Lib.hid (B2.out.trans (hb.mono B2.out.size))
            clear hb B2 CR
            go_wp2_with fail
            refine (CU.out _ B3.out).mono ?_
            rintro e w9 ⟨rfl, rfl⟩
            clear CU
            go_wp2_with fail
            refine (CW.out _).mono ?_
            rintro e wa ⟨rfl, hb⟩
            have B4 := Lib.hid (B3.out.trans (hb.mono B3.out.size))
            clear hb B3 CW
            go_wp2_with fail
            refine (CT.out _ B4.out).mono ?_
            rintro e wb ⟨rfl, hb⟩
            have B5 := Lib.hid (B4.out.trans (hb.mono B4.out.size))
            clear hb B4 CT
            go_wp2_with fail
            refine (CV.out _ B5.out).mono ?_
            rintro e wc ⟨rfl, rfl⟩
            clear CV
            cases V
            · go_wp2_with fail
              refine (FIN.out _ B5.out).mono ?_
              rintro e wd ⟨rfl, hb⟩
              have B6 := Lib.hid hb
              clear hb B5
              go_wp2_with fail
              go_ret
              exact ⟨rfl, B6.out⟩
            · obtain ⟨rfl, rfl⟩ := Prod.mk.inj (E6.out rfl)
              go_wp2_with fail
              refine (FIN.out _ B5.out).mono ?_
              rintro e wd ⟨rfl, hb⟩
              have B6 := Lib.hid hb
              clear hb B5
              go_wp2_with fail
              go_ret
              exact ⟨rfl, B6.out⟩
        · go_wp2_with fail
          refine (CA.out _).mono ?_
          rintro e w4 ⟨rfl, rfl⟩
          go_wp2_with fail
          refine (CB.out _).mono ?_
          rintro e w5 ⟨rfl, rfl⟩
          clear CA CB
          go_wp2_with fail
          obtain ⟨p, hp⟩ : ∃ p : Int, p = 1 + aa := ⟨_, rfl⟩
          obtain ⟨q, hq⟩ : ∃ q : Int, q = 1 + bb := ⟨_, rfl⟩
          rw [← hp, ← hq]
          have hpq : 0 < p ∧ p ≤ 400 ∧ 0 < q ∧ q ≤ 400 ∨ p < 0 ∧ -400 ≤ p ∧ q < 0 ∧ -400 ≤ q := by omega
          have hp1 : -30 ≤ p := by omega
          have hp2 : p ≤ 30 := by omega
          have hq1 : -30 ≤ q := by omega
          have hq2 : q ≤ 30 := by omega
          clear hp hq lA1 lA2 lB1 lB2 h2
          have hag := HW.out.2.2 p q hpq
          have cP := HW.out.1 day HI.out.2.2 p (small64 _ (by omega) (by omega))
          have cQ := HW.out.1 day HI.out.2.2 (p + q) (small64 _ (by omega) (by omega))
          have B0 := Lib.hid (Below.refl w5.heap.size w5)
          rcases hag with ⟨e1, e2⟩ | ⟨x, e1, hx, e2 | ⟨y, e2, e3, hy, e4, e5, e6⟩⟩
          · simp only [e1] at cP
            simp only [e2] at cQ
            have CP := Lib.hid cP
            have CQ := Lib.hid cQ
            clear cP cQ e1 e2 hpq
            refine (CP.out _ B0.out).mono ?_
            rintro e w6 ⟨rfl, hb⟩
            have B1 := Lib.hid (B0.out.trans (hb.mono B0.out.size))
            clear hb B0 CP
            go_wp2_with fail
            refine (CQ.out _ B1.out).mono ?_
            rintro e w7 ⟨rfl, hb⟩
            have B2 := Lib.hid (B1.out.trans (hb.mono B1.out.size))
            clear hb B1 CQ
            go_wp2_with fail
            refine (FIN.out _ B2.out).mono ?_
            rintro e w8 ⟨rfl, hb⟩
            have B3 := Lib.hid hb
            clear hb B2
            go_wp2_with fail
            go_ret
            exact ⟨rfl, B3.out⟩
          · simp only [e1] at cP
            simp only [e2] at cQ
            have CP := Lib.hid cP
            have CQ := Lib.hid cQ
            clear cP cQ e1 e2 hpq
            refine (CP.out _ B0.out).mono ?_
            rintro e w6 ⟨rfl, hb⟩
            have B1 := Lib.hid (B0.out.trans (hb.mono B0.out.size))
            clear hb B0 CP
            go_wp2_with fail
            refine (CQ.out _ B1.out).mono ?_
            rintro e w7 ⟨rfl, hb⟩
            have B2 := Lib.hid (B1.out.trans (hb.mono B1.out.size))
            clear hb B1 CQ
            go_wp2_with fail
            refine (FIN.out _ B2.out).mono ?_
            rintro e w8 ⟨rfl, hb⟩
            have B3 := Lib.hid hb
            clear hb B2
            go_wp2_with fail
            go_ret
            exact ⟨rfl, B3.out⟩
          · have cR := HW.out.1 x hx q (small64 _ (by omega) (by omega))
            have cT := HW.out.1 x hx (-p) (small64 _ (by omega) (by omega))
            have cU := HW.out.2.1 x
            have cV := HW.out.2.1 day
            have cW := fun W => calWeekday_any y W (by unfold Cal.known at hy; exact small64 _ (by omega) (by omega))
            simp only [e1] at cP
            simp only [e2] at cQ
            simp only [e3] at cR
            simp only [e4] at cU
            obtain ⟨v0, hv0⟩ : ∃ v, v = Cal.wk y := ⟨_, rfl⟩
            rw [← hv0] at e5
            simp only [← hv0] at cW
            have hgt : ¬ v0 > 4 := by omega
            have CP := Lib.hid cP
            have CQ := Lib.hid cQ
            have CR := Lib.hid cR
            have CU := Lib.hid cU
            have CW := Lib.hid cW
            obtain ⟨⟨r1, r2⟩, hR⟩ : ∃ R, R = workR x (-p) H := ⟨_, rfl⟩
            obtain ⟨V, hV⟩ : ∃ V, V = works day H := ⟨_, rfl⟩
            simp only [← hR] at cT
            simp only [← hV] at cV
            rw [← hV, ← hR] at e6
            have CT := Lib.hid cT
            have CV := Lib.hid cV
            have E6 := Lib.hid e6
            clear cP cQ cR cT cU cV cW e1 e2 e3 e4 e6 hpq hR hV hv0 e5 hx hy
            refine (CP.out _ B0.out).mono ?_
            rintro e w6 ⟨rfl, hb⟩
            have B1 := Lib.hid (B0.out.trans (hb.mono B0.out.size))
            clear hb B0 CP
            go_wp2_with fail
            refine (CQ.out _ B1.out).mono ?_
            rintro e w7 ⟨rfl, hb⟩
            have B2 := Lib.hid (B1.out.trans (hb.mono B1.out.size))
            clear hb B1 CQ
            go_wp2_with fail
            refine (CR.out _ B2.out).mono ?_
            rintro e w8 ⟨rfl, hb⟩
            have B3 := Lib.hid (B2.out.trans (hb.mono B2.out.size))
            clear hb B2 CR
            go_wp2_with fail
            refine (CU.out _ B3.out).mono ?_
            rintro e w9 ⟨rfl, rfl⟩
            clear CU
            go_wp2_with fail
            refine (CW.out _).mono ?_
            rintro e wa ⟨rfl, hb⟩
            have B4 := Lib.hid (B3.out.trans (hb.mono B3.out.size))
            clear hb B3 CW
            go_wp2_with fail
            refine (CT.out _ B4.out).mono ?_
            rintro e wb ⟨rfl, hb⟩
            have B5 := Lib.hid (B4.out.trans (hb.mono B4.out.size))
            clear hb B4 CT
            go_wp2_with fail
            refine (CV.out _ B5.out).mono ?_
            rintro e wc ⟨rfl, rfl⟩
            clear CV
            cases V
            · go_wp2_with fail
              refine (FIN.out _ B5.out).mono ?_
              rintro e wd ⟨rfl, hb⟩
              have B6 := Lib.hid hb
              clear hb B5
              go_wp2_with fail
              go_ret
              exact ⟨rfl, B6.out⟩
            · obtain ⟨rfl, rfl⟩ := Prod.mk.inj (E6.out rfl)
              go_wp2_with fail
              refine (FIN.out _ B5.out).mono ?_
              rintro e wd ⟨rfl, hb⟩
              have B6 := Lib.hid hb
              clear hb B5
              go_wp2_with fail
              go_ret
              exact ⟨rfl, B6.out⟩
end Go.Proofs.YtkenfgifhebnpaaDoor
