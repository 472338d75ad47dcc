/- The contract of the reference's Local. -/
import Derived.Test.YtkenfgifhebnpaaDoorCalRi
namespace Go.Proofs.YtkenfgifhebnpaaDoor
open Go.RowKit
set_option linter.unusedVariables false
set_option maxRecDepth 100000

set_option maxHeartbeats 8000000 in
theorem refLocal_any (m o s f t : Int) (w : World) :
    Calls Tryd.prog 27 #[.int .i64 m, .agg #[.int .i64 o, .int .i64 s, .int .i64 f, .int .i64 t]] w fun e w' => e = .returned (.tuple #[.int .i64 (localD m o s f t), .int .i64 (localM m o s f t), .int .i64 (localE m o s f t)]) ∧ Below w.heap.size w w' := by
  have cP := fun W => proper_any o s f t W
  obtain ⟨RD, hD⟩ : ∃ r, r = localD m o s f t := ⟨_, rfl⟩
  obtain ⟨RM, hM⟩ : ∃ r, r = localM m o s f t := ⟨_, rfl⟩
  obtain ⟨RE, hE⟩ : ∃ r, r = localE m o s f t := ⟨_, rfl⟩
  rw [← hD, ← hM, ← hE]
  unfold localD at hD
  unfold localM at hM
  rw [← hE] at hD hM
  unfold localE at hE
  have hk0 : Blk (w.alloc (.cells #[.int .i64 o, .int .i64 s, .int .i64 f, .int .i64 t] 41)) w.heap.size (zc o s f t) 41 := Blk.new w (zc o s f t) _
  have hb0 : Below w.heap.size w (w.alloc (.cells #[.int .i64 o, .int .i64 s, .int .i64 f, .int .i64 t] 41)) := (Below.refl _ _).alloc (Nat.le_refl _) _
  have hsz : w.heap.size ≤ (w.alloc (.cells #[.int .i64 o, .int .i64 s, .int .i64 f, .int .i64 t] 41)).heap.size := by simp
  have K0 := Lib.hid (And.intro hk0 (And.intro hb0 hsz))
  clear hk0 hb0 hsz
  by_cases hp : proper o s f t
  · rw [decide_eq_true hp] at cP
    rw [if_neg (by simp [hp])] at hE
    have CP := Lib.hid cP
    clear cP
    by_cases ho : m < -1000000000 ∨ m > 1000000000
    · rw [if_pos ho] at hE
      rw [if_neg (by omega)] at hD hM
      subst hE hD hM
      clear hp
      rcases ho with h | h
      · go_enter Tryd.func27, Tryd.ntmps27
        go_wp2_with fail
        refine (CP.out _).mono ?_
        rintro e w' ⟨rfl, hb⟩
        have HB := Lib.hid (K0.out.2.1.trans (hb.mono K0.out.2.2))
        clear hb
        go_wp2_with fail
        go_ret3
        exact ⟨rfl, HB.out⟩
      · have h2 : ¬ m < -1000000000 := by omega
        have h3 : 1000000000 < m := h
        go_enter Tryd.func27, Tryd.ntmps27
        go_wp2_with fail
        refine (CP.out _).mono ?_
        rintro e w' ⟨rfl, hb⟩
        have HB := Lib.hid (K0.out.2.1.trans (hb.mono K0.out.2.2))
        clear hb
        go_wp2_with fail
        go_ret3
        exact ⟨rfl, HB.out⟩
    · rw [if_neg ho] at hE
      have m1 : ¬ m < -1000000000 := by omega
      have m2 : ¬ 1000000000 < m := by omega
      have hp2 := hp
      unfold proper at hp2
      obtain ⟨n1, hn1⟩ : ∃ n, n = m + o := ⟨_, rfl⟩
      have hw1 : wrap64 (m + o) = n1 := by unfold wrap64; omega
      have hck : clock m o s f t = if f ≤ n1 / 1440 - Cal.dayV (Cal.cy (n1 / 1440)) 1 1 + 1 ∧ n1 / 1440 - Cal.dayV (Cal.cy (n1 / 1440)) 1 1 + 1 ≤ t - 1 then n1 + s else n1 := by rw [hn1]; rfl
      rw [← hn1] at hE
      have c1 : ∀ (W : World) (x : Int), x = n1 → Calls Tryd.prog 53 #[.int .i64 x] W fun e w' => e = .returned (.int .i64 (n1 / 1440)) ∧ w' = W := fun W x hx => by rw [hx]; exact dayOf_any n1 W (by omega)
      obtain ⟨d1, hd1⟩ : ∃ d, d = n1 / 1440 := ⟨_, rfl⟩
      rw [← hd1] at hE hck c1
      have ck1 := fun W => known_any d1 W
      by_cases hk1 : Cal.known d1
      · rw [decide_eq_true hk1] at ck1
        rw [if_neg (by simp [hk1])] at hE
        have hdy := Cal.day_back hk1
        have hokd := hdy.1
        unfold Cal.okD at hokd
        obtain ⟨y, hy⟩ : ∃ y, y = Cal.cy d1 := ⟨_, rfl⟩
        have cC := fun W => refCivil_any d1 W
        rw [← hy] at cC hck hokd
        generalize Cal.cm d1 = cm1 at *
        generalize Cal.cd d1 = cd1 at *
        have cD := fun W => refDay_any y 1 1 W
        have hok1 : Cal.okD y 1 1 := by
          have := Cal.md_pos y.toNat (1 : Int).toNat
          unfold Cal.okD; omega
        have hkj := (Cal.okD_civ hok1).2
        rw [show Cal.dayE y 1 1 = 0 from if_pos hok1] at cD
        obtain ⟨j, hj⟩ : ∃ j, j = Cal.dayV y 1 1 := ⟨_, rfl⟩
        rw [← hj] at cD hck hkj
        unfold Cal.known at hkj hk1
        have hw2 : wrap64 (wrap64 (d1 - j) + 1) = d1 - j + 1 := by unfold wrap64; omega
        obtain ⟨k, hk⟩ : ∃ k, k = d1 - j + 1 := ⟨_, rfl⟩
        rw [← hk] at hck hw2
        have hw3 : wrap64 (t - 1) = t - 1 := by unfold wrap64; omega
        obtain ⟨n2, hn2⟩ : ∃ n, n = clock m o s f t := ⟨_, rfl⟩
        rw [← hn2] at hck hE hD hM
        have hn2b : n2 = n1 + s ∨ n2 = n1 := by rw [hck]; split <;> simp
        have hn1b : -1000000900 ≤ n1 ∧ n1 ≤ 1000000900 := by omega
        have c2 : ∀ (W : World) (x : Int), x = n2 → Calls Tryd.prog 53 #[.int .i64 x] W fun e w' => e = .returned (.int .i64 (n2 / 1440)) ∧ w' = W := fun W x hx => by rw [hx]; exact dayOf_any n2 W (by omega)
        have c3 : ∀ (W : World) (x : Int), x = n2 → Calls Tryd.prog 43 #[.int .i64 x, .int .i64 1440] W fun e w' => e = .returned (.int .i64 (n2 % 1440)) ∧ w' = W := fun W x hx => by rw [hx]; exact modulo_any n2 1440 W (by omega) (by omega)
        obtain ⟨d2, hd2⟩ : ∃ d, d = n2 / 1440 := ⟨_, rfl⟩
        obtain ⟨r2, hr2⟩ : ∃ d, d = n2 % 1440 := ⟨_, rfl⟩
        rw [← hd2] at c2 hE hD
        rw [← hr2] at c3 hM
        have ck2 := fun W => known_any d2 W
        have hres : (Cal.known d2 ∧ RE = 0 ∧ RD = d2 ∧ RM = r2) ∨ (¬ Cal.known d2 ∧ RE = 5 ∧ RD = 0 ∧ RM = 0) := by
          by_cases hk2 : Cal.known d2
          · rw [if_neg (by simp [hk2])] at hE
            rw [if_pos hE] at hD hM
            exact .inl ⟨hk2, hE, hD, hM⟩
          · rw [if_pos hk2] at hE
            rw [if_neg (by omega)] at hD hM
            exact .inr ⟨hk2, hE, hD, hM⟩
        have hws : wrap64 (n1 + s) = n1 + s := by unfold wrap64; omega
        have CC := Lib.hid cC
        have CD := Lib.hid cD
        have C1 := Lib.hid c1
        have C2 := Lib.hid c2
        have C3 := Lib.hid c3
        have CK1 := Lib.hid ck1
        have CK2 := Lib.hid ck2
        have HR := Lib.hid hres
        have HC := Lib.hid (And.intro hck (And.intro hw1 (And.intro hw2 (And.intro hw3 hws))))
        clear cC cD c1 c2 c3 ck1 ck2 hres hck hw1 hw2 hw3 hws hE hD hM hp hp2 hn1 hd1 hk1 hdy hokd hy hok1 hkj hj hk hn2 hn2b hn1b hd2 hr2 ho
        go_enter Tryd.func27, Tryd.ntmps27
        go_wp2_with fail
        refine (CP.out _).mono ?_
        rintro e W ⟨rfl, hb⟩
        have hz := K0.out.1.below hb K0.out.1.lt
        have z0 := hz.cell 0 _ rfl
        have z1 := hz.cell 1 _ rfl
        have z2 := hz.cell 2 _ rfl
        have z3 := hz.cell 3 _ rfl
        have HB := Lib.hid (K0.out.2.1.trans (hb.mono K0.out.2.2))
        clear hb hz K0 CP
        go_wp2_with fail
        refine (C1.out _ _ HC.out.2.1).mono ?_
        rintro e w' ⟨rfl, hw'⟩
        obtain rfl := hw'.symm
        go_wp2_with fail
        refine (CK1.out _).mono ?_
        rintro e w' ⟨rfl, hw'⟩
        obtain rfl := hw'.symm
        go_wp2_with fail
        refine (C1.out _ _ HC.out.2.1).mono ?_
        rintro e w' ⟨rfl, hw'⟩
        obtain rfl := hw'.symm
        go_wp2_with fail
        refine (CC.out _).mono ?_
        rintro e w' ⟨rfl, hw'⟩
        obtain rfl := hw'.symm
        go_wp2_with fail
        refine (CD.out _).mono ?_
        rintro e w' ⟨rfl, hw'⟩
        obtain rfl := hw'.symm
        go_wp2_with fail
        refine (C1.out _ _ HC.out.2.1).mono ?_
        rintro e w' ⟨rfl, hw'⟩
        obtain rfl := hw'.symm
        by_cases xa : f ≤ k
        · by_cases xb : k ≤ t - 1
          · have x1 : f ≤ wrap64 (wrap64 (d1 - j) + 1) := by rw [HC.out.2.2.1]; exact xa
            have x2 : wrap64 (wrap64 (d1 - j) + 1) ≤ wrap64 (t - 1) := by rw [HC.out.2.2.1, HC.out.2.2.2.1]; exact xb
            have hc2 := HC.out.1
            rw [if_pos ⟨xa, xb⟩] at hc2
            have HN := Lib.hid hc2
            clear hc2 xa xb
            go_wp2_with fail
            have hx : wrap64 (wrap64 (m + o) + s) = n2 := by rw [HC.out.2.1, HC.out.2.2.2.2, HN.out]
            have HX := Lib.hid hx
            clear hx
            refine (C2.out _ _ HX.out).mono ?_
            rintro e w' ⟨rfl, hw'⟩
            obtain rfl := hw'.symm
            rcases HR.out with ⟨hk2, rfl, rfl, rfl⟩ | ⟨hk2, rfl, rfl, rfl⟩
            · have ck := CK2.out W
              rw [decide_eq_true hk2] at ck
              have CK := Lib.hid ck
              clear ck hk2 HR HC
              go_wp2_with fail
              refine (CK.out).mono ?_
              rintro e w' ⟨rfl, hw'⟩
              obtain rfl := hw'.symm
              go_wp2_with fail
              refine (C2.out _ _ HX.out).mono ?_
              rintro e w' ⟨rfl, hw'⟩
              obtain rfl := hw'.symm
              go_wp2_with fail
              refine (C3.out _ _ HX.out).mono ?_
              rintro e w' ⟨rfl, hw'⟩
              obtain rfl := hw'.symm
              go_wp2_with fail
              go_ret3
              exact ⟨rfl, HB.out⟩
            · have ck := CK2.out W
              rw [decide_eq_false hk2] at ck
              have CK := Lib.hid ck
              clear ck hk2 HR HC
              go_wp2_with fail
              refine (CK.out).mono ?_
              rintro e w' ⟨rfl, hw'⟩
              obtain rfl := hw'.symm
              go_wp2_with fail
              go_ret3
              exact ⟨rfl, HB.out⟩
          · have x1 : f ≤ wrap64 (wrap64 (d1 - j) + 1) := by rw [HC.out.2.2.1]; exact xa
            have x2 : ¬ wrap64 (wrap64 (d1 - j) + 1) ≤ wrap64 (t - 1) := by rw [HC.out.2.2.1, HC.out.2.2.2.1]; exact xb
            have hc2 := HC.out.1
            rw [if_neg (fun h => xb h.2)] at hc2
            have HN := Lib.hid hc2
            clear hc2 xa xb
            go_wp2_with fail
            have hx : wrap64 (m + o) = n2 := by rw [HC.out.2.1, HN.out]
            have HX := Lib.hid hx
            clear hx
            refine (C2.out _ _ HX.out).mono ?_
            rintro e w' ⟨rfl, hw'⟩
            obtain rfl := hw'.symm
            rcases HR.out with ⟨hk2, rfl, rfl, rfl⟩ | ⟨hk2, rfl, rfl, rfl⟩
            · have ck := CK2.out W
              rw [decide_eq_true hk2] at ck
              have CK := Lib.hid ck
              clear ck hk2 HR HC
              go_wp2_with fail
              refine (CK.out).mono ?_
              rintro e w' ⟨rfl, hw'⟩
              obtain rfl := hw'.symm
              go_wp2_with fail
              refine (C2.out _ _ HX.out).mono ?_
              rintro e w' ⟨rfl, hw'⟩
              obtain rfl := hw'.symm
              go_wp2_with fail
              refine (C3.out _ _ HX.out).mono ?_
              rintro e w' ⟨rfl, hw'⟩
              obtain rfl := hw'.symm
              go_wp2_with fail
              go_ret3
              exact ⟨rfl, HB.out⟩
            · have ck := CK2.out W
              rw [decide_eq_false hk2] at ck
              have CK := Lib.hid ck
              clear ck hk2 HR HC
              go_wp2_with fail
              refine (CK.out).mono ?_
              rintro e w' ⟨rfl, hw'⟩
              obtain rfl := hw'.symm
              go_wp2_with fail
              go_ret3
              exact ⟨rfl, HB.out⟩
        · have x1 : ¬ f ≤ wrap64 (wrap64 (d1 - j) + 1) := by rw [HC.out.2.2.1]; exact xa
          have hc2 := HC.out.1
          rw [if_neg (fun h => xa h.1)] at hc2
          have HN := Lib.hid hc2
          clear hc2 xa
          go_wp2_with fail
          have hx : wrap64 (m + o) = n2 := by rw [HC.out.2.1, HN.out]
          have HX := Lib.hid hx
          clear hx
          refine (C2.out _ _ HX.out).mono ?_
          rintro e w' ⟨rfl, hw'⟩
          obtain rfl := hw'.symm
          rcases HR.out with ⟨hk2, rfl, rfl, rfl⟩ | ⟨hk2, rfl, rfl, rfl⟩
          · have ck := CK2.out W
            rw [decide_eq_true hk2] at ck
            have CK := Lib.hid ck
            clear ck hk2 HR HC
            go_wp2_with fail
            refine (CK.out).mono ?_
            rintro e w' ⟨rfl, hw'⟩
            obtain rfl := hw'.symm
            go_wp2_with fail
            refine (C2.out _ _ HX.out).mono ?_
            rintro e w' ⟨rfl, hw'⟩
            obtain rfl := hw'.symm
            go_wp2_with fail
            refine (C3.out _ _ HX.out).mono ?_
            rintro e w' ⟨rfl, hw'⟩
            obtain rfl := hw'.symm
            go_wp2_with fail
            go_ret3
            exact ⟨rfl, HB.out⟩
          · have ck := CK2.out W
            rw [decide_eq_false hk2] at ck
            have CK := Lib.hid ck
            clear ck hk2 HR HC
            go_wp2_with fail
            refine (CK.out).mono ?_
            rintro e w' ⟨rfl, hw'⟩
            obtain rfl := hw'.symm
            go_wp2_with fail
            go_ret3
            exact ⟨rfl, HB.out⟩
      · rw [decide_eq_false hk1] at ck1
        rw [if_pos hk1] at hE
        rw [if_neg (by omega)] at hD hM
        subst hE hD hM
        have C1 := Lib.hid c1
        have CK1 := Lib.hid ck1
        have HW := Lib.hid hw1
        clear c1 ck1 hk1 hp hp2 hck hw1 hn1 hd1 ho
        go_enter Tryd.func27, Tryd.ntmps27
        go_wp2_with fail
        refine (CP.out _).mono ?_
        rintro e W ⟨rfl, hb⟩
        have hz := K0.out.1.below hb K0.out.1.lt
        have z0 := hz.cell 0 _ rfl
        have HB := Lib.hid (K0.out.2.1.trans (hb.mono K0.out.2.2))
        clear hb hz K0 CP
        go_wp2_with fail
        refine (C1.out _ _ HW.out).mono ?_
        rintro e w' ⟨rfl, hw'⟩
        obtain rfl := hw'.symm
        go_wp2_with fail
        refine (CK1.out _).mono ?_
        rintro e w' ⟨rfl, hw'⟩
        obtain rfl := hw'.symm
        go_wp2_with fail
        go_ret3
        exact ⟨rfl, HB.out⟩
  · rw [decide_eq_false hp] at cP
    rw [if_pos hp] at hE
    rw [if_neg (by omega)] at hD hM
    subst hE hD hM
    have CP := Lib.hid cP
    clear cP hp
    go_enter Tryd.func27, Tryd.ntmps27
    go_wp2_with fail
    refine (CP.out _).mono ?_
    rintro e w' ⟨rfl, hb⟩
    have HB := Lib.hid (K0.out.2.1.trans (hb.mono K0.out.2.2))
    clear hb
    go_wp2_with fail
    go_ret3
    exact ⟨rfl, HB.out⟩
end Go.Proofs.YtkenfgifhebnpaaDoor
