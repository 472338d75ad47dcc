/- The contract of calendar.Local. -/
import Derived.Test.YtkenfgifhebnpaaDoorCalPi
namespace Go.Proofs.YtkenfgifhebnpaaDoor
open Go.RowKit
set_option linter.unusedVariables false
set_option maxRecDepth 100000

/-- The time by standard, as the program reckons it; what follows. -/
theorem local_ways {m o s f t L : Int} (hm : M.I64 m) (hp : proper o s f t) (hL : L = wrap64 (m + o)) :
    (¬ Cal.known (L / 1440) ∧ localE m o s f t = 5 ∧ localD m o s f t = 0 ∧ localM m o s f t = 0) ∨
    (Cal.known (L / 1440) ∧ -1000000900 ≤ L ∧ L ≤ 1000000900 ∧ ∃ n2, n2 = (if summ (L / 1440) f t then L + s else L) ∧
      ((Cal.known (n2 / 1440) ∧ localE m o s f t = 0 ∧ localD m o s f t = n2 / 1440 ∧ localM m o s f t = n2 % 1440) ∨ (¬ Cal.known (n2 / 1440) ∧ localE m o s f t = 5 ∧ localD m o s f t = 0 ∧ localM m o s f t = 0))) := by
  have hp2 := hp
  unfold proper at hp2
  unfold M.I64 at hm
  by_cases ho : m < -1000000000 ∨ m > 1000000000
  · left
    have hE : localE m o s f t = 5 := by unfold localE; rw [if_neg (by simp [hp]), if_pos ho]
    refine ⟨?_, hE, ?_, ?_⟩
    · have h3 : L = m + o ∨ L = m + o + 18446744073709551616 ∨ L = m + o - 18446744073709551616 := by rw [hL]; unfold wrap64; omega
      have hLb : -9223372036854775808 ≤ L ∧ L ≤ 9223372036854775807 := by rw [hL]; unfold wrap64; omega
      clear hL
      unfold Cal.known
      rcases h3 with h3 | h3 | h3
      · omega
      · omega
      · omega
    · unfold localD; rw [if_neg (by rw [hE]; decide)]
    · unfold localM; rw [if_neg (by rw [hE]; decide)]
  · have hL : L = m + o := by rw [hL]; unfold wrap64; omega
    have hE : localE m o s f t = if ¬ Cal.known ((m + o) / 1440) then 5 else if ¬ Cal.known (clock m o s f t / 1440) then 5 else 0 := by unfold localE; rw [if_neg (by simp [hp]), if_neg ho]
    have hck : clock m o s f t = if summ (L / 1440) f t then L + s else L := by unfold clock summ; rw [hL]
    rw [← hL] at hE
    by_cases hk : Cal.known (L / 1440)
    · right
      rw [if_neg (by simp [hk])] at hE
      refine ⟨hk, by omega, by omega, clock m o s f t, hck, ?_⟩
      by_cases hk2 : Cal.known (clock m o s f t / 1440)
      · rw [if_neg (by simp [hk2])] at hE
        exact .inl ⟨hk2, hE, if_pos hE, if_pos hE⟩
      · rw [if_pos hk2] at hE
        exact .inr ⟨hk2, hE, if_neg (by rw [hE]; decide), if_neg (by rw [hE]; decide)⟩
    · left
      rw [if_pos hk] at hE
      exact ⟨hk, hE, if_neg (by rw [hE]; decide), if_neg (by rw [hE]; decide)⟩

set_option maxHeartbeats 8000000 in
theorem calLocal_any (m o s f t : Int) (w : World) (hm : M.I64 m) (ho : M.I64 o) (hs : M.I64 s) (hf : M.I64 f) (ht : M.I64 t) :
    Calls Tryd.prog 26 #[.int .i64 m, .agg #[.int .i64 o, .int .i64 s, .int .i64 f, .int .i64 t]] w fun e w' => e = .returned (.tuple #[.int .i64 (localD m o s f t), .int .i64 (localM m o s f t), .int .i64 (localE m o s f t)]) ∧ Below w.heap.size w w' := by
  have cV := fun W => valid_any o s f t W
  have hk0 : Blk (w.alloc (.cells #[.int .i64 o, .int .i64 s, .int .i64 f, .int .i64 t] 39)) w.heap.size (zc o s f t) 39 := Blk.new w _ _
  have hb0 : Below w.heap.size w (w.alloc (.cells #[.int .i64 o, .int .i64 s, .int .i64 f, .int .i64 t] 39)) := (Below.refl _ _).alloc (Nat.le_refl _) _
  have hsz : w.heap.size ≤ (w.alloc (.cells #[.int .i64 o, .int .i64 s, .int .i64 f, .int .i64 t] 39)).heap.size := by simp
  have K0 := Lib.hid (And.intro hk0 (And.intro hb0 hsz))
  clear hk0 hb0 hsz
  by_cases hp : proper o s f t
  · rw [decide_eq_true hp] at cV
    obtain ⟨L, hL⟩ : ∃ L, L = wrap64 (m + o) := ⟨_, rfl⟩
    have hways := local_ways hm hp hL
    have hLI : M.I64 L := by rw [hL]; unfold wrap64 M.I64; omega
    obtain ⟨RD, hD⟩ : ∃ r, r = localD m o s f t := ⟨_, rfl⟩
    obtain ⟨RM, hM⟩ : ∃ r, r = localM m o s f t := ⟨_, rfl⟩
    obtain ⟨RE, hE⟩ : ∃ r, r = localE m o s f t := ⟨_, rfl⟩
    rw [← hD, ← hM, ← hE] at hways ⊢
    have cT : ∀ (W : World) (x : Int), x = L → Calls Tryd.prog 50 #[.int .i64 x] W fun e w' => e = .returned (.tuple #[.int .i64 (L / 1440), .int .i64 (L % 1440)]) ∧ w' = W := fun W x e => by rw [e]; exact dayTime_any L W hLI
    have hp2 := hp
    unfold proper at hp2
    have ht3 : t ≤ 367 := by omega
    obtain ⟨d1, hd1⟩ : ∃ d, d = L / 1440 := ⟨_, rfl⟩
    obtain ⟨r1, hr1⟩ : ∃ d, d = L % 1440 := ⟨_, rfl⟩
    rw [← hd1] at hways
    simp only [← hd1, ← hr1] at cT
    have cK := fun W => calKnown_any d1 W
    have CV := Lib.hid cV
    have CT := Lib.hid cT
    have HL := Lib.hid hL.symm
    have HS := Lib.hid (show 0 ≤ s ∧ s ≤ 120 by omega)
    rcases hways with ⟨hk, rfl, rfl, rfl⟩ | ⟨hk, hl1, hl2, n2, hn2, hways⟩
    · rw [decide_eq_false hk] at cK
      have CK := Lib.hid cK
      clear cK cV cT hp hp2 ht3 hLI hL hD hM hE hm ho hs hf ht hk hd1 hr1
      go_enter Tryd.func26, Tryd.ntmps26
      go_wp2_with fail
      refine (CV.out _).mono ?_
      rintro e W ⟨rfl, hb⟩
      have hz := K0.out.1.below hb K0.out.1.lt
      have z0 := hz.cell 0 _ rfl
      have HB := Lib.hid (K0.out.2.1.trans (hb.mono K0.out.2.2))
      clear hb hz K0 CV
      go_wp2_with fail
      refine (CT.out _ _ HL.out).mono ?_
      rintro e w' ⟨rfl, hw'⟩
      obtain rfl := hw'.symm
      go_wp2_with fail
      refine (CK.out _).mono ?_
      rintro e w' ⟨rfl, hw'⟩
      obtain rfl := hw'.symm
      go_wp2_with fail
      go_ret3
      exact ⟨rfl, HB.out⟩
    · rw [decide_eq_true hk] at cK
      have cS := fun W => summer_any d1 o s f t W hk ht3
      have hn2b : -1000001000 ≤ n2 ∧ n2 ≤ 1000002000 := by rw [hn2]; split <;> omega
      have cT2 : ∀ (W : World) (x : Int), x = n2 → Calls Tryd.prog 50 #[.int .i64 x] W fun e w' => e = .returned (.tuple #[.int .i64 (n2 / 1440), .int .i64 (n2 % 1440)]) ∧ w' = W := fun W x e => by rw [e]; exact dayTime_any n2 W (by unfold M.I64; omega)
      obtain ⟨d2, hd2⟩ : ∃ d, d = n2 / 1440 := ⟨_, rfl⟩
      obtain ⟨r2, hr2⟩ : ∃ d, d = n2 % 1440 := ⟨_, rfl⟩
      rw [← hd2, ← hr2] at hways
      simp only [← hd2, ← hr2] at cT2
      have cK2 := fun W => calKnown_any d2 W
      have hws : wrap64 (L + s) = L + s := by unfold wrap64; omega
      have CK := Lib.hid cK
      have CS := Lib.hid cS
      have CT2 := Lib.hid cT2
      have HN := Lib.hid hn2
      have HW := Lib.hid hws
      have HR := Lib.hid hways
      have CK2 := Lib.hid cK2
      clear cK cV cT cS cT2 cK2 hp hp2 ht3 hLI hL hD hM hE hm ho hs hf ht hk hd1 hr1 hd2 hr2 hn2 hws hways hl1 hl2 hn2b
      by_cases hz : summ d1 f t
      · have hn := HN.out
        rw [if_pos hz] at hn
        have cs := CS.out
        rw [decide_eq_true hz] at cs
        have CS2 := Lib.hid cs
        have HX : Hid (wrap64 (wrap64 (m + o) + s) = n2) := Lib.hid (by rw [HL.out, HW.out, hn])
        clear hn cs hz CS HN
        go_enter Tryd.func26, Tryd.ntmps26
        go_wp2_with fail
        refine (CV.out _).mono ?_
        rintro e W ⟨rfl, hb⟩
        have hz := K0.out.1.below hb K0.out.1.lt
        have z0 := hz.cell 0 _ rfl
        have z1 := hz.cell 1 _ rfl
        have z2 := hz.cell 2 _ rfl
        have z3 := hz.cell 3 _ rfl
        have HZ := Lib.hid hz
        have HB := Lib.hid (K0.out.2.1.trans (hb.mono K0.out.2.2))
        clear hb hz K0 CV
        go_wp2_with fail
        refine (CT.out _ _ HL.out).mono ?_
        rintro e w' ⟨rfl, hw'⟩
        obtain rfl := hw'.symm
        go_wp2_with fail
        refine (CK.out _).mono ?_
        rintro e w' ⟨rfl, hw'⟩
        obtain rfl := hw'.symm
        go_wp2_with fail
        refine (CS2.out _).mono ?_
        rintro e W2 ⟨rfl, hb⟩
        have hz := HZ.out.below hb HZ.out.lt
        clear z0 z1 z2 z3
        have z1 := hz.cell 1 _ rfl
        have HB2 := Lib.hid (HB.out.trans (hb.mono HB.out.size))
        clear hb hz HZ CS2 HB CK CT
        go_wp2_with fail
        refine (CT2.out _ _ HX.out).mono ?_
        rintro e w' ⟨rfl, hw'⟩
        obtain rfl := hw'.symm
        rcases HR.out with ⟨hk2, rfl, rfl, rfl⟩ | ⟨hk2, rfl, rfl, rfl⟩
        · have ck := CK2.out W2
          rw [decide_eq_true hk2] at ck
          have CK := Lib.hid ck
          clear ck hk2 HR CK2
          go_wp2_with fail
          refine CK.out.mono ?_
          rintro e w' ⟨rfl, hw'⟩
          obtain rfl := hw'.symm
          go_wp2_with fail
          go_ret3
          exact ⟨rfl, HB2.out⟩
        · have ck := CK2.out W2
          rw [decide_eq_false hk2] at ck
          have CK := Lib.hid ck
          clear ck hk2 HR CK2
          go_wp2_with fail
          refine CK.out.mono ?_
          rintro e w' ⟨rfl, hw'⟩
          obtain rfl := hw'.symm
          go_wp2_with fail
          go_ret3
          exact ⟨rfl, HB2.out⟩
      · have hn := HN.out
        rw [if_neg hz] at hn
        have cs := CS.out
        rw [decide_eq_false hz] at cs
        have CS2 := Lib.hid cs
        have HX : Hid (wrap64 (m + o) = n2) := Lib.hid (by rw [HL.out, hn])
        clear hn cs hz CS HN
        go_enter Tryd.func26, Tryd.ntmps26
        go_wp2_with fail
        refine (CV.out _).mono ?_
        rintro e W ⟨rfl, hb⟩
        have hz := K0.out.1.below hb K0.out.1.lt
        have z0 := hz.cell 0 _ rfl
        have z1 := hz.cell 1 _ rfl
        have z2 := hz.cell 2 _ rfl
        have z3 := hz.cell 3 _ rfl
        have HB := Lib.hid (K0.out.2.1.trans (hb.mono K0.out.2.2))
        clear hb hz K0 CV
        go_wp2_with fail
        refine (CT.out _ _ HL.out).mono ?_
        rintro e w' ⟨rfl, hw'⟩
        obtain rfl := hw'.symm
        go_wp2_with fail
        refine (CK.out _).mono ?_
        rintro e w' ⟨rfl, hw'⟩
        obtain rfl := hw'.symm
        go_wp2_with fail
        refine (CS2.out _).mono ?_
        rintro e W2 ⟨rfl, hb⟩
        clear z0 z1 z2 z3
        have HB2 := Lib.hid (HB.out.trans (hb.mono HB.out.size))
        clear hb CS2 HB CK CT
        go_wp2_with fail
        refine (CT2.out _ _ HX.out).mono ?_
        rintro e w' ⟨rfl, hw'⟩
        obtain rfl := hw'.symm
        rcases HR.out with ⟨hk2, rfl, rfl, rfl⟩ | ⟨hk2, rfl, rfl, rfl⟩
        · have ck := CK2.out W2
          rw [decide_eq_true hk2] at ck
          have CK := Lib.hid ck
          clear ck hk2 HR CK2
          go_wp2_with fail
          refine CK.out.mono ?_
          rintro e w' ⟨rfl, hw'⟩
          obtain rfl := hw'.symm
          go_wp2_with fail
          go_ret3
          exact ⟨rfl, HB2.out⟩
        · have ck := CK2.out W2
          rw [decide_eq_false hk2] at ck
          have CK := Lib.hid ck
          clear ck hk2 HR CK2
          go_wp2_with fail
          refine CK.out.mono ?_
          rintro e w' ⟨rfl, hw'⟩
          obtain rfl := hw'.symm
          go_wp2_with fail
          go_ret3
          exact ⟨rfl, HB2.out⟩
  · rw [decide_eq_false hp] at cV
    have hE : localE m o s f t = 1 := by unfold localE; rw [if_pos hp]
    have hD : localD m o s f t = 0 := by unfold localD; rw [if_neg (by rw [hE]; decide)]
    have hM : localM m o s f t = 0 := by unfold localM; rw [if_neg (by rw [hE]; decide)]
    rw [hE, hD, hM]
    have CV := Lib.hid cV
    clear cV hp hE hD hM hm ho hs hf ht
    go_enter Tryd.func26, Tryd.ntmps26
    go_wp2_with fail
    refine (CV.out _).mono ?_
    rintro e W ⟨rfl, hb⟩
    have HB := Lib.hid (K0.out.2.1.trans (hb.mono K0.out.2.2))
    clear hb K0 CV
    go_wp2_with fail
    go_ret3
    exact ⟨rfl, HB.out⟩
end Go.Proofs.YtkenfgifhebnpaaDoor
