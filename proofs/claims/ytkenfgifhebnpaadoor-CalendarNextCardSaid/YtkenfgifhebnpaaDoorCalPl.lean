/- The contract of calendar.Work. -/
import Derived.Test.YtkenfgifhebnpaaDoorCalPk
import Derived.Test.YtkenfgifhebnpaaDoorWireMath
namespace Go.Proofs.YtkenfgifhebnpaaDoor
open Go.RowKit
set_option linter.unusedVariables false
set_option maxRecDepth 100000

set_option maxHeartbeats 8000000 in
theorem calWork_any (d n : Int) (A : Option Addr) (cap : Nat) (l : List Int) (w : World) (hd : M.I64 d) (hn : M.I64 n) (hr : Rd w w.heap.size A (l.map iv)) (hl : l.length ≤ 1000000000) (hc : l.length ≤ cap) (hm : cap ≤ maxLen) (hI : ∀ n ∈ l, M.I64 n) :
    Calls Tryd.prog 32 #[.int .i64 d, .int .i64 n, .slice A l.length cap] w fun e w' => e = .returned (.tuple #[.int .i64 (workR d n l).1, .int .i64 (workR d n l).2]) ∧ Below w.heap.size w w' := by
  obtain ⟨R, hR⟩ : ∃ R, R = workR d n l := ⟨_, rfl⟩
  rw [← hR]
  obtain ⟨R1, R2⟩ := R
  show Calls _ _ _ _ fun e w' => e = .returned (.tuple #[.int .i64 R1, .int .i64 R2]) ∧ Below w.heap.size w w'
  unfold workR at hR
  obtain ⟨W0, hW0⟩ : ∃ W0, W0 = w.alloc (.cells #[.slice A l.length cap] 23) := ⟨_, rfl⟩
  have hk0 : Blk W0 w.heap.size [.slice A l.length cap] 23 := by rw [hW0]; exact Blk.new w _ _
  have hb0 : Below w.heap.size w W0 := by rw [hW0]; exact (Below.refl _ _).alloc (Nat.le_refl _) _
  have hr0 : Rd W0 W0.heap.size A (l.map iv) := (hr.below hb0).more hb0.size
  have cW : ∀ (e x : Int), x = e → Calls Tryd.prog 55 #[.int .i64 x, .pointer (some ⟨w.heap.size, 0, none⟩)] W0 fun y w' => y = .returned (.bool (works e l)) ∧ w' = W0 := fun e x hx => by rw [hx]; exact work1_any e A cap l _ W0 hr0 hl (hk0.cell 0 _ rfl)
  have cK : ∀ (e x : Int), x = e → Calls Tryd.prog 36 #[.int .i64 x] W0 fun y w' => y = .returned (.bool (decide (Cal.known e))) ∧ w' = W0 := fun e x hx => by rw [hx]; exact calKnown_any e W0
  have hcell := hk0.cell 0 _ rfl
  obtain ⟨N, hN⟩ : ∃ N, N = l.length := ⟨_, rfl⟩
  rw [← hN] at hR hl hcell hW0 ⊢
  have HB0 := Lib.hid hb0
  have CW := Lib.hid cW
  have CK := Lib.hid cK
  have HW0 := Lib.hid hW0
  have HCell := Lib.hid hcell
  clear cW cK hr hN hr0 hb0 hk0 hd hn hc hm hI hW0 hcell
  have hmf : ∀ (fn : Fn) (first cap : Array Value) (w : World), (Instr.makeFunc fn first cap).run Tryd.prog w = .ok (.func fn first cap) w := fun _ _ _ _ => rfl
  by_cases out : n < -1000 ∨ (¬ n < -1000 ∧ 1000 < n) ∨ (¬ n < -1000 ∧ ¬ 1000 < n ∧ 400 < N)
  · rw [if_pos (by omega)] at hR
    obtain ⟨rfl, rfl⟩ := Prod.mk.inj hR
    clear hR CW CK
    have hend := HB0.out
    rw [HW0.out] at hend
    have HE := Lib.hid hend
    clear hend HB0 HW0 HCell
    rcases out with h | ⟨h1, h⟩ | ⟨h1, h2, h⟩
    · go_enter Tryd.func32, Tryd.ntmps32
      go_wp2_with fail
      go_ret2
      exact ⟨rfl, HE.out⟩
    · go_enter Tryd.func32, Tryd.ntmps32
      go_wp2_with fail
      go_ret2
      exact ⟨rfl, HE.out⟩
    · have h3 : (400 : Int) < N := by omega
      go_enter Tryd.func32, Tryd.ntmps32
      go_wp2_with fail
      go_ret2
      exact ⟨rfl, HE.out⟩
  · rw [if_neg (by omega)] at hR
    have o1 : ¬ n < -1000 := by omega
    have o2 : ¬ 1000 < n := by omega
    have o3 : ¬ 400 < N := by omega
    have o4 : ¬ (400 : Int) < N := by omega
    clear out hl
    by_cases hk : Cal.known d
    · rw [if_pos hk] at hR
      have ck := CK.out d d rfl
      rw [decide_eq_true hk] at ck
      obtain ⟨K, hK⟩ : ∃ K, K = n.natAbs := ⟨_, rfl⟩
      obtain ⟨s, hs⟩ : ∃ s : Int, s = if n < 0 then -1 else 1 := ⟨_, rfl⟩
      have hs2 : (s = 1 ∧ n = (K : Int)) ∨ (s = -1 ∧ n = -(K : Int)) := by
        by_cases h : n < 0
        · rw [if_pos h] at hs; exact .inr ⟨hs, by omega⟩
        · rw [if_neg h] at hs; exact .inl ⟨hs, by omega⟩
      have hR2 : (R1, R2) = worked l s 292195 d K := by
        rw [hR, ← hK]
        by_cases h0 : n = 0
        · have hK0 : K = 0 := by omega
          rw [hK0, worked_end, worked_end]
        · congr 1
          by_cases h : 0 < n
          · rw [if_pos h, hs, if_neg (by omega)]
          · rw [if_neg h, hs, if_pos (by omega)]
      have C0 := Lib.hid ck
      have HK := Lib.hid hk
      have HR := Lib.hid (And.intro hR2 (And.intro hs2 (show K ≤ 1000 by omega)))
      clear ck hk hR hR2 hK
      have key : ∀ (u : Value), u = .int .i64 s → True := fun _ _ => trivial
      clear key
      have hneg : (n < 0 ∧ s = -1) ∨ (¬ n < 0 ∧ s = 1) := by omega
      clear hs hs2
      go_enter Tryd.func32, Tryd.ntmps32
      go_wp2_with fail
      rw [← HW0.out]
      refine C0.out.mono ?_
      rintro e w' ⟨rfl, hw'⟩
      obtain rfl := hw'.symm
      clear hw'
      --LOOPS
      rcases hneg with ⟨hneg, rfl⟩ | ⟨hneg, rfl⟩
      · have HQ := Lib.hid (And.intro HR.out.1 (And.intro (show n = -(K : Int) by have := HR.out.2.1; omega) HR.out.2.2))
        go_wp2_with fail
        clear hneg
        go_loopw [0, 10] (fun x y wr => ∃ (f : Nat) (d : Int) (k : Nat) (y' : Int), x = .int .i64 d ∧ y = .int .i64 y' ∧ y' = -(k : Int) ∧ Cal.known d ∧ k ≤ 1000 ∧ (R1, R2) = worked l (-1) (f + 1) d k ∧ d + 146097 ≤ (f : Int) ∧ W0 = wr) (fun x _ _ => (200000 + intOf x).toNat)
        case atStart => exact ⟨292194, d, K, n, rfl, rfl, HQ.out.2.1, HK.out, HQ.out.2.2, HQ.out.1, by have := HK.out.1; have := HK.out.2; omega, rfl⟩
        case round =>
          obtain ⟨f, d, k, y, rfl, rfl, hy, hkn, hk1, hwk, hf, rfl⟩ := hrel
          by_cases hk0 : k = 0
          · subst hk0
            obtain rfl : y = 0 := by omega
            rw [worked_end] at hwk
            obtain ⟨rfl, rfl⟩ := Prod.mk.inj hwk
            clear hwk hkn hf hy
            go_wp2_with fail
            go_ret2
            exact ⟨rfl, HB0.out⟩
          · have i2 : (y != 0) = true := by simp; omega
            have i3 : ¬ y = 0 := by omega
            have hwd : wrap64 (d + -1) = d + -1 := by unfold Cal.known at hkn; unfold wrap64; omega
            have hwk1 : wrap64 (y + 1) = -((k - 1 : Nat) : Int) := by unfold wrap64; omega
            have ck := CK.out (d + -1) (wrap64 (d + -1)) hwd
            have cw := CW.out (d + -1) (wrap64 (d + -1)) hwd
            by_cases hkn2 : Cal.known (d + -1)
            · rw [worked_next l (-1) f d k hk0 hkn2] at hwk
              rw [decide_eq_true hkn2] at ck
              have hf1 : ∃ f', f = f' + 1 := ⟨f - 1, by unfold Cal.known at hkn2; omega⟩
              have C1 := Lib.hid ck
              cases hw : works (d + -1) l with
              | true =>
                rw [hw] at cw hwk
                rw [if_pos rfl] at hwk
                have C2 := Lib.hid cw
                have HH := Lib.hid (And.intro hwd (And.intro hwk1 (And.intro hwk (And.intro hkn2 (And.intro hf1 (And.intro hf (And.intro hkn hy)))))))
                clear hwd hwk1 hwk hkn2 hf1 hf hkn ck cw hw hy
                go_wp2_with fail
                refine C1.out.mono ?_
                rintro e w' ⟨rfl, hw'⟩
                obtain rfl := hw'.symm
                clear hw'
                go_wp2_with fail
                refine C2.out.mono ?_
                rintro e w' ⟨rfl, hw'⟩
                obtain rfl := hw'.symm
                clear hw'
                go_wp2_with fail
                obtain ⟨f', hf'⟩ := HH.out.2.2.2.2.1
                have hfb := HH.out.2.2.2.2.2.1
                have hkb := HH.out.2.2.2.2.2.2.1
                unfold Cal.known at hkb
                refine ⟨⟨f', d + -1, k - 1, _, by rw [HH.out.1], rfl, HH.out.2.1, HH.out.2.2.2.1, by omega, by rw [HH.out.2.2.1, hf'], by omega, by first | rfl | trivial⟩, ?_⟩
                simp only [intOf, HH.out.1]; omega
              | false =>
                rw [hw] at cw hwk
                rw [if_neg (by simp)] at hwk
                have C2 := Lib.hid cw
                have HH := Lib.hid (And.intro hwd (And.intro hwk1 (And.intro hwk (And.intro hkn2 (And.intro hf1 (And.intro hf (And.intro hkn hy)))))))
                clear hwd hwk1 hwk hkn2 hf1 hf hkn ck cw hw hy
                go_wp2_with fail
                refine C1.out.mono ?_
                rintro e w' ⟨rfl, hw'⟩
                obtain rfl := hw'.symm
                clear hw'
                go_wp2_with fail
                refine C2.out.mono ?_
                rintro e w' ⟨rfl, hw'⟩
                obtain rfl := hw'.symm
                clear hw'
                go_wp2_with fail
                obtain ⟨f', hf'⟩ := HH.out.2.2.2.2.1
                have hfb := HH.out.2.2.2.2.2.1
                have hkb := HH.out.2.2.2.2.2.2.1
                unfold Cal.known at hkb
                refine ⟨⟨f', d + -1, k, y, by rw [HH.out.1], rfl, HH.out.2.2.2.2.2.2.2, HH.out.2.2.2.1, by omega, by rw [HH.out.2.2.1, hf'], by omega, by first | rfl | trivial⟩, ?_⟩
                simp only [intOf, HH.out.1]; omega
            · rw [worked_out l (-1) f d k hk0 hkn2] at hwk
              rw [decide_eq_false hkn2] at ck
              obtain ⟨rfl, rfl⟩ := Prod.mk.inj hwk
              have C1 := Lib.hid ck
              clear hwk hkn2 hwd hwk1 ck cw hkn hf hy
              go_wp2_with fail
              refine C1.out.mono ?_
              rintro e w' ⟨rfl, hw'⟩
              obtain rfl := hw'.symm
              go_wp2_with fail
              go_ret2
              exact ⟨rfl, HB0.out⟩
      · have HQ := Lib.hid (And.intro HR.out.1 (And.intro (show n = (K : Int) by have := HR.out.2.1; omega) HR.out.2.2))
        go_wp2_with fail
        clear hneg
        go_loopw [0, 10] (fun x y wr => ∃ (f : Nat) (d : Int) (k : Nat) (y' : Int), x = .int .i64 d ∧ y = .int .i64 y' ∧ y' = (k : Int) ∧ Cal.known d ∧ k ≤ 1000 ∧ (R1, R2) = worked l 1 (f + 1) d k ∧ 146096 - d ≤ (f : Int) ∧ W0 = wr) (fun x _ _ => (200000 - intOf x).toNat)
        case atStart => exact ⟨292194, d, K, n, rfl, rfl, HQ.out.2.1, HK.out, HQ.out.2.2, HQ.out.1, by have := HK.out.1; have := HK.out.2; omega, rfl⟩
        case round =>
          obtain ⟨f, d, k, y, rfl, rfl, hy, hkn, hk1, hwk, hf, rfl⟩ := hrel
          by_cases hk0 : k = 0
          · subst hk0
            obtain rfl : y = 0 := by omega
            rw [worked_end] at hwk
            obtain ⟨rfl, rfl⟩ := Prod.mk.inj hwk
            clear hwk hkn hf hy
            go_wp2_with fail
            go_ret2
            exact ⟨rfl, HB0.out⟩
          · have i2 : (y != 0) = true := by simp; omega
            have i3 : ¬ y = 0 := by omega
            have hwd : wrap64 (d + 1) = d + 1 := by unfold Cal.known at hkn; unfold wrap64; omega
            have hwk1 : wrap64 (y - 1) = ((k - 1 : Nat) : Int) := by unfold wrap64; omega
            have ck := CK.out (d + 1) (wrap64 (d + 1)) hwd
            have cw := CW.out (d + 1) (wrap64 (d + 1)) hwd
            by_cases hkn2 : Cal.known (d + 1)
            · rw [worked_next l 1 f d k hk0 hkn2] at hwk
              rw [decide_eq_true hkn2] at ck
              have hf1 : ∃ f', f = f' + 1 := ⟨f - 1, by unfold Cal.known at hkn2; omega⟩
              have C1 := Lib.hid ck
              cases hw : works (d + 1) l with
              | true =>
                rw [hw] at cw hwk
                rw [if_pos rfl] at hwk
                have C2 := Lib.hid cw
                have HH := Lib.hid (And.intro hwd (And.intro hwk1 (And.intro hwk (And.intro hkn2 (And.intro hf1 (And.intro hf (And.intro hkn hy)))))))
                clear hwd hwk1 hwk hkn2 hf1 hf hkn ck cw hw hy
                go_wp2_with fail
                refine C1.out.mono ?_
                rintro e w' ⟨rfl, hw'⟩
                obtain rfl := hw'.symm
                clear hw'
                go_wp2_with fail
                refine C2.out.mono ?_
                rintro e w' ⟨rfl, hw'⟩
                obtain rfl := hw'.symm
                clear hw'
                go_wp2_with fail
                obtain ⟨f', hf'⟩ := HH.out.2.2.2.2.1
                have hfb := HH.out.2.2.2.2.2.1
                have hkb := HH.out.2.2.2.2.2.2.1
                unfold Cal.known at hkb
                refine ⟨⟨f', d + 1, k - 1, _, by rw [HH.out.1], rfl, HH.out.2.1, HH.out.2.2.2.1, by omega, by rw [HH.out.2.2.1, hf'], by omega, by first | rfl | trivial⟩, ?_⟩
                simp only [intOf, HH.out.1]; omega
              | false =>
                rw [hw] at cw hwk
                rw [if_neg (by simp)] at hwk
                have C2 := Lib.hid cw
                have HH := Lib.hid (And.intro hwd (And.intro hwk1 (And.intro hwk (And.intro hkn2 (And.intro hf1 (And.intro hf (And.intro hkn hy)))))))
                clear hwd hwk1 hwk hkn2 hf1 hf hkn ck cw hw hy
                go_wp2_with fail
                refine C1.out.mono ?_
                rintro e w' ⟨rfl, hw'⟩
                obtain rfl := hw'.symm
                clear hw'
                go_wp2_with fail
                refine C2.out.mono ?_
                rintro e w' ⟨rfl, hw'⟩
                obtain rfl := hw'.symm
                clear hw'
                go_wp2_with fail
                obtain ⟨f', hf'⟩ := HH.out.2.2.2.2.1
                have hfb := HH.out.2.2.2.2.2.1
                have hkb := HH.out.2.2.2.2.2.2.1
                unfold Cal.known at hkb
                refine ⟨⟨f', d + 1, k, y, by rw [HH.out.1], rfl, HH.out.2.2.2.2.2.2.2, HH.out.2.2.2.1, by omega, by rw [HH.out.2.2.1, hf'], by omega, by first | rfl | trivial⟩, ?_⟩
                simp only [intOf, HH.out.1]; omega
            · rw [worked_out l 1 f d k hk0 hkn2] at hwk
              rw [decide_eq_false hkn2] at ck
              obtain ⟨rfl, rfl⟩ := Prod.mk.inj hwk
              have C1 := Lib.hid ck
              clear hwk hkn2 hwd hwk1 ck cw hkn hf hy
              go_wp2_with fail
              refine C1.out.mono ?_
              rintro e w' ⟨rfl, hw'⟩
              obtain rfl := hw'.symm
              go_wp2_with fail
              go_ret2
              exact ⟨rfl, HB0.out⟩
      --END
    · rw [if_neg hk] at hR
      have ck := CK.out d d rfl
      rw [decide_eq_false hk] at ck
      obtain ⟨rfl, rfl⟩ := Prod.mk.inj hR
      have C0 := Lib.hid ck
      clear hR ck hk
      go_enter Tryd.func32, Tryd.ntmps32
      go_wp2_with fail
      rw [← HW0.out]
      refine C0.out.mono ?_
      rintro e w' ⟨rfl, hw'⟩
      obtain rfl := hw'.symm
      go_wp2_with fail
      go_ret2
      exact ⟨rfl, HB0.out⟩
end Go.Proofs.YtkenfgifhebnpaaDoor
