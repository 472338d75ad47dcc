/- The contract of the reference's Work. -/
import Derived.Test.YtkenfgifhebnpaaDoorCalRg
namespace Go.Proofs.YtkenfgifhebnpaaDoor
open Go.RowKit
set_option linter.unusedVariables false
set_option maxRecDepth 100000

set_option maxHeartbeats 8000000 in
theorem refWork_any (d0 n0 : Int) (A : Option Addr) (cap : Nat) (l : List Int) (w : World) (hr : Rd w w.heap.size A (l.map iv)) (hl : l.length ≤ 1000000000) :
    Calls Tryd.prog 33 #[.int .i64 d0, .int .i64 n0, .slice A l.length cap] w fun e w' => e = .returned (.tuple #[.int .i64 (workR d0 n0 l).1, .int .i64 (workR d0 n0 l).2]) ∧ w' = w := by
  obtain ⟨R, hR⟩ : ∃ R, R = workR d0 n0 l := ⟨_, rfl⟩
  rw [← hR]
  obtain ⟨R1, R2⟩ := R
  show Calls _ _ _ _ fun e w' => e = .returned (.tuple #[.int .i64 R1, .int .i64 R2]) ∧ w' = w
  unfold workR at hR
  have cWk := fun (W : World) (hW : W = w) (e x : Int) (hx : x = e) => working_any e A cap l W (by rw [hW]; exact hr) hl
  have cW : ∀ (e x : Int), x = e → Calls Tryd.prog 35 #[.int .i64 x, .slice A l.length cap] w fun y w' => y = .returned (.bool (works e l)) ∧ w' = w := fun e x hx => by rw [hx]; exact working_any e A cap l w hr hl
  have cK : ∀ (e x : Int), x = e → Calls Tryd.prog 40 #[.int .i64 x] w fun y w' => y = .returned (.bool (decide (Cal.known e))) ∧ w' = w := fun e x hx => by rw [hx]; exact known_any e w
  obtain ⟨N, hN⟩ : ∃ N, N = l.length := ⟨_, rfl⟩
  rw [← hN] at cW hR hl ⊢
  have CW := Lib.hid cW
  have CK := Lib.hid cK
  clear cWk cW cK hr hN
  by_cases out : n0 < -1000 ∨ (¬ n0 < -1000 ∧ 1000 < n0) ∨ (¬ n0 < -1000 ∧ ¬ 1000 < n0 ∧ 400 < N)
  · rw [if_pos (by omega)] at hR
    obtain ⟨rfl, rfl⟩ := Prod.mk.inj hR
    clear hR CW CK
    rcases out with h | ⟨h1, h⟩ | ⟨h1, h2, h⟩
    · go_enter Tryd.func33, Tryd.ntmps33
      go_wp2_with fail
      go_ret2
      exact ⟨rfl, rfl⟩
    · go_enter Tryd.func33, Tryd.ntmps33
      go_wp2_with fail
      go_ret2
      exact ⟨rfl, rfl⟩
    · have h3 : (400 : Int) < N := by omega
      go_enter Tryd.func33, Tryd.ntmps33
      go_wp2_with fail
      go_ret2
      exact ⟨rfl, rfl⟩
  · rw [if_neg (by omega)] at hR
    have o1 : ¬ n0 < -1000 := by omega
    have o2 : ¬ 1000 < n0 := by omega
    have o3 : ¬ 400 < N := by omega
    have o4 : ¬ (400 : Int) < N := by omega
    clear out hl
    by_cases hk : Cal.known d0
    · rw [if_pos hk] at hR
      have ck := CK.out d0 d0 rfl
      rw [decide_eq_true hk] at ck
      have C0 := Lib.hid ck
      have HK := Lib.hid hk
      clear ck hk
      by_cases hp : 0 < n0
      · rw [if_pos hp] at hR
        obtain ⟨K, hK⟩ : ∃ K : Nat, n0 = (K : Int) := ⟨n0.toNat, by omega⟩
        rw [show n0.natAbs = K by omega] at hR
        have HR := Lib.hid (And.intro hR (And.intro hK (show K ≤ 1000 by omega)))
        clear hR hK hp
        go_enter Tryd.func33, Tryd.ntmps33
        go_wp2_with fail
        refine C0.out.mono ?_
        rintro e w' ⟨rfl, hw'⟩
        obtain rfl := hw'.symm
        go_wp2_with fail
        clear o1 o2 o3 o4 hw'
        go_loopw [0, 1] (fun x y wr => ∃ (f : Nat) (d : Int) (k : Nat), x = .int .i64 d ∧ y = .int .i64 (k : Int) ∧ Cal.known d ∧ k ≤ 1000 ∧ (R1, R2) = worked l 1 (f + 1) d k ∧ 146096 - d ≤ (f : Int) ∧ w = wr) (fun x _ _ => (200000 - intOf x).toNat)
        case atStart => exact ⟨292194, d0, K, rfl, by rw [HR.out.2.1], HK.out, HR.out.2.2, HR.out.1, by have := HK.out.1; omega, rfl⟩
        case round =>
          obtain ⟨f, d, k, rfl, rfl, hkn, hk1, hwk, hf, rfl⟩ := hrel
          by_cases hk0 : k = 0
          · subst hk0
            rw [worked_end] at hwk
            obtain ⟨rfl, rfl⟩ := Prod.mk.inj hwk
            clear hwk hkn hf
            go_wp2_with fail
            go_ret2
            exact ⟨rfl, rfl⟩
          · have i0 : (0 : Int) < k := by omega
            have i1 : 0 < k := by omega
            have i2 : ¬ (k : Int) = 0 := by omega
            have hwd : wrap64 (d + 1) = d + 1 := by unfold Cal.known at hkn; unfold wrap64; omega
            have hwk1 : wrap64 ((k : Int) - 1) = ((k - 1 : Nat) : Int) := by unfold wrap64; omega
            have ck := CK.out (d + 1) (wrap64 (d + 1)) hwd
            have cw := CW.out (d + 1) (wrap64 (d + 1)) hwd
            by_cases hkn2 : Cal.known (d + 1)
            · rw [worked_next l 1 f d k hk0 hkn2] at hwk
              rw [decide_eq_true hkn2] at ck
              have hf1 : ∃ f', f = f' + 1 := ⟨f - 1, by unfold Cal.known at hkn2; omega⟩
              have C1 := Lib.hid ck
              cases hw : works (d + 1) l with
              | true =>
                rw [hw] at cw hwk
                rw [if_pos rfl] at hwk
                have C2 := Lib.hid cw
                have HH := Lib.hid (And.intro hwd (And.intro hwk1 (And.intro hwk (And.intro hkn2 (And.intro hf1 (And.intro hf hkn))))))
                clear hwd hwk1 hwk hkn2 hf1 hf hkn ck cw hw
                go_wp2_with fail
                refine C1.out.mono ?_
                rintro e w' ⟨rfl, hw'⟩
                obtain rfl := hw'.symm
                go_wp2_with fail
                refine C2.out.mono ?_
                rintro e w' ⟨rfl, hw'⟩
                obtain rfl := hw'.symm
                go_wp2_with fail
                obtain ⟨f', hf'⟩ := HH.out.2.2.2.2.1
                have hfb := HH.out.2.2.2.2.2.1
                have hkb := HH.out.2.2.2.2.2.2
                unfold Cal.known at hkb
                refine ⟨⟨f', d + 1, k - 1, by rw [HH.out.1], by congr 1; omega, HH.out.2.2.2.1, by omega, by rw [HH.out.2.2.1, hf'], by omega, by first | rfl | trivial⟩, ?_⟩
                simp only [intOf, HH.out.1]; omega
              | false =>
                rw [hw] at cw hwk
                rw [if_neg (by simp)] at hwk
                have C2 := Lib.hid cw
                have HH := Lib.hid (And.intro hwd (And.intro hwk1 (And.intro hwk (And.intro hkn2 (And.intro hf1 (And.intro hf hkn))))))
                clear hwd hwk1 hwk hkn2 hf1 hf hkn ck cw hw
                go_wp2_with fail
                refine C1.out.mono ?_
                rintro e w' ⟨rfl, hw'⟩
                obtain rfl := hw'.symm
                go_wp2_with fail
                refine C2.out.mono ?_
                rintro e w' ⟨rfl, hw'⟩
                obtain rfl := hw'.symm
                go_wp2_with fail
                refine C2.out.mono ?_
                rintro e w' ⟨rfl, hw'⟩
                obtain rfl := hw'.symm
                go_wp2_with fail
                obtain ⟨f', hf'⟩ := HH.out.2.2.2.2.1
                have hfb := HH.out.2.2.2.2.2.1
                have hkb := HH.out.2.2.2.2.2.2
                unfold Cal.known at hkb
                refine ⟨⟨f', d + 1, k, by rw [HH.out.1], rfl, HH.out.2.2.2.1, hk1, by rw [HH.out.2.2.1, hf'], by omega, by first | rfl | trivial⟩, ?_⟩
                simp only [intOf, HH.out.1]; omega
            · rw [worked_out l 1 f d k hk0 hkn2] at hwk
              rw [decide_eq_false hkn2] at ck
              obtain ⟨rfl, rfl⟩ := Prod.mk.inj hwk
              have C1 := Lib.hid ck
              clear hwk hkn2 hwd hwk1 ck cw hkn hf
              go_wp2_with fail
              refine C1.out.mono ?_
              rintro e w' ⟨rfl, hw'⟩
              obtain rfl := hw'.symm
              go_wp2_with fail
              go_ret2
              exact ⟨rfl, rfl⟩
      · rw [if_neg hp] at hR
        obtain ⟨K, hK⟩ : ∃ K : Nat, n0 = -(K : Int) := ⟨n0.natAbs, by omega⟩
        rw [show n0.natAbs = K by omega] at hR
        have HR := Lib.hid (And.intro hR (And.intro hK (show K ≤ 1000 by omega)))
        clear hR hK hp
        go_enter Tryd.func33, Tryd.ntmps33
        go_wp2_with fail
        refine C0.out.mono ?_
        rintro e w' ⟨rfl, hw'⟩
        obtain rfl := hw'.symm
        go_wp2_with fail
        clear o1 o2 o3 o4 hw'
        go_loopw [0, 1] (fun x y wr => ∃ (f : Nat) (d : Int) (k : Nat) (y' : Int), x = .int .i64 d ∧ y = .int .i64 y' ∧ y' = -(k : Int) ∧ Cal.known d ∧ k ≤ 1000 ∧ (R1, R2) = worked l (-1) (f + 1) d k ∧ d + 146097 ≤ (f : Int) ∧ w = wr) (fun x _ _ => (intOf x + 200000).toNat)
        case atStart => exact ⟨292194, d0, K, n0, rfl, rfl, HR.out.2.1, HK.out, HR.out.2.2, HR.out.1, by have := HK.out.2; omega, rfl⟩
        case round =>
          obtain ⟨f, d, k, y, rfl, rfl, hy, hkn, hk1, hwk, hf, rfl⟩ := hrel
          by_cases hk0 : k = 0
          · subst hk0
            obtain rfl : y = 0 := by omega
            rw [worked_end] at hwk
            obtain ⟨rfl, rfl⟩ := Prod.mk.inj hwk
            clear hwk hkn hf hy
            go_wp2_with fail
            go_ret2
            exact ⟨rfl, rfl⟩
          · have i0 : ¬ (0 : Int) < y := by omega
            have i2 : ¬ y = 0 := by omega
            have hwd : wrap64 (d - 1) = d + -1 := by unfold Cal.known at hkn; unfold wrap64; omega
            have hwk1 : wrap64 (y + 1) = -((k - 1 : Nat) : Int) := by unfold wrap64; omega
            have ck := CK.out (d + -1) (wrap64 (d - 1)) hwd
            have cw := CW.out (d + -1) (wrap64 (d - 1)) hwd
            by_cases hkn2 : Cal.known (d + -1)
            · rw [worked_next l (-1) f d k hk0 hkn2] at hwk
              rw [decide_eq_true hkn2] at ck
              have hf1 : ∃ f', f = f' + 1 := ⟨f - 1, by unfold Cal.known at hkn2; omega⟩
              have C1 := Lib.hid ck
              cases hw : works (d + -1) l with
              | true =>
                rw [hw] at cw hwk
                rw [if_pos rfl] at hwk
                have C2 := Lib.hid cw
                have HH := Lib.hid (And.intro hwd (And.intro hwk1 (And.intro hwk (And.intro hkn2 (And.intro hf1 (And.intro hf (And.intro hkn hy)))))))
                clear hwd hwk1 hwk hkn2 hf1 hf hkn ck cw hw hy
                go_wp2_with fail
                refine C1.out.mono ?_
                rintro e w' ⟨rfl, hw'⟩
                obtain rfl := hw'.symm
                go_wp2_with fail
                refine C2.out.mono ?_
                rintro e w' ⟨rfl, hw'⟩
                obtain rfl := hw'.symm
                go_wp2_with fail
                refine C2.out.mono ?_
                rintro e w' ⟨rfl, hw'⟩
                obtain rfl := hw'.symm
                go_wp2_with fail
                obtain ⟨f', hf'⟩ := HH.out.2.2.2.2.1
                have hfb := HH.out.2.2.2.2.2.1
                have hkb := HH.out.2.2.2.2.2.2.1
                unfold Cal.known at hkb
                refine ⟨⟨f', d + -1, k - 1, _, by rw [HH.out.1], rfl, HH.out.2.1, HH.out.2.2.2.1, by omega, by rw [HH.out.2.2.1, hf'], by omega, by first | rfl | trivial⟩, ?_⟩
                simp only [intOf, HH.out.1]; omega
              | false =>
                rw [hw] at cw hwk
                rw [if_neg (by simp)] at hwk
                have C2 := Lib.hid cw
                have HH := Lib.hid (And.intro hwd (And.intro hwk1 (And.intro hwk (And.intro hkn2 (And.intro hf1 (And.intro hf (And.intro hkn hy)))))))
                clear hwd hwk1 hwk hkn2 hf1 hf hkn ck cw hw hy
                go_wp2_with fail
                refine C1.out.mono ?_
                rintro e w' ⟨rfl, hw'⟩
                obtain rfl := hw'.symm
                go_wp2_with fail
                refine C2.out.mono ?_
                rintro e w' ⟨rfl, hw'⟩
                obtain rfl := hw'.symm
                go_wp2_with fail
                refine C2.out.mono ?_
                rintro e w' ⟨rfl, hw'⟩
                obtain rfl := hw'.symm
                go_wp2_with fail
                obtain ⟨f', hf'⟩ := HH.out.2.2.2.2.1
                have hfb := HH.out.2.2.2.2.2.1
                have hkb := HH.out.2.2.2.2.2.2.1
                unfold Cal.known at hkb
                refine ⟨⟨f', d + -1, k, y, by rw [HH.out.1], rfl, HH.out.2.2.2.2.2.2.2, HH.out.2.2.2.1, hk1, by rw [HH.out.2.2.1, hf'], by omega, by first | rfl | trivial⟩, ?_⟩
                simp only [intOf, HH.out.1]; omega
            · rw [worked_out l (-1) f d k hk0 hkn2] at hwk
              rw [decide_eq_false hkn2] at ck
              obtain ⟨rfl, rfl⟩ := Prod.mk.inj hwk
              have C1 := Lib.hid ck
              clear hwk hkn2 hwd hwk1 ck cw hkn hf hy
              go_wp2_with fail
              refine C1.out.mono ?_
              rintro e w' ⟨rfl, hw'⟩
              obtain rfl := hw'.symm
              go_wp2_with fail
              go_ret2
              exact ⟨rfl, rfl⟩
    · rw [if_neg hk] at hR
      have ck := CK.out d0 d0 rfl
      rw [decide_eq_false hk] at ck
      obtain ⟨rfl, rfl⟩ := Prod.mk.inj hR
      have C0 := Lib.hid ck
      clear hR ck hk
      go_enter Tryd.func33, Tryd.ntmps33
      go_wp2_with fail
      refine C0.out.mono ?_
      rintro e w' ⟨rfl, hw'⟩
      obtain rfl := hw'.symm
      go_wp2_with fail
      go_ret2
      exact ⟨rfl, rfl⟩
end Go.Proofs.YtkenfgifhebnpaaDoor
