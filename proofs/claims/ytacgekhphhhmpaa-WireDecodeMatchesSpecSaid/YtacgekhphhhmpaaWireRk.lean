/- The walk of the statement WireDecodeMatchesSpec. -/
import Derived.Test.YtacgekhphhhmpaaWireRj
import Derived.Test.YtacgekhphhhmpaaWireRa
namespace Go.Proofs.Ytacgekhphhhmpaa
open Go.RowKit
set_option linter.unusedVariables false

set_option maxHeartbeats 4000000 in
set_option maxRecDepth 100000 in
theorem decode_walk (A0 : Option Addr) (len cap : Nat) (zs : List Int) (w : World) (hrow : IsRow .u8 w A0 len cap zs) :
    Calls Try.prog 4 #[.slice A0 len cap] w (Tells true w) := by
  obtain ⟨l, rfl, hrd, hc, hm⟩ := row_bytes hrow
  clear hrow
  by_cases hl : 2000 < l.length
  · have hl' : (2000 : Int) < l.length := by omega
    clear hrd
    unfold maxLen at hm
    go_enter Try.func4, Try.ntmps4
    go_wp2_with fail
    refine (sanity_any _).mono ?_
    rintro e w1 ⟨rfl, hb⟩
    go_wp2_with fail
    go_ret
    exact ⟨rfl, hb⟩
  · have hl' : (l.length : Int) ≤ 2000 := by omega
    have qI := fun (W : World) (hr : RdB W W.heap.size A0 l) => getInt_any A0 cap l W _ hr hc hm
    have qB := fun (W : World) (hr : RdB W W.heap.size A0 l) => getBytes_any A0 cap l W _ hr hc hm
    have qL := fun (W : World) (hr : RdB W W.heap.size A0 l) => getInts_any A0 cap l W hr hc hm (by omega)
    have qS := fun (W : World) (hr : RdB W W.heap.size A0 l) => getStrings_any A0 cap l W hr hc hm (by omega)
    have qD := fun (W : World) (hr : RdB W W.heap.size A0 l) => getDigests_any A0 cap l W hr hc hm (by omega)
    have pI := fun (W : World) (hr : RdB W W.heap.size A0 l) => refGetInt_any A0 cap l W hr hc hm
    have pB := fun (W : World) (hr : RdB W W.heap.size A0 l) => refGetBytes_any A0 cap l W hr hc hm (by omega)
    have pL := fun (W : World) (hr : RdB W W.heap.size A0 l) => refGetInts_any A0 cap l W hr hc hm (by omega)
    have pS := fun (W : World) (hr : RdB W W.heap.size A0 l) => refGetStrings_any A0 cap l W hr hc hm (by omega)
    have pD := fun (W : World) (hr : RdB W W.heap.size A0 l) => refGetDigests_any A0 cap l W hr hc hm (by omega)
    have nL := getLs_len M.getI 1 l (Nat.le_refl _)
    have nS := getLs_len gS 1 l (Nat.le_refl _)
    have nD := getLs_len gD 16 l (by omega)
    have fD := flat_len16 (M.getLs gD 16 l).1 (M.getLs_all (P := fun a => a.length = 16) pad_len 16 l (by omega) (g := gD))
    obtain ⟨⟨N, UI, EI⟩, hgI⟩ : ∃ r, r = M.getI l := ⟨_, rfl⟩
    obtain ⟨⟨SB, UB, EB⟩, hgB⟩ : ∃ r, r = M.getB l := ⟨_, rfl⟩
    obtain ⟨⟨LI, UL, EL⟩, hgL⟩ : ∃ r, r = M.getLs M.getI 1 l := ⟨_, rfl⟩
    obtain ⟨⟨LS, US, ES⟩, hgS⟩ : ∃ r, r = M.getLs gS 1 l := ⟨_, rfl⟩
    obtain ⟨⟨LD, UD, ED⟩, hgD⟩ : ∃ r, r = M.getLs gD 16 l := ⟨_, rfl⟩
    rw [← hgI] at qI pI
    rw [← hgB] at qB pB
    rw [← hgL] at qL pL nL
    rw [← hgS] at qS pS nS
    rw [← hgD] at qD pD nD fD
    simp only at nL nS nD fD
    have QI := Lib.hid qI
    have QB := Lib.hid qB
    have QL := Lib.hid qL
    have QS := Lib.hid qS
    have QD := Lib.hid qD
    have PI := Lib.hid pI
    have PB := Lib.hid pB
    have PL := Lib.hid pL
    have PS := Lib.hid pS
    have PD := Lib.hid pD
    have FD := Lib.hid fD
    have HR := Lib.hid hrd
    clear hgI hgB hgL hgS hgD qI qB qL qS qD pI pB pL pS pD fD hrd
    unfold maxLen at hm
    go_enter Try.func4, Try.ntmps4
    go_wp2_with fail
    refine (QI.out _ HR.out).mono ?_
    rintro e w1 ⟨rfl, rfl⟩
    unfold I3
    go_wp2_with fail
    refine (PI.out _ HR.out).mono ?_
    rintro e w1 ⟨rfl, b1⟩
    unfold I3
    go_wp2_with fail
    refine (QB.out _ ((HR.out.below b1).more b1.size)).mono ?_
    rintro e w2 ⟨rfl, rfl⟩
    unfold S3
    go_wp2_with fail
    refine (PB.out _ ((HR.out.below b1).more b1.size)).mono ?_
    rintro e w2 ⟨rfl, b⟩
    have b2 := b1.trans (b.mono b1.size)
    unfold S3
    clear b b1 QI PI QB PB
    go_wp2_with fail
    refine (QL.out _ ((HR.out.below b2).more b2.size)).mono ?_
    rintro e w3 ⟨v3, rfl, ho, b⟩
    have b3 := b2.trans (b.mono b2.size)
    obtain ⟨A3, c3, rfl, r3, -, -⟩ := own_rd (B := 0) ho
    have R3 := Lib.hid r3
    clear ho b b2 r3 QL
    go_wp2_with fail
    refine (PL.out _ ((HR.out.below b3).more b3.size)).mono ?_
    rintro e w4 ⟨v4, rfl, ho, b⟩
    have b4 := b3.trans (b.mono b3.size)
    obtain ⟨A4, c4, rfl, r4, -, -⟩ := own_rd (B := 0) ho
    have hq := sameInts_any A3 A4 c3 c4 LI LI w4 ((R3.out.below b).more b.size) r4 (by unfold maxLen; omega) (by unfold maxLen; omega)
    rw [decide_eq_true rfl] at hq
    have Hq := Lib.hid hq
    clear ho b b3 r4 PL R3 hq
    go_wp2_with fail
    refine Hq.out.mono ?_
    rintro e w5 ⟨rfl, b⟩
    have b5 := b4.trans (b.mono b4.size)
    clear b b4 Hq
    go_wp2_with fail
    refine (QS.out _ ((HR.out.below b5).more b5.size)).mono ?_
    rintro e w6 ⟨v6, rfl, ho, b⟩
    have b6 := b5.trans (b.mono b5.size)
    obtain ⟨A6, c6, rfl, r6, -, -⟩ := own_rd (B := 0) ho
    have R6 := Lib.hid r6
    clear ho b b5 r6 QS
    go_wp2_with fail
    refine (PS.out _ ((HR.out.below b6).more b6.size)).mono ?_
    rintro e w7 ⟨v7, rfl, ho, b⟩
    have b7 := b6.trans (b.mono b6.size)
    obtain ⟨A7, c7, rfl, r7, -, -⟩ := own_rd (B := 0) ho
    have hq := sameTexts_any A6 A7 c6 c7 LS LS w7 ((R6.out.below b).more b.size) r7 (by unfold maxLen; omega) (by unfold maxLen; omega)
    rw [decide_eq_true rfl] at hq
    have Hq := Lib.hid hq
    clear ho b b6 r7 PS R6 hq
    go_wp2_with fail
    refine Hq.out.mono ?_
    rintro e w8 ⟨rfl, b⟩
    have b8 := b7.trans (b.mono b7.size)
    clear b b7 Hq
    go_wp2_with fail
    refine (QD.out _ ((HR.out.below b8).more b8.size)).mono ?_
    rintro e w9 ⟨v9, rfl, ho, b⟩
    have b9 := b8.trans (b.mono b8.size)
    obtain ⟨A9, c9, rfl, r9, -, -⟩ := own_rd (B := 0) ho
    have R9 := Lib.hid r9
    clear ho b b8 r9 QD
    go_wp2_with fail
    refine (PD.out _ ((HR.out.below b9).more b9.size)).mono ?_
    rintro e w10 ⟨v10, rfl, ho, b⟩
    have b10 := b9.trans (b.mono b9.size)
    obtain ⟨A10, c10, rfl, r10, -, -⟩ := own_rd (B := 0) ho
    have R10 := Lib.hid (And.intro ((R9.out.below b).more b.size) r10)
    clear ho b b9 r10 PD R9
    go_wp2_with fail
    refine (sanity_any _).mono ?_
    rintro e w11 ⟨rfl, b⟩
    have b11 := b10.trans (b.mono b10.size)
    have hq := sameDigests_any A9 A10 c9 c10 LD.length LD.length LD.flatten LD.flatten w11 ((R10.out.1.below b).more b.size) ((R10.out.2.below b).more b.size) FD.out FD.out (by unfold maxLen; omega) (by unfold maxLen; omega)
    rw [decide_eq_true rfl] at hq
    have Hq := Lib.hid hq
    clear b b10 R10 hq
    go_wp2_with fail
    refine Hq.out.mono ?_
    rintro e w12 ⟨rfl, b⟩
    go_wp2_with fail
    go_ret
    exact ⟨rfl, b11.trans (b.mono b11.size)⟩
end Go.Proofs.Ytacgekhphhhmpaa
