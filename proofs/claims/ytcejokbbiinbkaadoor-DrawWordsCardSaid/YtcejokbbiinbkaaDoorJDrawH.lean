import Derived.Test.YtcejokbbiinbkaaDoorJDrawG
import Derived.Test.YtcejokbbiinbkaaDoorJRatioPe
import Derived.Test.YtcejokbbiinbkaaDoorJRatioPi0

section
/- The contracts of draw.Pick, sides and Coin, where the first accepted word is that of try k. -/



namespace Go.Proofs.YtcejokbbiinbkaaDoor
open Go.RowKit
set_option linter.unusedVariables false
set_option maxRecDepth 100000

set_option maxHeartbeats 4000000 in
theorem pick_at (s : ByteArray) (A : Option Addr) (cap : Nat) (p : List Int) (A' : Option Addr) (cap' : Nat) (l : List Int) (n k i : Nat) (w : World) (hr : Rd w w.heap.size A (p.map iv)) (hc : p.length ≤ cap) (hm : cap ≤ maxLen) (hs : s.size ≤ 32) (hn : p.length ≤ 8)
    (hI : ∀ n ∈ p, M.I64 n) (hT : HTab w) (hr' : Rd w w.heap.size A' (l.map iv)) (hc' : l.length ≤ cap') (hl : OkW l) (hnn : tot l = (n : Int)) (h1 : 1 ≤ n) (hk : k ≤ 1000000000) (hF : First s p n k)
    (hi : i < l.length) (hlow : ∀ j, j < i → tot (l.take (j + 1)) ≤ ((wordN s p k % n : Nat) : Int)) (hup : ((wordN s p k % n : Nat) : Int) < tot (l.take (i + 1))) :
    Calls Tryd.prog 23 #[.string s, .slice A p.length cap, .slice A' l.length cap'] w fun e w' => e = .returned (.tuple #[.int .i64 i, .int .i64 0]) ∧ Below w.heap.size w w' := by
  have hn2 := hl.tot
  have cN := num_at s A cap p n k w hr hc hm hs hn hI hT h1 (by omega) hk hF
  have cT := total_ok A' cap' l w hr' hl
  rw [hnn] at cT
  obtain ⟨y, hy⟩ : ∃ y : Nat, y = wordN s p k % n := ⟨_, rfl⟩
  obtain ⟨L, hL⟩ : ∃ L, L = p.length := ⟨_, rfl⟩
  rw [← hy, ← hL] at cN
  rw [← hL]
  rw [← hy] at hlow hup
  have CN := Lib.hid cN
  have CT := Lib.hid cT
  have HW := Lib.hid (And.intro hr' (And.intro hl (And.intro hlow hup)))
  have h64 := hl.1
  clear cN cT hy hL hr hc hm hI hT hk hF hn hs hr' hl hlow hup hn2 hnn
  go_enter Tryd.func23, Tryd.ntmps23
  go_wp2_with (go_at_call 41; refine CT.out.mono ?_; rintro e w' ⟨rfl, rfl⟩)
  refine CN.out.mono ?_
  rintro e w1 ⟨rfl, hb⟩
  have hrb := (HW.out.1.below hb).more hb.size
  have HB := Lib.hid (And.intro hb hrb)
  clear hb hrb
  go_wp2_with fail
  go_loopw [10] (fun x wr => ∃ j : Nat, j ≤ i ∧ x = .int .i64 j ∧ w1 = wr) (fun x _ => i + 1 - (intOf x).toNat)
  case atStart => exact ⟨0, Nat.zero_le _, rfl, rfl⟩
  case round =>
    obtain ⟨j, hj, rfl, hw⟩ := hrel
    have hw := hw.symm
    subst hw
    have hlt : j < l.length := by omega
    have hlen : (l.take (j + 1)).length = j + 1 := by rw [List.length_take]; omega
    have hrd := HB.out.2.cut (lo := 0) (hi := j + 1) (cap := cap') (by rw [List.length_map]; omega) (by omega)
    rw [List.drop_zero, ← List.map_take] at hrd
    have cS := sum_any' (cutA A' 0 cap') cap' (l.take (j + 1)) wr hrd (HW.out.2.1.take _)
    rw [hlen] at cS
    have hcut := fun W => cutI_h W A' l.length cap' (j + 1) ((j : Int) + 1) (by omega) (by omega)
    obtain ⟨T, hT⟩ : ∃ T, T = tot (l.take (j + 1)) := ⟨_, rfl⟩
    rw [← hT] at cS
    have CS := Lib.hid cS
    have HT := Lib.hid hT
    obtain ⟨N, hN⟩ : ∃ N, N = l.length := ⟨_, rfl⟩
    rw [← hN] at hcut ⊢
    have HN := Lib.hid hN
    have HH := Lib.hid hlen
    clear cS hrd hlen hN
    by_cases h : j < i
    · have hle : T ≤ (y : Int) := by rw [hT]; exact HW.out.2.2.1 j h
      clear hT
      go_wp2_with (refine CS.out.mono ?_; rintro e w' ⟨rfl, rfl⟩)
      go_roundw
      case rel => exact ⟨j + 1, by omega, by go_num, trivial⟩
      case measure => simp [intOf]; omega
    · obtain rfl : j = i := by omega
      have hlt2 : (y : Int) < T := by rw [hT]; exact HW.out.2.2.2
      clear hT
      go_wp2_with (refine CS.out.mono ?_; rintro e w' ⟨rfl, rfl⟩)
      refine bodyPost_ret (results_tmp2 rfl _ _ _) rfl ⟨rfl, HB.out.1⟩

set_option maxHeartbeats 4000000 in
theorem sides_ok (P Q : Int) (w : World) (hp : In64 P) (hq : In64 Q) (ho : Rt.Ok P Q) (h0 : 0 ≤ Rt.cmp3 P Q 0 0) (h1 : Rt.cmp3 P Q 1 1 ≤ 0) :
    Calls Tryd.prog 46 #[Rv P Q] w fun e w' => e = .returned (.int .i64 (if Q = 0 then 1 else Q)) ∧ Below w.heap.size w w' := by
  have cV := fun W => valid_any P Q W hp hq
  rw [decide_eq_true ho] at cV
  have c0 := fun W => compare_any P Q 0 0 W hp hq (by constructor <;> decide) (by constructor <;> decide)
  have c1 := fun W => compare_any P Q 1 1 W hp hq (by constructor <;> decide) (by constructor <;> decide)
  obtain ⟨x, hx⟩ : ∃ x, x = Rt.cmp3 P Q 0 0 := ⟨_, rfl⟩
  obtain ⟨y, hy⟩ : ∃ y, y = Rt.cmp3 P Q 1 1 := ⟨_, rfl⟩
  rw [← hx] at c0 h0
  rw [← hy] at c1 h1
  have CV := Lib.hid cV
  have C0 := Lib.hid c0
  have C1 := Lib.hid c1
  clear cV c0 c1 hx hy ho hp hq
  unfold Rv at CV C0 C1 ⊢
  go_enter Tryd.func46, Tryd.ntmps46
  go_wp2_with fail
  refine (CV.out _).mono ?_
  rintro e w2 ⟨rfl, hb⟩
  have k2 : Blk w2 w.heap.size [.int .i64 P, .int .i64 Q] 47 := (Blk.new w _ _).below hb (by simp)
  have b2 : Below w.heap.size w w2 := ((Below.refl _ _).alloc (Nat.le_refl _) _).trans (hb.mono (by simp))
  have c20 := k2.cell 0 _ rfl
  have c21 := k2.cell 1 _ rfl
  have K2 := Lib.hid (And.intro k2 b2)
  clear k2 b2 hb CV
  go_wp2_with fail
  refine (C0.out _).mono ?_
  rintro e w3 ⟨rfl, hb⟩
  have k3 := K2.out.1.below hb K2.out.1.lt
  have b3 := K2.out.2.trans (hb.mono K2.out.2.size)
  have c30 := k3.cell 0 _ rfl
  have c31 := k3.cell 1 _ rfl
  have K3 := Lib.hid (And.intro k3 b3)
  clear k3 b3 hb C0 K2 c20 c21
  go_wp2_with fail
  refine (C1.out _).mono ?_
  rintro e w4 ⟨rfl, hb⟩
  have k4 := K3.out.1.below hb K3.out.1.lt
  have b4 := K3.out.2.trans (hb.mono K3.out.2.size)
  have c40 := k4.cell 0 _ rfl
  have c41 := k4.cell 1 _ rfl
  have K4 := Lib.hid b4
  clear k4 b4 hb C1 K3 c30 c31
  by_cases hq : Q = 0
  · subst hq
    go_wp2_with fail
    go_ret
    exact ⟨rfl, K4.out⟩
  · go_wp2_with fail
    go_ret
    exact ⟨rfl, K4.out⟩

set_option maxHeartbeats 4000000 in
theorem coin_at (s : ByteArray) (A : Option Addr) (cap : Nat) (p : List Int) (P Q : Int) (n k : Nat) (w : World) (hr : Rd w w.heap.size A (p.map iv)) (hc : p.length ≤ cap) (hm : cap ≤ maxLen) (hs : s.size ≤ 32) (hn : p.length ≤ 8)
    (hI : ∀ n ∈ p, M.I64 n) (hT : HTab w) (hp : In64 P) (hq : In64 Q) (ho : Rt.Ok P Q) (h0 : 0 ≤ Rt.cmp3 P Q 0 0) (h1 : Rt.cmp3 P Q 1 1 ≤ 0) (hnn : (if Q = 0 then 1 else Q) = (n : Int)) (hn1 : 1 ≤ n) (hn2 : n ≤ 1099511627776) (hk : k ≤ 1000000000) (hF : First s p n k) :
    Calls Tryd.prog 26 #[.string s, .slice A p.length cap, Rv P Q] w fun e w' => e = .returned (.tuple #[.bool (decide (((wordN s p k % n : Nat) : Int) < P)), .int .i64 0]) ∧ Below w.heap.size w w' := by
  obtain ⟨W1, hW1⟩ : ∃ W1, W1 = w.alloc (.cells #[.int .i64 P, .int .i64 Q] 47) := ⟨_, rfl⟩
  have hk1 : Blk W1 w.heap.size [.int .i64 P, .int .i64 Q] 47 := by rw [hW1]; exact Blk.new w _ _
  have hb1 : Below w.heap.size w W1 := by rw [hW1]; exact (Below.refl _ _).alloc (Nat.le_refl _) _
  have cS := sides_ok P Q W1 hp hq ho h0 h1
  rw [hnn] at cS
  have cN := fun (W : World) (hb : Below w.heap.size w W) => num_at s A cap p n k W ((hr.below hb).more hb.size) hc hm hs hn hI (hT.below hb (Nat.le_refl _)) hn1 hn2 hk hF
  obtain ⟨y, hy⟩ : ∃ y : Nat, y = wordN s p k % n := ⟨_, rfl⟩
  obtain ⟨L, hL⟩ : ∃ L, L = p.length := ⟨_, rfl⟩
  rw [← hy, ← hL] at cN
  rw [← hy, ← hL]
  have CN := Lib.hid cN
  have CS := Lib.hid cS
  have K1 := Lib.hid (And.intro hk1 (And.intro hb1 hW1))
  clear cN cS hy hL hr hc hm hI hT hk hF hn hs hk1 hb1 hW1 hnn hn1 hn2 h0 h1 ho hp hq
  unfold Rv at CS ⊢
  go_enter Tryd.func26, Tryd.ntmps26
  go_wp2_with fail
  rw [← K1.out.2.2]
  refine CS.out.mono ?_
  rintro e w2 ⟨rfl, hb⟩
  have k2 := K1.out.1.below hb K1.out.1.lt
  have b2 := K1.out.2.1.trans (hb.mono K1.out.2.1.size)
  have cN2 := CN.out w2 b2
  have K2 := Lib.hid (And.intro k2 b2)
  have C2 := Lib.hid cN2
  clear k2 b2 hb cN2 CN CS K1
  go_wp2_with fail
  refine C2.out.mono ?_
  rintro e w3 ⟨rfl, hb⟩
  have k3 := K2.out.1.below hb K2.out.1.lt
  have b3 := Lib.hid (K2.out.2.trans (hb.mono K2.out.2.size))
  have c30 := k3.cell 0 _ rfl
  clear k3 hb C2 K2
  go_wp2_with fail
  refine bodyPost_ret (results_tmp2 rfl _ _ _) rfl ⟨rfl, b3.out⟩
end Go.Proofs.YtcejokbbiinbkaaDoor
end

