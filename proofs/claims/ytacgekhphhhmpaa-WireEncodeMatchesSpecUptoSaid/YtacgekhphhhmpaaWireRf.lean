/- The walk of the statement WireEncodeMatchesSpec. -/
import Derived.Test.YtacgekhphhhmpaaWireRe
import Derived.Test.YtacgekhphhhmpaaWireRa
namespace Go.Proofs.Ytacgekhphhhmpaa
open Go.RowKit
set_option linter.unusedVariables false

set_option maxHeartbeats 4000000 in
set_option maxRecDepth 100000 in
theorem encode_walk (n0 : Int) (s : ByteArray) (A1 : Option Addr) (len1 cap1 : Nat) (zs : List Int) (A2 : Option Addr) (len2 cap2 : Nat) (ss : List ByteArray) (A3 : Option Addr) (n cap3 : Nat) (D : List UInt8) (w : World)
    (hn0 : (Lit.int .i64 n0).wf = true) (hs : s.size ≤ 140737488351232) (hrow1 : IsRow .i64 w A1 len1 cap1 zs) (hb1 : cap1 ≤ 140737488351232)
    (hrow2 : IsStrs w A2 len2 cap2 ss) (hsum : len2 + sum (ss.take len2) ≤ 9000000000000000000)
    (hD : D.length = 16 * n) (hr3 : RdB w w.heap.size A3 D) (hc3 : n ≤ cap3) (hm3 : cap3 ≤ maxLen) (hb3 : cap3 * 16 ≤ 140737488351232) :
    Calls Try.prog 3 #[.int .i64 n0, .string s, .slice A1 len1 cap1, .slice A2 len2 cap2, .slice A3 n cap3] w (Tells true w) := by
  obtain ⟨l, rfl, hr1, hc1, hm1, hI⟩ := row_ints hrow1
  obtain ⟨x, rfl, hr2, hc2, hm2, hx⟩ := row_strs hrow2
  rw [← hx] at hsum
  have hn := int_I64 hn0
  clear hrow1 hrow2 hx hn0
  unfold maxLen at hm1 hm2 hm3
  by_cases hbig : 2000 < s.size + l.length + n
  · have hbig' : (2000 : Int) < (s.size : Int) + (l.length : Int) + (n : Int) := by omega
    clear hr1 hr2 hr3 hI hD hsum
    go_enter Try.func3, Try.ntmps3
    go_wp2_with fail
    refine (sanity_any _).mono ?_
    rintro e w1 ⟨rfl, hb⟩
    go_wp2_with fail
    go_ret
    exact ⟨rfl, hb⟩
  · have hbig' : (s.size : Int) + (l.length : Int) + (n : Int) ≤ 2000 := by omega
    have hfew := few_any A2 cap2 x w hr2 hc2 (by unfold maxLen; omega) hsum
    by_cases hmany : 2000 < x.length + sum x
    · have hd : decide (x.length + sum x ≤ 2000) = false := by simp; omega
      rw [hd] at hfew
      have Hfew := Lib.hid hfew
      clear hr1 hr2 hr3 hI hD hsum hfew hd
      go_enter Try.func3, Try.ntmps3
      go_wp2_with fail
      refine Hfew.out.mono ?_
      rintro e w1 ⟨rfl, hb1⟩
      go_wp2_with fail
      refine (sanity_any _).mono ?_
      rintro e w2 ⟨rfl, hb⟩
      go_wp2_with fail
      go_ret
      exact ⟨rfl, hb1.trans (hb.mono hb1.size)⟩
    · have hd : decide (x.length + sum x ≤ 2000) = true := by simp; omega
      rw [hd] at hfew
      have hszs : ∀ s ∈ x, s.size ≤ 2000 := fun s hs => by have := sum_mem x s hs; omega
      have hflat := encS_flat x (fun s hs => by have := hszs s hs; omega)
      obtain ⟨L0, h0⟩ : ∃ L, L = M.encI n0 := ⟨_, rfl⟩
      obtain ⟨L1, h1⟩ : ∃ L, L = M.encB (sb s) := ⟨_, rfl⟩
      obtain ⟨L2, h2⟩ : ∃ L, L = M.encL M.encI l := ⟨_, rfl⟩
      obtain ⟨L3, h3⟩ : ∃ L, L = M.encL encS x := ⟨_, rfl⟩
      obtain ⟨L4, h4⟩ : ∃ L, L = encD n D := ⟨_, rfl⟩
      have z0 : L0.length ≤ 9 := by rw [h0]; exact M.encI_len_le n0 hn
      have z1 : L1.length ≤ 3000 := by
        rw [h1]; unfold M.encB; rw [List.length_append, sb_len]
        have := M.encI_len_le s.size (M.I64_nat s.size (by omega)); omega
      have z2 : L2.length ≤ 20000 := by
        rw [h2]; unfold M.encL; rw [List.length_append]
        have q1 := M.encI_len_le l.length (M.I64_nat l.length (by omega))
        have q2 := M.flat_ints l hI; omega
      have z3 : L3.length ≤ 40000 := by
        rw [h3]; unfold M.encL; rw [List.length_append]
        have q1 := M.encI_len_le x.length (M.I64_nat x.length (by omega)); omega
      have z4 : L4.length ≤ 40000 := by
        rw [h4]; unfold encD; rw [List.length_append]
        have q1 := M.encI_len_le n (M.I64_nat n (by omega)); omega
      have q0 : ∀ W, Calls Try.prog 14 #[.int .i64 n0] W (Gives L0 W) := fun W => (int_any n0 W hn).mono fun e w' h => by rw [h0]; exact makes_gives h
      have p0 : ∀ W, Calls Try.prog 15 #[.int .i64 n0] W (Gives L0 W) := fun W => (refInt_any n0 W hn).mono fun e w' h => by rw [h0]; exact makes_gives h
      have Q0 := Lib.hid q0
      have P0 := Lib.hid p0
      have q1 : ∀ W, Calls Try.prog 16 #[.string s] W (Gives L1 W) := fun W => (bytes_any s W (by omega)).mono fun e w' h => by rw [h1]; exact makes_gives h
      have p1 : ∀ W, Calls Try.prog 17 #[.string s] W (Gives L1 W) := fun W => (refBytes_any s W (by omega)).mono fun e w' h => by rw [h1]; exact makes_gives h
      have Q1 := Lib.hid q1
      have P1 := Lib.hid p1
      have q2 : ∀ W, Rd W W.heap.size A1 (l.map iv) → Calls Try.prog 18 #[.slice A1 l.length cap1] W (Gives L2 W) := fun W hr => (ints_any A1 cap1 l W hr hc1 hm1 (by omega) hI).mono fun e w' h => by rw [h2]; exact makes_gives h
      have p2 : ∀ W, Rd W W.heap.size A1 (l.map iv) → Calls Try.prog 19 #[.slice A1 l.length cap1] W (Gives L2 W) := fun W hr => (refInts_any A1 cap1 l W hr hc1 hm1 (by omega) hI).mono fun e w' h => by rw [h2]; exact makes_gives h
      have Q2 := Lib.hid q2
      have P2 := Lib.hid p2
      have q3 : ∀ W, Rd W W.heap.size A2 (x.map sv) → Calls Try.prog 20 #[.slice A2 x.length cap2] W (Gives L3 W) := fun W hr => (strings_any A2 cap2 x W hr hc2 hm2 (by omega) (by omega)).mono fun e w' h => by rw [h3]; exact makes_gives h
      have p3 : ∀ W, Rd W W.heap.size A2 (x.map sv) → Calls Try.prog 21 #[.slice A2 x.length cap2] W (Gives L3 W) := fun W hr => (refStrings_any A2 cap2 x W hr hc2 hm2 (by omega) (by omega)).mono fun e w' h => by rw [h3]; exact makes_gives h
      have Q3 := Lib.hid q3
      have P3 := Lib.hid p3
      have q4 : ∀ W, RdB W W.heap.size A3 D → Calls Try.prog 22 #[.slice A3 n cap3] W (Gives L4 W) := fun W hr => (digests_any A3 cap3 n D W hr hc3 hm3 hD (by omega)).mono fun e w' h => by rw [h4]; exact makes_gives h
      have p4 : ∀ W, RdB W W.heap.size A3 D → Calls Try.prog 23 #[.slice A3 n cap3] W (Gives L4 W) := fun W hr => (refDigests_any A3 cap3 n D W hr hc3 hm3 hD (by omega)).mono fun e w' h => by rw [h4]; exact makes_gives h
      have Q4 := Lib.hid q4
      have P4 := Lib.hid p4
      have Hfew := Lib.hid hfew
      have H1 := Lib.hid hr1
      have H2 := Lib.hid hr2
      have H3 := Lib.hid hr3
      clear hr1 hr2 hr3 hI hD hsum hfew hd hszs hflat h0 h1 h2 h3 h4 q0 q1 q2 q3 q4 p0 p1 p2 p3 p4
      go_enter Try.func3, Try.ntmps3
      go_wp2_with fail
      refine Hfew.out.mono ?_
      rintro e wa ⟨rfl, ba⟩
      go_wp2_with fail
      refine (sanity_any _).mono ?_
      rintro e wb ⟨rfl, bb⟩
      have Z0 := ba.trans (bb.mono ba.size)
      clear ba bb Hfew
      go_wp2_with fail
      refine (Q0.out _).mono ?_
      rintro e u0 ⟨B0, c0, rfl, r0, -, -, b0⟩
      have Y0 := Z0.trans (b0.mono Z0.size)
      have R0 := Lib.hid r0
      clear r0 b0 Z0 Q0
      go_wp2_with fail
      refine (P0.out _).mono ?_
      rintro e v0 ⟨C0, d0, rfl, r0, -, -, b0⟩
      have X0 := Y0.trans (b0.mono Y0.size)
      have hq := same_any B0 C0 c0 d0 L0 L0 v0 ((R0.out.below b0).more b0.size) r0 (by unfold maxLen; omega) (by unfold maxLen; omega)
      rw [decide_eq_true rfl] at hq
      have Hq := Lib.hid hq
      clear r0 b0 Y0 P0 R0 hq
      go_wp2_with fail
      refine Hq.out.mono ?_
      rintro e t0 ⟨rfl, b0⟩
      have Z1 := X0.trans (b0.mono X0.size)
      clear b0 X0 Hq
      go_wp2_with fail
      refine (Q1.out _).mono ?_
      rintro e u1 ⟨B1, c1, rfl, r1, -, -, b1⟩
      have Y1 := Z1.trans (b1.mono Z1.size)
      have R1 := Lib.hid r1
      clear r1 b1 Z1 Q1
      go_wp2_with fail
      refine (P1.out _).mono ?_
      rintro e v1 ⟨C1, d1, rfl, r1, -, -, b1⟩
      have X1 := Y1.trans (b1.mono Y1.size)
      have hq := same_any B1 C1 c1 d1 L1 L1 v1 ((R1.out.below b1).more b1.size) r1 (by unfold maxLen; omega) (by unfold maxLen; omega)
      rw [decide_eq_true rfl] at hq
      have Hq := Lib.hid hq
      clear r1 b1 Y1 P1 R1 hq
      go_wp2_with fail
      refine Hq.out.mono ?_
      rintro e t1 ⟨rfl, b1⟩
      have Z2 := X1.trans (b1.mono X1.size)
      clear b1 X1 Hq
      go_wp2_with fail
      refine (Q2.out _ ((H1.out.below Z2).more Z2.size)).mono ?_
      rintro e u2 ⟨B2, c2, rfl, r2, -, -, b2⟩
      have Y2 := Z2.trans (b2.mono Z2.size)
      have R2 := Lib.hid r2
      clear r2 b2 Z2 Q2
      go_wp2_with fail
      refine (P2.out _ ((H1.out.below Y2).more Y2.size)).mono ?_
      rintro e v2 ⟨C2, d2, rfl, r2, -, -, b2⟩
      have X2 := Y2.trans (b2.mono Y2.size)
      have hq := same_any B2 C2 c2 d2 L2 L2 v2 ((R2.out.below b2).more b2.size) r2 (by unfold maxLen; omega) (by unfold maxLen; omega)
      rw [decide_eq_true rfl] at hq
      have Hq := Lib.hid hq
      clear r2 b2 Y2 P2 R2 hq
      go_wp2_with fail
      refine Hq.out.mono ?_
      rintro e t2 ⟨rfl, b2⟩
      have Z3 := X2.trans (b2.mono X2.size)
      clear b2 X2 Hq
      go_wp2_with fail
      refine (Q3.out _ ((H2.out.below Z3).more Z3.size)).mono ?_
      rintro e u3 ⟨B3, c3, rfl, r3, -, -, b3⟩
      have Y3 := Z3.trans (b3.mono Z3.size)
      have R3 := Lib.hid r3
      clear r3 b3 Z3 Q3
      go_wp2_with fail
      refine (P3.out _ ((H2.out.below Y3).more Y3.size)).mono ?_
      rintro e v3 ⟨C3, d3, rfl, r3, -, -, b3⟩
      have X3 := Y3.trans (b3.mono Y3.size)
      have hq := same_any B3 C3 c3 d3 L3 L3 v3 ((R3.out.below b3).more b3.size) r3 (by unfold maxLen; omega) (by unfold maxLen; omega)
      rw [decide_eq_true rfl] at hq
      have Hq := Lib.hid hq
      clear r3 b3 Y3 P3 R3 hq
      go_wp2_with fail
      refine Hq.out.mono ?_
      rintro e t3 ⟨rfl, b3⟩
      have Z4 := X3.trans (b3.mono X3.size)
      clear b3 X3 Hq
      go_wp2_with fail
      refine (Q4.out _ ((H3.out.below Z4).more Z4.size)).mono ?_
      rintro e u4 ⟨B4, c4, rfl, r4, -, -, b4⟩
      have Y4 := Z4.trans (b4.mono Z4.size)
      have R4 := Lib.hid r4
      clear r4 b4 Z4 Q4
      go_wp2_with fail
      refine (P4.out _ ((H3.out.below Y4).more Y4.size)).mono ?_
      rintro e v4 ⟨C4, d4, rfl, r4, -, -, b4⟩
      have X4 := Y4.trans (b4.mono Y4.size)
      have hq := same_any B4 C4 c4 d4 L4 L4 v4 ((R4.out.below b4).more b4.size) r4 (by unfold maxLen; omega) (by unfold maxLen; omega)
      rw [decide_eq_true rfl] at hq
      have Hq := Lib.hid hq
      clear r4 b4 Y4 P4 R4 hq
      go_wp2_with fail
      refine Hq.out.mono ?_
      rintro e t4 ⟨rfl, b4⟩
      have Z5 := X4.trans (b4.mono X4.size)
      clear b4 X4 Hq
      go_wp2_with fail
      go_ret
      exact ⟨rfl, Z5⟩
end Go.Proofs.Ytacgekhphhhmpaa
