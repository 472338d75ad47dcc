/- For the statement WireListRoundTrip: what is decoded; what stays in memory. -/
import Derived.Test.YtacgekhphhhmpaaWireR
import Derived.Test.YtacgekhphhhmpaaWireU
namespace Go.Proofs.Ytacgekhphhhmpaa
open Go.RowKit
set_option linter.unusedVariables false

theorem getDigs_enc (n : Nat) (D t : List UInt8) (hD : D.length = 16 * n) (hn : n ≤ 1000000000) :
    ∃ LD, M.getLs gD 16 (encD n D ++ t) = (LD, (encD n D).length, 0) ∧ LD.flatten = D ∧ LD.length = n := by
  obtain ⟨d1, d2, d3, d4⟩ := decN_dig n (D ++ t) (by rw [List.length_append]; omega)
  have hE := M.getLen_enc n (D ++ t) 16 (by decide) (by omega) (by rw [List.length_append]; omega)
  refine ⟨(M.decN gD n (D ++ t)).1, ?_, ?_, d4⟩
  · unfold encD
    rw [List.append_assoc, M.getLs_of gD 16 _ (by rw [hE]) (M.decN gD n (D ++ t)) (by rw [hE]; simp), hE]
    unfold M.comb
    rw [if_neg (by rw [d1]; simp), d2, List.length_append, hD]
    simp
  · rw [d3, ← hD, List.take_left]

/-- Rows in memory. -/
def Mem (W : World) (ps : List (Option Addr × List Value)) : Prop := ∀ p ∈ ps, Rd W W.heap.size p.1 p.2
theorem Mem.step {W W' : World} {ps : List (Option Addr × List Value)} (h : Mem W ps) (hb : Below W.heap.size W W') : Mem W' ps := fun p hp => ((h p hp).below hb).more hb.size
theorem Mem.one {W : World} {A : Option Addr} {l : List Value} (h : Rd W W.heap.size A l) : Mem W [(A, l)] := fun p hp => by
  rw [List.mem_singleton.1 hp]; exact h
theorem Mem.add {W : World} {ps : List (Option Addr × List Value)} {A : Option Addr} {l : List Value} (h : Mem W ps) (hr : Rd W W.heap.size A l) : Mem W ((A, l) :: ps) := fun p hp => by
  rcases List.mem_cons.1 hp with rfl | hp
  · exact hr
  · exact h p hp
theorem Mem.get {W : World} {ps : List (Option Addr × List Value)} (h : Mem W ps) (A : Option Addr) (l : List Value) (hp : (A, l) ∈ ps) : Rd W W.heap.size A l := h _ hp

set_option maxHeartbeats 4000000 in
set_option maxRecDepth 100000 in
theorem listRoundTrip_walk (s : ByteArray) (A1 : Option Addr) (len1 cap1 : Nat) (zs : List Int) (A2 : Option Addr) (len2 cap2 : Nat) (ss : List ByteArray) (A3 : Option Addr) (n cap3 : Nat) (D : List UInt8)
    (A4 : Option Addr) (len4 cap4 : Nat) (ts : List Int) (w : World)
    (hs : s.size ≤ 140737488351232) (hrow1 : IsRow .i64 w A1 len1 cap1 zs) (hb1 : cap1 ≤ 140737488351232)
    (hrow2 : IsStrs w A2 len2 cap2 ss) (hsum : len2 + sum (ss.take len2) ≤ 9000000000000000000)
    (hD : D.length = 16 * n) (hr3 : RdB w w.heap.size A3 D) (hc3 : n ≤ cap3) (hm3 : cap3 ≤ maxLen) (hb3 : cap3 * 16 ≤ 140737488351232)
    (hrow4 : IsRow .u8 w A4 len4 cap4 ts) (hb4 : cap4 ≤ 140737488351232) :
    Calls Try.prog 8 #[.string s, .slice A1 len1 cap1, .slice A2 len2 cap2, .slice A3 n cap3, .slice A4 len4 cap4] w (Tells true w) := by
  obtain ⟨l, rfl, hr1, hc1, hm1, hI⟩ := row_ints hrow1
  obtain ⟨x, rfl, hr2, hc2, hm2, hx⟩ := row_strs hrow2
  obtain ⟨t, rfl, hr4, hc4, hm4⟩ := row_bytes hrow4
  rw [← hx] at hsum
  clear hrow1 hrow2 hrow4 hx
  unfold maxLen at hm1 hm2 hm3 hm4
  by_cases hbig : 2000 < s.size + l.length + n + t.length
  · have hbig' : (2000 : Int) < (s.size : Int) + (l.length : Int) + (n : Int) + (t.length : Int) := by omega
    clear hr1 hr2 hr3 hr4 hI hD hsum
    go_enter Try.func8, Try.ntmps8
    go_wp2_with fail
    refine (sanity_any _).mono ?_
    rintro e w1 ⟨rfl, hb⟩
    go_wp2_with fail
    go_ret
    exact ⟨rfl, hb⟩
  · have hbig' : (s.size : Int) + (l.length : Int) + (n : Int) + (t.length : Int) ≤ 2000 := by omega
    have hfew := few_any A2 cap2 x w hr2 hc2 (by unfold maxLen; omega) hsum
    by_cases hmany : 2000 < x.length + sum x
    · have hd : decide (x.length + sum x ≤ 2000) = false := by simp; omega
      rw [hd] at hfew
      have Hfew := Lib.hid hfew
      clear hr1 hr2 hr3 hr4 hI hD hsum hfew hd
      go_enter Try.func8, Try.ntmps8
      go_wp2_with fail
      refine Hfew.out.mono ?_
      rintro e w1 ⟨rfl, hb1⟩
      go_wp2_with fail
      refine (sanity_any _).mono ?_
      rintro e w2 ⟨rfl, hb⟩
      go_wp2_with fail
      go_ret
      exact ⟨rfl, hb1.trans (hb.mono hb1.size)⟩
    · have hd : decide (x.length + sum x ≤ 2000) = true := by simp; omega
      rw [hd] at hfew
      have hszs : ∀ s ∈ x, s.size ≤ 2000 := fun s hs => by have := sum_mem x s hs; omega
      have hflat := encS_flat x (fun s hs => by have := hszs s hs; omega)
      obtain ⟨L1, h1⟩ : ∃ L, L = M.encB (sb s) := ⟨_, rfl⟩
      obtain ⟨L2, h2⟩ : ∃ L, L = M.encL M.encI l := ⟨_, rfl⟩
      obtain ⟨L3, h3⟩ : ∃ L, L = encD n D := ⟨_, rfl⟩
      obtain ⟨L4, h4⟩ : ∃ L, L = M.encL encS x := ⟨_, rfl⟩
      obtain ⟨P1, p1⟩ : ∃ L, L = L1 ++ t := ⟨_, rfl⟩
      obtain ⟨P2, p2⟩ : ∃ L, L = L2 ++ t := ⟨_, rfl⟩
      obtain ⟨P3, p3⟩ : ∃ L, L = L3 ++ t := ⟨_, rfl⟩
      obtain ⟨P4, p4⟩ : ∃ L, L = L4 ++ t := ⟨_, rfl⟩
      have z1 : L1.length ≤ 3000 ∧ 0 < L1.length := by
        rw [h1]; unfold M.encB; rw [List.length_append, sb_len]
        have := M.encI_len_le s.size (M.I64_nat s.size (by omega)); have := M.encI_pos s.size; omega
      have z2 : L2.length ≤ 20000 ∧ 0 < L2.length := by
        rw [h2]; unfold M.encL; rw [List.length_append]
        have q1 := M.encI_len_le l.length (M.I64_nat l.length (by omega))
        have q2 := M.flat_ints l hI; have := M.encI_pos l.length; omega
      have z3 : L3.length ≤ 40000 ∧ 0 < L3.length := by
        rw [h3]; unfold encD; rw [List.length_append]
        have q1 := M.encI_len_le n (M.I64_nat n (by omega)); have := M.encI_pos n; omega
      have z4 : L4.length ≤ 40000 ∧ 0 < L4.length := by
        rw [h4]; unfold M.encL; rw [List.length_append]
        have q1 := M.encI_len_le x.length (M.I64_nat x.length (by omega)); have := M.encI_pos x.length; omega
      have y1 : P1.length ≤ 100000 := by rw [p1, List.length_append]; omega
      have y2 : P2.length ≤ 100000 := by rw [p2, List.length_append]; omega
      have y3 : P3.length ≤ 100000 := by rw [p3, List.length_append]; omega
      have y4 : P4.length ≤ 100000 := by rw [p4, List.length_append]; omega
      have g1 : M.getB P1 = (sb s, L1.length, 0) := by rw [p1, h1]; exact M.getB_enc (sb s) t (by rw [sb_len]; omega)
      have g2 : M.getLs M.getI 1 P2 = (l, L2.length, 0) := by rw [p2, h2]; exact M.getInts_enc l t (by omega) hI
      obtain ⟨LD, g3, f3, n3⟩ : ∃ LD, M.getLs gD 16 P3 = (LD, L3.length, 0) ∧ LD.flatten = D ∧ LD.length = n := by rw [p3, h3]; exact getDigs_enc n D t hD (by omega)
      have g4 : M.getLs gS 1 P4 = (x, L4.length, 0) := by
        rw [p4, h4]
        exact M.getLs_enc gS encS x t 1 (Nat.le_refl _) (by omega) (by rw [Nat.mul_one]; exact M.flat_ge encS x (fun s _ => encB_pos (sb s))) (fun s hs q => gS_enc s (by have := hszs s hs; omega) q)
      have q1 : ∀ W, Calls Try.prog 16 #[.string s] W (Gives L1 W) := fun W => (bytes_any s W (by omega)).mono fun e w' h => by rw [h1]; exact makes_gives h
      have q2 : ∀ W, Rd W W.heap.size A1 (l.map iv) → Calls Try.prog 18 #[.slice A1 l.length cap1] W (Gives L2 W) := fun W hr => (ints_any A1 cap1 l W hr hc1 hm1 (by omega) hI).mono fun e w' h => by rw [h2]; exact makes_gives h
      have q3 : ∀ W, RdB W W.heap.size A3 D → Calls Try.prog 22 #[.slice A3 n cap3] W (Gives L3 W) := fun W hr => (digests_any A3 cap3 n D W hr hc3 hm3 hD (by omega)).mono fun e w' h => by rw [h3]; exact makes_gives h
      have q4 : ∀ W, Rd W W.heap.size A2 (x.map sv) → Calls Try.prog 20 #[.slice A2 x.length cap2] W (Gives L4 W) := fun W hr => (strings_any A2 cap2 x W hr hc2 hm2 (by omega) (by omega)).mono fun e w' h => by rw [h4]; exact makes_gives h
      have Hfew := Lib.hid hfew
      have H1 := Lib.hid hr1
      have H2 := Lib.hid hr2
      have H3 := Lib.hid hr3
      have H4 := Lib.hid hr4
      have G1 := Lib.hid g1
      have G2 := Lib.hid g2
      have G3 := Lib.hid g3
      have G4 := Lib.hid g4
      have F3 := Lib.hid f3
      have N3 := Lib.hid n3
      have HD := Lib.hid hD
      have Q1 := Lib.hid q1
      have Q2 := Lib.hid q2
      have Q3 := Lib.hid q3
      have Q4 := Lib.hid q4
      have E1 := Lib.hid p1
      have E2 := Lib.hid p2
      have E3 := Lib.hid p3
      have E4 := Lib.hid p4
      clear hr1 hr2 hr3 hr4 hI hD hsum hfew hd hszs hflat h1 h2 h3 h4 q1 q2 q3 q4 p1 p2 p3 p4 g1 g2 g3 g4 f3 n3
      go_enter Try.func8, Try.ntmps8
      go_wp2_with fail
      refine Hfew.out.mono ?_
      rintro e wa ⟨rfl, ba⟩
      go_wp2_with fail
      refine (Q1.out _).mono ?_
      rintro e wb ⟨B1, c1, rfl, r1, k1, m1, bb⟩
      have Bb := ba.trans (bb.mono ba.size)
      have R1 := Lib.hid (Mem.one r1)
      clear ba bb r1
      go_wp2_with fail
      refine (Q2.out _ ((H1.out.below Bb).more Bb.size)).mono ?_
      rintro e wc ⟨B2, c2, rfl, r2, k2, m2, bc⟩
      have Bc := Bb.trans (bc.mono Bb.size)
      have R2 := Lib.hid ((R1.out.step bc).add r2)
      clear Bb bc r2 R1
      go_wp2_with fail
      refine (Q3.out _ ((H3.out.below Bc).more Bc.size)).mono ?_
      rintro e wd ⟨B3, c3, rfl, r3, k3, m3, bd⟩
      have Bd := Bc.trans (bd.mono Bc.size)
      have R3 := Lib.hid ((R2.out.step bd).add r3)
      clear Bc bd r3 R2
      go_wp2_with fail
      refine (Q4.out _ ((H2.out.below Bd).more Bd.size)).mono ?_
      rintro e we ⟨B4, c4, rfl, r4, k4, m4, be⟩
      have Be := Bd.trans (be.mono Bd.size)
      have R4 := Lib.hid ((R3.out.step be).add r4)
      clear Bd be r4 R3 Q1 Q2 Q3 Q4 Hfew
      -- the string
      have hsl := cut_hm we B1 L1.length c1 L1.length L1.length L1.length L1.length rfl rfl (Nat.le_refl _) k1
      have hfull := RdB.full (c := c1) (R4.out.get B1 (L1.map bv) (by simp))
      obtain ⟨A5, hA5⟩ : ∃ A, A = cutA B1 0 L1.length := ⟨_, rfl⟩
      rw [← hA5] at hsl hfull
      have ht := Lib.hid ((H4.out.below Be).more Be.size)
      clear hA5
      go_wp2_with (at_builtin; refine wpList_append_full _ rfl (.tmp 59) (.tmp 60) rfl A5 A4 L1 t cap4 rfl rfl hfull ht.out (by omega) (by omega) ?_; intro v w2 hB hb2; rw [← E1.out] at hB; obtain ⟨A6, c6, rfl, hr6, hc6, hm6⟩ := hB)
      have hg := getBytes_any A6 c6 P1 w2 _ hr6 hc6 hm6
      rw [G1.out] at hg
      refine hg.mono ?_
      rintro e w3 ⟨rfl, rfl⟩
      unfold S3
      rw [bs_sb]
      have Bf := Be.trans (hb2.mono Be.size)
      have R5 := Lib.hid (R4.out.step hb2)
      clear hg hr6 hc6 hm6 hb2 hsl hfull ht Be R4
      -- the integers
      have hsl := cut_hm w2 B2 L2.length c2 L2.length L2.length L2.length L2.length rfl rfl (Nat.le_refl _) k2
      have hfull := RdB.full (c := c2) (R5.out.get B2 (L2.map bv) (by simp))
      obtain ⟨A5, hA5⟩ : ∃ A, A = cutA B2 0 L2.length := ⟨_, rfl⟩
      rw [← hA5] at hsl hfull
      have ht := Lib.hid ((H4.out.below Bf).more Bf.size)
      clear hA5
      go_wp2_with (at_builtin; refine wpList_append_full _ rfl (.tmp 72) (.tmp 73) rfl A5 A4 L2 t cap4 rfl rfl hfull ht.out (by omega) (by omega) ?_; intro v w4 hB hb2; rw [← E2.out] at hB; obtain ⟨A6, c6, rfl, hr6, hc6, hm6⟩ := hB)
      have hg := getInts_any A6 c6 P2 w4 hr6 hc6 hm6 (by omega)
      rw [G2.out] at hg
      refine hg.mono ?_
      rintro e w5 ⟨v5, rfl, ho, hb5⟩
      obtain ⟨A7, c7, rfl, hr7, hc7, hm7⟩ := own_rd (B := 0) ho
      have Bg := (Bf.trans (hb2.mono Bf.size)).trans (hb5.mono (Bf.trans (hb2.mono Bf.size)).size)
      have R6 := Lib.hid (((R5.out.step hb2).step hb5).add hr7)
      clear hg hr6 hc6 hm6 hb2 hb5 hsl hfull ht Bf R5 ho hr7
      -- the digests
      have hsl := cut_hm w5 B3 L3.length c3 L3.length L3.length L3.length L3.length rfl rfl (Nat.le_refl _) k3
      have hfull := RdB.full (c := c3) (R6.out.get B3 (L3.map bv) (by simp))
      obtain ⟨A5, hA5⟩ : ∃ A, A = cutA B3 0 L3.length := ⟨_, rfl⟩
      rw [← hA5] at hsl hfull
      have ht := Lib.hid ((H4.out.below Bg).more Bg.size)
      clear hA5
      go_wp2_with (at_builtin; refine wpList_append_full _ rfl (.tmp 85) (.tmp 86) rfl A5 A4 L3 t cap4 rfl rfl hfull ht.out (by omega) (by omega) ?_; intro v w6 hB hb2; rw [← E3.out] at hB; obtain ⟨A6, c6, rfl, hr6, hc6, hm6⟩ := hB)
      have hg := getDigests_any A6 c6 P3 w6 hr6 hc6 hm6 (by omega)
      rw [G3.out] at hg
      refine hg.mono ?_
      rintro e w7 ⟨v7, rfl, ho, hb7⟩
      obtain ⟨A8, c8, rfl, hr8, hc8, hm8⟩ := own_rd (B := 0) ho
      have Bh := (Bg.trans (hb2.mono Bg.size)).trans (hb7.mono (Bg.trans (hb2.mono Bg.size)).size)
      have R7 := Lib.hid (((R6.out.step hb2).step hb7).add hr8)
      clear hg hr6 hc6 hm6 hb2 hb7 hsl hfull ht Bg R6 ho hr8
      -- the strings
      have hsl := cut_hm w7 B4 L4.length c4 L4.length L4.length L4.length L4.length rfl rfl (Nat.le_refl _) k4
      have hfull := RdB.full (c := c4) (R7.out.get B4 (L4.map bv) (by simp))
      obtain ⟨A5, hA5⟩ : ∃ A, A = cutA B4 0 L4.length := ⟨_, rfl⟩
      rw [← hA5] at hsl hfull
      have ht := Lib.hid ((H4.out.below Bh).more Bh.size)
      clear hA5
      go_wp2_with (at_builtin; refine wpList_append_full _ rfl (.tmp 98) (.tmp 99) rfl A5 A4 L4 t cap4 rfl rfl hfull ht.out (by omega) (by omega) ?_; intro v w8 hB hb2; rw [← E4.out] at hB; obtain ⟨A6, c6, rfl, hr6, hc6, hm6⟩ := hB)
      have hg := getStrings_any A6 c6 P4 w8 hr6 hc6 hm6 (by omega)
      rw [G4.out] at hg
      refine hg.mono ?_
      rintro e w9 ⟨v9, rfl, ho, hb9⟩
      obtain ⟨A9, c9, rfl, hr9, hc9, hm9⟩ := own_rd (B := 0) ho
      have Bi := (Bh.trans (hb2.mono Bh.size)).trans (hb9.mono (Bh.trans (hb2.mono Bh.size)).size)
      have R8 := Lib.hid (((R7.out.step hb2).step hb9).add hr9)
      clear hg hr6 hc6 hm6 hb2 hb9 hsl hfull ht Bh R7 ho hr9
      -- what is asked of them
      go_wp2_with fail
      refine (sanity_any _).mono ?_
      rintro e u1 ⟨rfl, bj⟩
      have Bj := Bi.trans (bj.mono Bi.size)
      have R9 := Lib.hid (R8.out.step bj)
      clear bj Bi R8
      have hq := sameTexts_any A9 A2 c9 cap2 x x u1 (R9.out.get A9 (x.map sv) (by simp)) ((H2.out.below Bj).more Bj.size) (by unfold maxLen; omega) (by unfold maxLen; omega)
      rw [decide_eq_true rfl] at hq
      have Hq := Lib.hid hq
      clear hq
      go_wp2_with fail
      refine Hq.out.mono ?_
      rintro e u2 ⟨rfl, bk⟩
      have Bk := Bj.trans (bk.mono Bj.size)
      have R10 := Lib.hid (R9.out.step bk)
      clear bk Bj R9 Hq
      have hq := sameInts_any A7 A1 c7 cap1 l l u2 (R10.out.get A7 (l.map iv) (by simp)) ((H1.out.below Bk).more Bk.size) (by unfold maxLen; omega) (by unfold maxLen; omega)
      rw [decide_eq_true rfl] at hq
      have Hq := Lib.hid hq
      clear hq
      go_wp2_with fail
      refine Hq.out.mono ?_
      rintro e u3 ⟨rfl, bl⟩
      have Bl := Bk.trans (bl.mono Bk.size)
      have R11 := Lib.hid (R10.out.step bl)
      clear bl Bk R10 Hq
      have hq := sameDigests_any A8 A3 c8 cap3 LD.length n LD.flatten D u3 (R11.out.get A8 (dcells LD) (by simp)) ((H3.out.below Bl).more Bl.size) (by rw [F3.out, N3.out]; exact HD.out) HD.out (by have := N3.out; unfold maxLen; omega) (by unfold maxLen; omega)
      rw [decide_eq_true F3.out] at hq
      have Hq := Lib.hid hq
      clear hq
      go_wp2_with fail
      refine Hq.out.mono ?_
      rintro e u4 ⟨rfl, bm⟩
      go_wp2_with fail
      go_ret
      exact ⟨rfl, Bl.trans (bm.mono Bl.size)⟩
end Go.Proofs.Ytacgekhphhhmpaa
