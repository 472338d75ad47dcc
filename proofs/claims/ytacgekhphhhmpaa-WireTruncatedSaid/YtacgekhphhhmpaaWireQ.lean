/- The walk of the statement WireTruncated. -/
import Derived.Test.YtacgekhphhhmpaaWireR
namespace Go.Proofs.Ytacgekhphhhmpaa
open Go.RowKit
set_option linter.unusedVariables false

set_option maxHeartbeats 4000000 in
set_option maxRecDepth 100000 in
theorem truncated_walk (n : Int) (s : ByteArray) (A2 : Option Addr) (len2 cap2 : Nat) (zs : List Int) (A3 : Option Addr) (len3 cap3 : Nat) (ss : List ByteArray) (A4 : Option Addr) (len4 cap4 : Nat) (D : List UInt8) (w : World)
    (hn : (Lit.int .i64 n).wf = true) (hs : s.size ≤ 140737488351232) (hrow2 : IsRow .i64 w A2 len2 cap2 zs) (hb2 : cap2 ≤ 140737488351232)
    (hrow3 : IsStrs w A3 len3 cap3 ss) (hsz3 : ∀ s ∈ ss, s.size ≤ 140737488351232)
    (hD : D.length = 16 * len4) (hr4 : RdB w w.heap.size A4 D) (hc4 : len4 ≤ cap4) (hm4 : cap4 ≤ maxLen) (hb4 : cap4 * 16 ≤ 140737488351232) :
    Calls Try.prog 9 #[.int .i64 n, .string s, .slice A2 len2 cap2, .slice A3 len3 cap3, .slice A4 len4 cap4] w (Tells true w) := by
  obtain ⟨l, rfl, hr2, hc2, hm2, hI⟩ := row_ints hrow2
  obtain ⟨x, rfl, hr3, hc3, hm3, hx⟩ := row_strs hrow3
  have hsz : ∀ s ∈ x, s.size ≤ 140737488351232 := fun s hs => hsz3 s (by rw [hx] at hs; exact List.mem_of_mem_take hs)
  have hnI := int_I64 hn
  clear hrow2 hrow3 hsz3 hx hn
  unfold maxLen at hm2 hm3 hm4
  by_cases hbig : 400 < s.size + 9 * l.length + 16 * len4
  · have hbig' : (400 : Int) < (s.size : Int) + 9 * (l.length : Int) + 16 * (len4 : Int) := by omega
    clear hr2 hr3 hr4 hI hD hsz
    go_enter Try.func9, Try.ntmps9
    go_wp2_with fail
    refine (sanity_any _).mono ?_
    rintro e w1 ⟨rfl, hb⟩
    go_wp2_with fail
    go_ret
    exact ⟨rfl, hb⟩
  · have hbig' : (s.size : Int) + 9 * (l.length : Int) + 16 * (len4 : Int) ≤ 400 := by omega
    by_cases hxl : 40 < x.length
    · have hxl' : (40 : Int) < x.length := by omega
      clear hr2 hr3 hr4 hI hD hsz
      go_enter Try.func9, Try.ntmps9
      go_wp2_with fail
      refine (sanity_any _).mono ?_
      rintro e w1 ⟨rfl, hb⟩
      go_wp2_with fail
      go_ret
      exact ⟨rfl, hb⟩
    · have hxl' : (x.length : Int) ≤ 40 := by omega
      have hsum := sum_le _ x hsz
      have hfew := few_any A3 cap3 x w hr3 hc3 (by unfold maxLen; omega) (by
        have : x.length * 140737488351232 ≤ 40 * 140737488351232 := Nat.mul_le_mul_right _ (by omega)
        omega)
      by_cases hmany : 2000 < x.length + sum x
      · have hd : decide (x.length + sum x ≤ 2000) = false := by simp; omega
        rw [hd] at hfew
        have Hfew := Lib.hid hfew
        clear hr2 hr3 hr4 hI hD hsz hsum hfew hd
        go_enter Try.func9, Try.ntmps9
        go_wp2_with fail
        refine Hfew.out.mono ?_
        rintro e w1 ⟨rfl, hb1⟩
        go_wp2_with fail
        refine (sanity_any _).mono ?_
        rintro e w2 ⟨rfl, hb⟩
        go_wp2_with fail
        go_ret
        exact ⟨rfl, hb1.trans (hb.mono hb1.size)⟩
      · have hd : decide (x.length + sum x ≤ 2000) = true := by simp; omega
        rw [hd] at hfew
        have hszs : ∀ s ∈ x, s.size ≤ 2000 := fun s hs => by have := sum_mem x s hs; omega
        have hflat := encS_flat x (fun s hs => by have := hszs s hs; omega)
        -- the five encodings
        obtain ⟨L0, h0⟩ : ∃ L, L = M.encI n := ⟨_, rfl⟩
        obtain ⟨L1, h1⟩ : ∃ L, L = M.encB (sb s) := ⟨_, rfl⟩
        obtain ⟨L2, h2⟩ : ∃ L, L = M.encL M.encI l := ⟨_, rfl⟩
        obtain ⟨L3, h3⟩ : ∃ L, L = M.encL encS x := ⟨_, rfl⟩
        obtain ⟨L4, h4⟩ : ∃ L, L = encD len4 D := ⟨_, rfl⟩
        have z0 : L0.length ≤ 9 := by rw [h0]; exact M.encI_len_le n hnI
        have z1 : L1.length ≤ 3000 := by
          rw [h1]; unfold M.encB; rw [List.length_append, sb_len]
          have := M.encI_len_le s.size (M.I64_nat s.size (by omega)); omega
        have z2 : L2.length ≤ 20000 := by
          rw [h2]; unfold M.encL; rw [List.length_append]
          have q1 := M.encI_len_le l.length (M.I64_nat l.length (by omega))
          have q2 := M.flat_ints l hI; omega
        have z3 : L3.length ≤ 20000 := by
          rw [h3]; unfold M.encL; rw [List.length_append]
          have q1 := M.encI_len_le x.length (M.I64_nat x.length (by omega)); omega
        have z4 : L4.length ≤ 20000 := by
          rw [h4]; unfold encD; rw [List.length_append]
          have q1 := M.encI_len_le len4 (M.I64_nat len4 (by omega)); omega
        have m0 := moreInt n L0 hnI h0.symm
        have m1 := moreBytes (sb s) L1 (by rw [sb_len]; omega) h1.symm
        have m2 := moreInts l L2 (by omega) hI h2.symm (by omega)
        have m3 := moreStrings x L3 (by omega) (fun s hs => by have := hszs s hs; omega) h3.symm (by omega)
        have m4 := moreDigests len4 D L4 (by omega) hD h4.symm (by omega)
        have q0 : ∀ W, Calls Try.prog 14 #[.int .i64 n] W (Gives L0 W) := fun W => (int_any n W hnI).mono fun e w' h => by rw [h0]; exact makes_gives h
        have q1 : ∀ W, Calls Try.prog 16 #[.string s] W (Gives L1 W) := fun W => (bytes_any s W (by omega)).mono fun e w' h => by rw [h1]; exact makes_gives h
        have q2 : ∀ W, Rd W W.heap.size A2 (l.map iv) → Calls Try.prog 18 #[.slice A2 l.length cap2] W (Gives L2 W) := fun W hr => (ints_any A2 cap2 l W hr hc2 hm2 (by omega) hI).mono fun e w' h => by rw [h2]; exact makes_gives h
        have q3 : ∀ W, Rd W W.heap.size A3 (x.map sv) → Calls Try.prog 20 #[.slice A3 x.length cap3] W (Gives L3 W) := fun W hr => (strings_any A3 cap3 x W hr hc3 hm3 (by omega) (by omega)).mono fun e w' h => by rw [h3]; exact makes_gives h
        have q4 : ∀ W, RdB W W.heap.size A4 D → Calls Try.prog 22 #[.slice A4 len4 cap4] W (Gives L4 W) := fun W hr => (digests_any A4 cap4 len4 D W hr hc4 hm4 hD (by omega)).mono fun e w' h => by rw [h4]; exact makes_gives h
        have Hfew := Lib.hid hfew
        have H2 := Lib.hid hr2
        have H3 := Lib.hid hr3
        have H4 := Lib.hid hr4
        have M0 := Lib.hid m0
        have M1 := Lib.hid m1
        have M2 := Lib.hid m2
        have M3 := Lib.hid m3
        have M4 := Lib.hid m4
        have Q0 := Lib.hid q0
        have Q1 := Lib.hid q1
        have Q2 := Lib.hid q2
        have Q3 := Lib.hid q3
        have Q4 := Lib.hid q4
        clear hr2 hr3 hr4 hI hD hsz hsum hfew hd hszs hflat h0 h1 h2 h3 h4 m0 m1 m2 m3 m4 q0 q1 q2 q3 q4
        go_enter Try.func9, Try.ntmps9
        go_wp2_with fail
        refine Hfew.out.mono ?_
        rintro e wa ⟨rfl, hba⟩
        go_wp2_with fail
        refine (Q0.out _).mono ?_
        rintro e wb ⟨B0, c0, rfl, r0, k0, n0, bb⟩
        have Bb := hba.trans (bb.mono hba.size)
        go_wp2_with fail
        refine (Q1.out _).mono ?_
        rintro e wc ⟨B1, c1, rfl, r1, k1, n1, bc⟩
        have Bc := Bb.trans (bc.mono Bb.size)
        go_wp2_with fail
        refine (Q2.out _ ((H2.out.below Bc).more Bc.size)).mono ?_
        rintro e wd ⟨B2, c2, rfl, r2, k2, n2, bd⟩
        have Bd := Bc.trans (bd.mono Bc.size)
        go_wp2_with fail
        refine (Q3.out _ ((H3.out.below Bd).more Bd.size)).mono ?_
        rintro e we ⟨B3, c3, rfl, r3, k3, n3, be⟩
        have Be := Bd.trans (be.mono Bd.size)
        go_wp2_with fail
        refine (Q4.out _ ((H4.out.below Be).more Be.size)).mono ?_
        rintro e wf ⟨B4, c4, rfl, r4, k4, n4, bf⟩
        have Bf := Be.trans (bf.mono Be.size)
        have R3 := Lib.hid ((r3.below bf).more bf.size)
        have R2 := Lib.hid ((((r2.below be).more be.size).below bf).more bf.size)
        have R1 := Lib.hid ((((((r1.below bd).more bd.size).below be).more be.size).below bf).more bf.size)
        have R0 := Lib.hid ((((((((r0.below bc).more bc.size).below bd).more bd.size).below be).more be.size).below bf).more bf.size)
        have R4 := Lib.hid r4
        clear r0 r1 r2 r3 r4 bb bc bd be bf Bb Bc Bd Be hba
        go_wp2_with fail
        obtain ⟨W6, hW6⟩ : ∃ W, W = wf.alloc (.cells #[.slice B0 L0.length c0, .slice B1 L1.length c1, .slice B2 L2.length c2, .slice B3 L3.length c3, .slice B4 L4.length c4] 28) := ⟨_, rfl⟩
        rw [← hW6]
        have b6 : Below wf.heap.size wf W6 := by rw [hW6]; exact (Below.refl _ _).alloc (Nat.le_refl _) _
        have s6 : wf.heap.size < W6.heap.size := by rw [hW6]; simp
        have B6 := Lib.hid (Bf.trans (b6.mono Bf.size))
        have hnew := heap_alloc_new wf (.cells #[.slice B0 L0.length c0, .slice B1 L1.length c1, .slice B2 L2.length c2, .slice B3 L3.length c3, .slice B4 L4.length c4] 28)
        rw [← hW6] at hnew
        have C0 := Lib.hid (show W6.cell? ⟨wf.heap.size, 0, none⟩ = some (.slice B0 L0.length c0) from by rw [cell_of_row _ _ _ _ _ _ hnew]; rfl)
        have D0 := Lib.hid ((R0.out.below b6).more b6.size)
        obtain ⟨K0, e0, g0⟩ : ∃ K : Nat, min (L0.length : Int) 500 = K ∧ K ≤ L0.length := ⟨min L0.length 500, by omega, by omega⟩
        have E0 := Lib.hid e0
        have C1 := Lib.hid (show W6.cell? ⟨wf.heap.size, 1, none⟩ = some (.slice B1 L1.length c1) from by rw [cell_of_row _ _ _ _ _ _ hnew]; rfl)
        have D1 := Lib.hid ((R1.out.below b6).more b6.size)
        obtain ⟨K1, e1, g1⟩ : ∃ K : Nat, min (L1.length : Int) 500 = K ∧ K ≤ L1.length := ⟨min L1.length 500, by omega, by omega⟩
        have E1 := Lib.hid e1
        have C2 := Lib.hid (show W6.cell? ⟨wf.heap.size, 2, none⟩ = some (.slice B2 L2.length c2) from by rw [cell_of_row _ _ _ _ _ _ hnew]; rfl)
        have D2 := Lib.hid ((R2.out.below b6).more b6.size)
        obtain ⟨K2, e2, g2⟩ : ∃ K : Nat, min (L2.length : Int) 500 = K ∧ K ≤ L2.length := ⟨min L2.length 500, by omega, by omega⟩
        have E2 := Lib.hid e2
        have C3 := Lib.hid (show W6.cell? ⟨wf.heap.size, 3, none⟩ = some (.slice B3 L3.length c3) from by rw [cell_of_row _ _ _ _ _ _ hnew]; rfl)
        have D3 := Lib.hid ((R3.out.below b6).more b6.size)
        obtain ⟨K3, e3, g3⟩ : ∃ K : Nat, min (L3.length : Int) 500 = K ∧ K ≤ L3.length := ⟨min L3.length 500, by omega, by omega⟩
        have E3 := Lib.hid e3
        have C4 := Lib.hid (show W6.cell? ⟨wf.heap.size, 4, none⟩ = some (.slice B4 L4.length c4) from by rw [cell_of_row _ _ _ _ _ _ hnew]; rfl)
        have D4 := Lib.hid ((R4.out.below b6).more b6.size)
        obtain ⟨K4, e4, g4⟩ : ∃ K : Nat, min (L4.length : Int) 500 = K ∧ K ≤ L4.length := ⟨min L4.length 500, by omega, by omega⟩
        have E4 := Lib.hid e4
        clear hnew R0 R1 R2 R3 R4 b6 Bf hW6 e0 e1 e2 e3 e4
        go_loopw [49] (fun i wr => ∃ k : Nat, k ≤ 5 ∧ i = .int .i64 k ∧ Below W6.heap.size W6 wr) (fun i _ => 5 - (intOf i).toNat)
        case atStart => exact ⟨0, by omega, rfl, Below.refl _ _⟩
        case round =>
          obtain ⟨k, hk, hi, hbel⟩ := hrel
          obtain rfl | rfl | rfl | rfl | rfl | rfl : k = 0 ∨ k = 1 ∨ k = 2 ∨ k = 3 ∨ k = 4 ∨ k = 5 := by omega
          · have hi' : u49 = Value.int .i64 0 := hi
            clear hi
            subst hi'
            have hcell : wr.cell? ⟨wf.heap.size, 0, none⟩ = some (.slice B0 L0.length c0) := (hbel.cell s6).trans C0.out
            obtain ⟨wo, rfl⟩ : ∃ wo : World, wo = wr := ⟨_, rfl⟩
            have eK := E0.out
            go_wp2_with fail
            clear eK
            go_loopw [57] (fun i wr => ∃ j : Nat, j ≤ K0 ∧ i = .int .i64 j ∧ Below W6.heap.size W6 wr) (fun i _ => K0 - (intOf i).toNat)
            case atStart => exact ⟨0, by omega, rfl, hbel⟩
            case round =>
              obtain ⟨j, hj, rfl, hbe2⟩ := hrel
              by_cases hlt : j < K0
              · have i1 : (j : Int) < K0 := by omega
                have hsl := cut_h wr B0 L0.length c0 j j rfl (by omega)
                go_wp2_with fail
                refine (M0.out _ _ _ _ ((D0.out.below hbe2).more hbe2.size) k0 n0 (by omega)).mono ?_
                rintro e w2 ⟨v, u, rfl, hb3⟩
                go_wp2_with fail
                go_roundw
                case rel => exact ⟨j + 1, by omega, by go_num, hbe2.trans (hb3.mono hbe2.size)⟩
                case measure => simp [intOf]; omega
              · obtain rfl : j = K0 := by omega
                go_wp2_with fail
                go_roundw
                case rel => exact ⟨1, by omega, by go_num, hbe2⟩
                case measure => simp [intOf]
          · have hi' : u49 = Value.int .i64 1 := hi
            clear hi
            subst hi'
            have hcell : wr.cell? ⟨wf.heap.size, 1, none⟩ = some (.slice B1 L1.length c1) := (hbel.cell s6).trans C1.out
            obtain ⟨wo, rfl⟩ : ∃ wo : World, wo = wr := ⟨_, rfl⟩
            have eK := E1.out
            go_wp2_with fail
            clear eK
            go_loopw [57] (fun i wr => ∃ j : Nat, j ≤ K1 ∧ i = .int .i64 j ∧ Below W6.heap.size W6 wr) (fun i _ => K1 - (intOf i).toNat)
            case atStart => exact ⟨0, by omega, rfl, hbel⟩
            case round =>
              obtain ⟨j, hj, rfl, hbe2⟩ := hrel
              by_cases hlt : j < K1
              · have i1 : (j : Int) < K1 := by omega
                have hsl := cut_h wr B1 L1.length c1 j j rfl (by omega)
                go_wp2_with fail
                refine (M1.out _ _ _ _ ((D1.out.below hbe2).more hbe2.size) k1 n1 (by omega)).mono ?_
                rintro e w2 ⟨v, u, rfl, hb3⟩
                go_wp2_with fail
                go_roundw
                case rel => exact ⟨j + 1, by omega, by go_num, hbe2.trans (hb3.mono hbe2.size)⟩
                case measure => simp [intOf]; omega
              · obtain rfl : j = K1 := by omega
                go_wp2_with fail
                go_roundw
                case rel => exact ⟨2, by omega, by go_num, hbe2⟩
                case measure => simp [intOf]
          · have hi' : u49 = Value.int .i64 2 := hi
            clear hi
            subst hi'
            have hcell : wr.cell? ⟨wf.heap.size, 2, none⟩ = some (.slice B2 L2.length c2) := (hbel.cell s6).trans C2.out
            obtain ⟨wo, rfl⟩ : ∃ wo : World, wo = wr := ⟨_, rfl⟩
            have eK := E2.out
            go_wp2_with fail
            clear eK
            go_loopw [57] (fun i wr => ∃ j : Nat, j ≤ K2 ∧ i = .int .i64 j ∧ Below W6.heap.size W6 wr) (fun i _ => K2 - (intOf i).toNat)
            case atStart => exact ⟨0, by omega, rfl, hbel⟩
            case round =>
              obtain ⟨j, hj, rfl, hbe2⟩ := hrel
              by_cases hlt : j < K2
              · have i1 : (j : Int) < K2 := by omega
                have hsl := cut_h wr B2 L2.length c2 j j rfl (by omega)
                go_wp2_with fail
                refine (M2.out _ _ _ _ ((D2.out.below hbe2).more hbe2.size) k2 n2 (by omega)).mono ?_
                rintro e w2 ⟨v, u, rfl, hb3⟩
                go_wp2_with fail
                go_roundw
                case rel => exact ⟨j + 1, by omega, by go_num, hbe2.trans (hb3.mono hbe2.size)⟩
                case measure => simp [intOf]; omega
              · obtain rfl : j = K2 := by omega
                go_wp2_with fail
                go_roundw
                case rel => exact ⟨3, by omega, by go_num, hbe2⟩
                case measure => simp [intOf]
          · have hi' : u49 = Value.int .i64 3 := hi
            clear hi
            subst hi'
            have hcell : wr.cell? ⟨wf.heap.size, 3, none⟩ = some (.slice B3 L3.length c3) := (hbel.cell s6).trans C3.out
            obtain ⟨wo, rfl⟩ : ∃ wo : World, wo = wr := ⟨_, rfl⟩
            have eK := E3.out
            go_wp2_with fail
            clear eK
            go_loopw [57] (fun i wr => ∃ j : Nat, j ≤ K3 ∧ i = .int .i64 j ∧ Below W6.heap.size W6 wr) (fun i _ => K3 - (intOf i).toNat)
            case atStart => exact ⟨0, by omega, rfl, hbel⟩
            case round =>
              obtain ⟨j, hj, rfl, hbe2⟩ := hrel
              by_cases hlt : j < K3
              · have i1 : (j : Int) < K3 := by omega
                have hsl := cut_h wr B3 L3.length c3 j j rfl (by omega)
                go_wp2_with fail
                refine (M3.out _ _ _ _ ((D3.out.below hbe2).more hbe2.size) k3 n3 (by omega)).mono ?_
                rintro e w2 ⟨v, u, rfl, hb3⟩
                go_wp2_with fail
                go_roundw
                case rel => exact ⟨j + 1, by omega, by go_num, hbe2.trans (hb3.mono hbe2.size)⟩
                case measure => simp [intOf]; omega
              · obtain rfl : j = K3 := by omega
                go_wp2_with fail
                go_roundw
                case rel => exact ⟨4, by omega, by go_num, hbe2⟩
                case measure => simp [intOf]
          · have hi' : u49 = Value.int .i64 4 := hi
            clear hi
            subst hi'
            have hcell : wr.cell? ⟨wf.heap.size, 4, none⟩ = some (.slice B4 L4.length c4) := (hbel.cell s6).trans C4.out
            obtain ⟨wo, rfl⟩ : ∃ wo : World, wo = wr := ⟨_, rfl⟩
            have eK := E4.out
            go_wp2_with fail
            clear eK
            go_loopw [57] (fun i wr => ∃ j : Nat, j ≤ K4 ∧ i = .int .i64 j ∧ Below W6.heap.size W6 wr) (fun i _ => K4 - (intOf i).toNat)
            case atStart => exact ⟨0, by omega, rfl, hbel⟩
            case round =>
              obtain ⟨j, hj, rfl, hbe2⟩ := hrel
              by_cases hlt : j < K4
              · have i1 : (j : Int) < K4 := by omega
                have hsl := cut_h wr B4 L4.length c4 j j rfl (by omega)
                go_wp2_with fail
                refine (M4.out _ _ _ _ ((D4.out.below hbe2).more hbe2.size) k4 n4 (by omega)).mono ?_
                rintro e w2 ⟨v, u, rfl, hb3⟩
                go_wp2_with fail
                go_roundw
                case rel => exact ⟨j + 1, by omega, by go_num, hbe2.trans (hb3.mono hbe2.size)⟩
                case measure => simp [intOf]; omega
              · obtain rfl : j = K4 := by omega
                go_wp2_with fail
                go_roundw
                case rel => exact ⟨5, by omega, by go_num, hbe2⟩
                case measure => simp [intOf]
          · have hi' : u49 = Value.int .i64 5 := hi
            clear hi
            subst hi'
            go_wp2_with fail
            refine (sanity_any _).mono ?_
            rintro e w2 ⟨rfl, hb3⟩
            go_wp2_with fail
            go_ret
            have b := B6.out.trans (hbel.mono B6.out.size)
            exact ⟨rfl, b.trans (hb3.mono b.size)⟩
end Go.Proofs.Ytacgekhphhhmpaa
