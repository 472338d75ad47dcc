/- The walk of the statement CalendarLocal. -/
import Derived.Test.YtkenfgifhebnpaaDoorCalL1
import Derived.Test.YtkenfgifhebnpaaDoorCalRl
import Derived.Test.YtkenfgifhebnpaaDoorCalRm
import Derived.Test.YtkenfgifhebnpaaDoorTail
import Derived.Test.YtkenfgifhebnpaaDoorFacts
import Derived.Test.YtkenfgifhebnpaaDoorWireK1
namespace Go.Proofs.YtkenfgifhebnpaaDoor
open Go.RowKit
set_option linter.unusedVariables false
set_option maxRecDepth 100000

theorem load_czone (w : World) (b off : Nat) (o s f t : Int) (h0 : w.cell? ⟨b, off, none⟩ = some (.int .i64 o)) (h1 : w.cell? ⟨b, off + 1, none⟩ = some (.int .i64 s)) (h2 : w.cell? ⟨b, off + 2, none⟩ = some (.int .i64 f)) (h3 : w.cell? ⟨b, off + 3, none⟩ = some (.int .i64 t)) :
    (Instr.loadAt 39 (.pointer (some ⟨b, off, none⟩))).run Tryd.prog w = .ok (.agg #[.int .i64 o, .int .i64 s, .int .i64 f, .int .i64 t]) w := by
  go_simp
theorem index_zone (w : World) (b n cap k : Nat) (hk : k < n) : (Instr.indexAt 43 (.slice (some ⟨b, 0, none⟩) n cap) (.int .i64 (k : Int))).run Tryd.prog w = .ok (.pointer (some ⟨b, k * 4, none⟩)) w := by
  have h1 : (k : Int) < n := by omega
  have h2 : (0 : Int) ≤ k := by omega
  go_simp

theorem run_indexAt_ints (b n cap k : Nat) (hk : k < n) (w : World) : (Instr.indexAt 23 (.slice (some ⟨b, 0, none⟩) n cap) (.int .i64 (k : Int))).run Tryd.prog w = .ok (.pointer (some ⟨b, k, none⟩)) w := by
  have h1 : (k : Int) < n := by omega
  have h2 : (0 : Int) ≤ k := by omega
  go_simp
/-- A row and an error; a row. -/
def Fact.rowE (l : List Int) (y : Int) : Fact :=
  ⟨fun v w => ∃ A c, v = .tuple #[.slice A l.length c, .int .i64 y] ∧ Rd w w.heap.size A (l.map iv) ∧ l.length ≤ c, fun _ _ _ ⟨A, c, h1, h2, h3⟩ hb => ⟨A, c, h1, (h2.below hb).more hb.size, h3⟩⟩
def Fact.rowI (l : List Int) : Fact :=
  ⟨fun v w => ∃ A c, v = .slice A l.length c ∧ Rd w w.heap.size A (l.map iv) ∧ l.length ≤ c, fun _ _ _ ⟨A, c, h1, h2, h3⟩ hb => ⟨A, c, h1, (h2.below hb).more hb.size, h3⟩⟩
theorem momL_len (d u o s f t : Int) : (momL d u o s f t).length ≤ 121 := by
  unfold momL
  split
  · exact momUp_len _ _ _ _ _ _ _
  · simp

set_option maxHeartbeats 8000000 in
theorem calLocal_walk (n minute moment o s f t : Int) (A : Option Addr) (cap : Nat) (l : List Int) (w : World) (hn : M.I64 n) (hmi : M.I64 minute) (hmo : M.I64 moment) (ho : M.I64 o) (hs : M.I64 s) (hf : M.I64 f) (ht : M.I64 t)
    (hr : Rd w w.heap.size A (l.map iv)) (hI : ∀ n ∈ l, M.I64 n) (hl : l.length ≤ 9223372036854775807) (hD : CDoor w) :
    Calls Tryd.prog 5 #[.int .i64 n, .slice A l.length cap, .agg #[.int .i64 o, .int .i64 s, .int .i64 f, .int .i64 t], .int .i64 minute, .int .i64 moment] w (Tells true w) := by
  have HD := Lib.hid hD
  clear hD
  have cS := fun W => some_any n W hn
  have hS := someD_known n
  obtain ⟨day, hday⟩ : ∃ x, x = someD n := ⟨_, rfl⟩
  simp only [← hday] at cS hS
  have hS1 : -146097 ≤ day := hS.1
  have hS2 : day ≤ 146096 := hS.2
  have cZ := fun W (hb : Below w.heap.size w W) => zones_any A cap l W ((hr.below hb).more hb.size) hI hl
  have hp := zone_proper l
  obtain ⟨zo, hzo⟩ : ∃ x, x = zO l := ⟨_, rfl⟩
  obtain ⟨zs, hzs⟩ : ∃ x, x = zS l := ⟨_, rfl⟩
  obtain ⟨zf, hzf⟩ : ∃ x, x = zF l := ⟨_, rfl⟩
  obtain ⟨zt, hzt⟩ : ∃ x, x = zT l := ⟨_, rfl⟩
  simp only [← hzo, ← hzs, ← hzf, ← hzt] at cZ hp
  obtain ⟨N, hN⟩ : ∃ N, N = l.length := ⟨_, rfl⟩
  simp only [← hN] at cZ
  rw [← hN]
  have cA := fun W => around_any minute 1440 W hmi (small64 _ (by decide) (by decide))
  have lA := around_lt minute 1440 (by decide)
  have cB := fun W => around_any minute 20 W hmi (small64 _ (by decide) (by decide))
  have lB := around_lt minute 20 (by decide)
  obtain ⟨wa, hwa⟩ : ∃ x, x = around minute 1440 := ⟨_, rfl⟩
  obtain ⟨wb, hwb⟩ : ∃ x, x = around minute 20 := ⟨_, rfl⟩
  simp only [← hwa] at cA lA
  simp only [← hwb] at cB lB
  obtain ⟨lA1, lA2⟩ := lA
  obtain ⟨lB1, lB2⟩ := lB
  obtain ⟨W0, hW0⟩ : ∃ W0, W0 = w.alloc (.cells #[.int .i64 o, .int .i64 s, .int .i64 f, .int .i64 t] 39) := ⟨_, rfl⟩
  have hz0 : Blk W0 w.heap.size [.int .i64 o, .int .i64 s, .int .i64 f, .int .i64 t] 39 := by rw [hW0]; exact Blk.new w _ _
  have hb0 : Below w.heap.size w W0 := by rw [hW0]; exact (Below.refl _ _).alloc (Nat.le_refl _) _
  have hprop : M.I64 zo ∧ M.I64 zs ∧ M.I64 zf ∧ M.I64 zt := by
    unfold proper at hp
    unfold M.I64
    omega
  have CS := Lib.hid cS
  have CZ := Lib.hid cZ
  have CA := Lib.hid cA
  have CB := Lib.hid cB
  have HI := Lib.hid (And.intro hprop (And.intro (And.intro ho (And.intro hs (And.intro hf ht))) (And.intro hmo hmi)))
  have K0 := Lib.hid (And.intro hz0 hb0)
  have HW := Lib.hid hW0
  clear cS cZ cA cB hprop hp hday hS hzo hzs hzf hzt hN hwa hwb hz0 hb0 hW0 hn hmi hmo ho hs hf ht hr hI hl
  go_enter Tryd.func5, Tryd.ntmps5
  go_wp2_with fail
  rw [← HW.out]
  refine (CS.out _).mono ?_
  rintro e w1 ⟨rfl, hb1⟩
  have K1 := Lib.hid (And.intro (K0.out.1.below hb1 K0.out.1.lt) (K0.out.2.trans (hb1.mono K0.out.2.size)))
  clear hb1 K0
  go_wp2_with fail
  refine (CA.out _).mono ?_
  rintro e w' ⟨rfl, rfl⟩
  go_wp2_with fail
  have q0 : ∀ q : BelS w'.heap.size w', q.at.cell? ⟨w.heap.size, 0, none⟩ = some (.int .i64 o) := fun q => (K1.out.1.below q.out K1.out.1.lt).cell 0 _ rfl
  have q1 : ∀ q : BelS w'.heap.size w', q.at.cell? ⟨w.heap.size, 1, none⟩ = some (.int .i64 s) := fun q => (K1.out.1.below q.out K1.out.1.lt).cell 1 _ rfl
  have q2 : ∀ q : BelS w'.heap.size w', q.at.cell? ⟨w.heap.size, 2, none⟩ = some (.int .i64 f) := fun q => (K1.out.1.below q.out K1.out.1.lt).cell 2 _ rfl
  have q3 : ∀ q : BelS w'.heap.size w', q.at.cell? ⟨w.heap.size, 3, none⟩ = some (.int .i64 t) := fun q => (K1.out.1.below q.out K1.out.1.lt).cell 3 _ rfl
  have cO := fun W => own_any zo zs zf zt W
  have CO := Lib.hid cO
  clear cO
  refine wp_region_headB 4 w'.heap.size (by kernel_rfl) (by kernel_rfl) ?_
  dsimp only [List.take, List.drop]
  repeat (go_big_quiet_step (first
    | exact (CZ.out _ (K1.out.2.trans ((BelS.out _).mono K1.out.2.size))).mono fun e w' h => ⟨h.1, BelS.of ((BelS.out _).trans (h.2.mono (BelS.out _).size))⟩
    | exact (CO.out _).mono fun e w' h => ⟨h.1, BelS.of ((BelS.out _).trans (h.2.mono (BelS.out _).size))⟩))
  refine wpQuiet_nil ?_
  intro w2' hw'
  obtain ⟨q, rfl⟩ := hw'
  have B2 := Lib.hid (K1.out.2.trans (q.out.mono K1.out.2.size))
  obtain ⟨w2, hw2⟩ : ∃ w2, w2 = q.at := ⟨_, rfl⟩
  rw [← hw2] at B2 ⊢
  clear q0 q1 q2 q3 CO CZ hw2 K1
  go_wp2_with fail
  refine (CB.out _).mono ?_
  rintro e w3 ⟨rfl, rfl⟩
  clear CB CA CS
  go_wp2_with fail
  obtain ⟨W2, hW2⟩ : ∃ W2, W2 = (w2.alloc (.cells #[.int .i64 zo, .int .i64 zs, .int .i64 zf, .int .i64 zt, .int .i64 o, .int .i64 s, .int .i64 f, .int .i64 t] 39)).alloc (.cells #[.int .i64 (1440 * day + wa), .int .i64 moment, .int .i64 (1440 * day - 900 + wb)] 3) := ⟨_, rfl⟩
  have k0 := (Blk.new w2 [.int .i64 zo, .int .i64 zs, .int .i64 zf, .int .i64 zt, .int .i64 o, .int .i64 s, .int .i64 f, .int .i64 t] 39).alloc (.cells #[.int .i64 (1440 * day + wa), .int .i64 moment, .int .i64 (1440 * day - 900 + wb)] 3)
  have k1 := Blk.new (w2.alloc (.cells #[.int .i64 zo, .int .i64 zs, .int .i64 zf, .int .i64 zt, .int .i64 o, .int .i64 s, .int .i64 f, .int .i64 t] 39)) [.int .i64 (1440 * day + wa), .int .i64 moment, .int .i64 (1440 * day - 900 + wb)] 3
  simp only [World.size_alloc] at k1
  have hb2 : Below w.heap.size w W2 := by rw [hW2]; exact (B2.out.alloc B2.out.size _).alloc (Nat.le_trans B2.out.size (by simp)) _
  have k0 : Blk W2 w2.heap.size [.int .i64 zo, .int .i64 zs, .int .i64 zf, .int .i64 zt, .int .i64 o, .int .i64 s, .int .i64 f, .int .i64 t] 39 := by rw [hW2]; exact k0
  have k1 : Blk W2 (w2.heap.size + 1) [.int .i64 (1440 * day + wa), .int .i64 moment, .int .i64 (1440 * day - 900 + wb)] 3 := by rw [hW2]; exact k1
  have K := Lib.hid (And.intro k0 (And.intro k1 hb2))
  rw [← hW2]
  clear k0 k1 hb2 hW2 B2
  go_loopw [15, 16, 17, 18, 19, 20, 21, 22, 23, 24, 25, 26, 27, 28, 29] (fun i j a b c a' b' c' x y z e g e' g' wr => ∃ k : Nat, k ≤ 2 ∧ i = .int .i64 k ∧ Below W2.heap.size W2 wr) (fun i _ _ _ _ _ _ _ _ _ _ _ _ _ _ _ => 2 - (intOf i).toNat)
  case atStart => exact ⟨0, by omega, rfl, Below.refl _ _⟩
  case round =>
    obtain ⟨k, hk, rfl, hb⟩ := hrel
    obtain ⟨wo, rfl⟩ : ∃ wo : World, wo = wr := ⟨_, rfl⟩
    by_cases hlt : k < 2
    · obtain ⟨xa, xb, xc, xd, hz0, hz1, hz2, hz3, hzI⟩ : ∃ xa xb xc xd : Int, [Value.int .i64 zo, .int .i64 zs, .int .i64 zf, .int .i64 zt, .int .i64 o, .int .i64 s, .int .i64 f, .int .i64 t][k * 4]? = some (.int .i64 xa) ∧ [Value.int .i64 zo, .int .i64 zs, .int .i64 zf, .int .i64 zt, .int .i64 o, .int .i64 s, .int .i64 f, .int .i64 t][k * 4 + 1]? = some (.int .i64 xb) ∧
          [Value.int .i64 zo, .int .i64 zs, .int .i64 zf, .int .i64 zt, .int .i64 o, .int .i64 s, .int .i64 f, .int .i64 t][k * 4 + 2]? = some (.int .i64 xc) ∧ [Value.int .i64 zo, .int .i64 zs, .int .i64 zf, .int .i64 zt, .int .i64 o, .int .i64 s, .int .i64 f, .int .i64 t][k * 4 + 3]? = some (.int .i64 xd) ∧ M.I64 xa ∧ M.I64 xb ∧ M.I64 xc ∧ M.I64 xd := by
        match k, hlt with
        | 0, _ => exact ⟨_, _, _, _, rfl, rfl, rfl, rfl, HI.out.1⟩
        | 1, _ => exact ⟨_, _, _, _, rfl, rfl, rfl, rfl, HI.out.2.1⟩
      have hk4 : (k : Int) < 2 := by omega
      have HZ := Lib.hid (And.intro (And.intro hz0 (And.intro hz1 (And.intro hz2 hz3))) (And.intro hzI hlt))
      have HB := Lib.hid hb
      clear hz0 hz1 hz2 hz3 hzI hb hlt
      have PZ : ∀ V : World, Below W2.heap.size W2 V → (Instr.loadAt 39 (.pointer (some ⟨w2.heap.size, k * 4, none⟩))).run Tryd.prog V = .ok (.agg #[.int .i64 xa, .int .i64 xb, .int .i64 xc, .int .i64 xd]) V := fun V hV => by
        have h := K.out.1.below hV K.out.1.lt
        exact load_czone _ _ _ _ _ _ _ (h.cell _ _ HZ.out.1.1) (h.cell _ _ HZ.out.1.2.1) (h.cell _ _ HZ.out.1.2.2.1) (h.cell _ _ HZ.out.1.2.2.2)
      have HPZ := Lib.hid PZ
      have cPl := fun W => plain_any xa xb xc xd W
      have CPl := Lib.hid cPl
      clear PZ cPl
      go_wp2_with fail
      go_loopw [16, 17, 18, 19, 20, 21, 22] (fun j a b c a' b' c' wr => ∃ t : Nat, t ≤ 3 ∧ j = .int .i64 t ∧ Below W2.heap.size W2 wr) (fun j _ _ _ _ _ _ _ => 3 - (intOf j).toNat)
      case atStart => exact ⟨0, by omega, rfl, HB.out⟩
      case round =>
        obtain ⟨j, hj, rfl, hb⟩ := hrel
        obtain ⟨wi, rfl⟩ : ∃ wi : World, wi = wr := ⟨_, rfl⟩
        by_cases hlt : j < 3
        · obtain ⟨u, hu, huI⟩ : ∃ u : Int, [Value.int .i64 (1440 * day + wa), .int .i64 moment, .int .i64 (1440 * day - 900 + wb)][j]? = some (.int .i64 u) ∧ M.I64 u := by
            match j, hlt with
            | 0, _ => exact ⟨_, rfl, by unfold M.I64; omega⟩
            | 1, _ => exact ⟨_, rfl, HI.out.2.2.1⟩
            | 2, _ => exact ⟨_, rfl, by unfold M.I64; omega⟩
          have hj4 : (j : Int) < 3 := by omega
          have P : ∀ V : World, Below W2.heap.size W2 V → ∀ q : BelT V.heap.size V, q.at.cell? ⟨w2.heap.size + 1, j, none⟩ = some (.int .i64 u) := fun V hV q => ((K.out.2.1.below hV K.out.2.1.lt).below q.out (Nat.lt_of_lt_of_le K.out.2.1.lt hV.size)).cell j _ hu
          have q0 := P wi hb
          have z0 := fun q : BelT wi.heap.size wi => HPZ.out q.at (hb.trans (q.out.mono hb.size))
          have cL := fun W => calLocal_any u xa xb xc xd W huI HZ.out.2.1.1 HZ.out.2.1.2.1 HZ.out.2.1.2.2.1 HZ.out.2.1.2.2.2
          have rL := fun W => refLocal_any u xa xb xc xd W
          obtain ⟨ld, hld⟩ : ∃ x, x = localD u xa xb xc xd := ⟨_, rfl⟩
          obtain ⟨lm, hlm⟩ : ∃ x, x = localM u xa xb xc xd := ⟨_, rfl⟩
          obtain ⟨le, hle⟩ : ∃ x, x = localE u xa xb xc xd := ⟨_, rfl⟩
          simp only [← hld, ← hlm, ← hle] at cL rL
          have CL := Lib.hid cL
          have RL := Lib.hid rL
          have HP := Lib.hid P
          have HB2 := Lib.hid hb
          have HJ := Lib.hid hlt
          clear hu huI P cL rL hld hlm hle hb hlt
          go_wp2_with fail
          refine wp_region_below wi.heap.size (by kernel_rfl) (by kernel_rfl) ?_
          repeat (go_big_quiet_step (exact (CL.out _).mono fun e w' h => ⟨h.1, BelT.of ((BelT.out _).trans (h.2.mono (BelT.out _).size))⟩))
          refine wpQuiet_loadAt rfl 39 (.tmp 66) rfl (.pointer (some ⟨w2.heap.size, k * 4, none⟩)) rfl (.agg #[.int .i64 xa, .int .i64 xb, .int .i64 xc, .int .i64 xd]) (fun W hW => by obtain ⟨q, rfl⟩ := hW; exact z0 q) ?_
          go_frame
          repeat (go_big_quiet_step (exact (CL.out _).mono fun e w' h => ⟨h.1, BelT.of ((BelT.out _).trans (h.2.mono (BelT.out _).size))⟩))
          refine wpQuiet_nil ?_
          intro w' hw'
          obtain ⟨q, rfl⟩ := hw'
          have hb5 := HB2.out.trans (q.out.mono HB2.out.size)
          obtain ⟨w5, hw5⟩ : ∃ w5, w5 = q.at := ⟨_, rfl⟩
          rw [← hw5] at hb5
          rw [← hw5]
          clear q0 z0 CL hw5 HB2
          have q0 := HP.out w5 hb5
          have z0 := fun q : BelT w5.heap.size w5 => HPZ.out q.at (hb5.trans (q.out.mono hb5.size))
          have HB5 := Lib.hid hb5
          clear hb5
          go_wp2_with fail
          refine wp_region_below w5.heap.size (by kernel_rfl) (by kernel_rfl) ?_
          repeat (go_big_quiet_step (fail))
          refine wpQuiet_loadAt rfl 39 (.tmp 79) rfl (.pointer (some ⟨w2.heap.size, k * 4, none⟩)) rfl (.agg #[.int .i64 xa, .int .i64 xb, .int .i64 xc, .int .i64 xd]) (fun W hW => by obtain ⟨q, rfl⟩ := hW; exact z0 q) ?_
          go_frame
          repeat (go_big_quiet_step (first
            | exact (CPl.out _).mono fun e w' h => ⟨h.1, BelT.of ((BelT.out _).trans (h.2.mono (BelT.out _).size))⟩
            | exact (RL.out _).mono fun e w' h => ⟨h.1, BelT.of ((BelT.out _).trans (h.2.mono (BelT.out _).size))⟩))
          refine wpQuiet_nil ?_
          intro w' hw'
          obtain ⟨q, rfl⟩ := hw'
          have HB6 := Lib.hid (HB5.out.trans (q.out.mono HB5.out.size))
          have HJ2 := HJ.out
          clear q0 z0 RL HB5
          go_wp2_with fail
          go_roundw
          case rel => exact ⟨j + 1, by omega, by go_num, HB6.out⟩
          case measure => simp [intOf]; omega
        · obtain rfl : j = 3 := by omega
          have HB2 := Lib.hid hb
          clear hb hlt hj
          go_wp2_with fail
          obtain ⟨W6, hW6⟩ : ∃ W6, W6 = (wi.alloc (.cells #[.int .i64 day, .int .i64 moment, .int .i64 day] 3)).alloc (.cells #[.int .i64 wa, .int .i64 wa, .int .i64 minute] 3) := ⟨_, rfl⟩
          have k0 := (Blk.new wi [.int .i64 day, .int .i64 moment, .int .i64 day] 3).alloc (.cells #[.int .i64 wa, .int .i64 wa, .int .i64 minute] 3)
          have k1 := Blk.new (wi.alloc (.cells #[.int .i64 day, .int .i64 moment, .int .i64 day] 3)) [.int .i64 wa, .int .i64 wa, .int .i64 minute] 3
          simp only [World.size_alloc] at k1
          have hb6 : Below W2.heap.size W2 W6 := by rw [hW6]; exact (HB2.out.alloc HB2.out.size _).alloc (Nat.le_trans HB2.out.size (by simp)) _
          have k0 : Blk W6 wi.heap.size [.int .i64 day, .int .i64 moment, .int .i64 day] 3 := by rw [hW6]; exact k0
          have k1 : Blk W6 (wi.heap.size + 1) [.int .i64 wa, .int .i64 wa, .int .i64 minute] 3 := by rw [hW6]; exact k1
          have K6 := Lib.hid (And.intro k0 (And.intro k1 hb6))
          rw [← hW6]
          rw [show ((3 : Nat) : Int) = 3 from rfl]
          clear k0 k1 hb6 hW6 HB2
          go_loopw [25, 26, 27, 28, 29] (fun j e g e' g' wr => ∃ t : Nat, t ≤ 3 ∧ j = .int .i64 t ∧ Below W6.heap.size W6 wr) (fun j _ _ _ _ _ => 3 - (intOf j).toNat)
          case atStart => exact ⟨0, by omega, rfl, Below.refl _ _⟩
          case round =>
            obtain ⟨j, hj, rfl, hb⟩ := hrel
            obtain ⟨wj, rfl⟩ : ∃ wj : World, wj = wr := ⟨_, rfl⟩
            by_cases hlt : j < 3
            · obtain ⟨u, hu, huI⟩ : ∃ u : Int, [Value.int .i64 day, .int .i64 moment, .int .i64 day][j]? = some (.int .i64 u) ∧ M.I64 u := by
                match j, hlt with
                | 0, _ => exact ⟨_, rfl, by unfold M.I64; omega⟩
                | 1, _ => exact ⟨_, rfl, HI.out.2.2.1⟩
                | 2, _ => exact ⟨_, rfl, by unfold M.I64; omega⟩
              obtain ⟨v, hv, hvI⟩ : ∃ u : Int, [Value.int .i64 wa, .int .i64 wa, .int .i64 minute][j]? = some (.int .i64 u) ∧ M.I64 u := by
                match j, hlt with
                | 0, _ => exact ⟨_, rfl, by unfold M.I64; omega⟩
                | 1, _ => exact ⟨_, rfl, by unfold M.I64; omega⟩
                | 2, _ => exact ⟨_, rfl, HI.out.2.2.2⟩
              have hj4 : (j : Int) < 3 := by omega
              have P : ∀ V : World, Below W6.heap.size W6 V → V.cell? ⟨wi.heap.size, j, none⟩ = some (.int .i64 u) ∧ V.cell? ⟨wi.heap.size + 1, j, none⟩ = some (.int .i64 v) ∧ (Instr.loadAt 39 (.pointer (some ⟨w2.heap.size, k * 4, none⟩))).run Tryd.prog V = .ok (.agg #[.int .i64 xa, .int .i64 xb, .int .i64 xc, .int .i64 xd]) V := fun V hV =>
                ⟨(K6.out.1.below hV K6.out.1.lt).cell j _ hu, (K6.out.2.1.below hV K6.out.2.1.lt).cell j _ hv, HPZ.out V (K6.out.2.2.trans (hV.mono K6.out.2.2.size))⟩
              have q0 := fun q : BelS wj.heap.size wj => (P q.at (hb.trans (q.out.mono hb.size))).1
              have q1 := fun q : BelS wj.heap.size wj => (P q.at (hb.trans (q.out.mono hb.size))).2.1
              have z0 := fun q : BelS wj.heap.size wj => (P q.at (hb.trans (q.out.mono hb.size))).2.2
              have cL := fun W => calMoments_any u v xa xb xc xd W huI hvI HZ.out.2.1.1 HZ.out.2.1.2.1 HZ.out.2.1.2.2.1 HZ.out.2.1.2.2.2
              have rL := fun W => refMoments_any u v xa xb xc xd W
              have hml := momL_len u v xa xb xc xd
              obtain ⟨ml, hml1⟩ : ∃ x, x = momL u v xa xb xc xd := ⟨_, rfl⟩
              obtain ⟨me, hme1⟩ : ∃ x, x = momE u v xa xb xc xd := ⟨_, rfl⟩
              simp only [← hml1, ← hme1] at cL rL
              rw [← hml1] at hml
              have CL := Lib.hid cL
              have RL := Lib.hid rL
              have HP := Lib.hid P
              have HB2 := Lib.hid hb
              have HJ := Lib.hid (And.intro hlt hml)
              clear hu huI hv hvI P cL rL hml1 hme1 hb hlt hml
              go_wp2_with fail
--R20
              refine wp_region_list [112, 113, 114, 115, 116, 117, 118, 119, 120, 121, 122, 123, 124, 111, 125, 126, 26] [.is (.slice (some ⟨wi.heap.size, 0, none⟩) 3 3), .is (.int .i64 j), .is (.pointer (some ⟨wi.heap.size, j, none⟩)), .is (.int .i64 u), .is (.slice (some ⟨wi.heap.size + 1, 0, none⟩) 3 3), .is (.int .i64 j), .is (.pointer (some ⟨wi.heap.size + 1, j, none⟩)), .is (.int .i64 v), .is (.slice (some ⟨w2.heap.size, 0, none⟩) 2 2), .is (.int .i64 k), .is (.pointer (some ⟨w2.heap.size, k * 4, none⟩)), .is (.agg #[.int .i64 xa, .int .i64 xb, .int .i64 xc, .int .i64 xd]), .rowE ml me, .rowE ml me, .rowI ml, .is (.int .i64 me), .rowI ml] (by kernel_rfl) (by kernel_rfl) ?_ ?_
              · intro y0 hy0 b w' hb hd hx o ho
                match y0, hy0 with
                | 0, _ => obtain rfl := Option.some.inj ho; exact ⟨hx 23 rfl, Below.refl _ _⟩
                | 1, _ => obtain rfl := Option.some.inj ho; exact ⟨hx 25 rfl, Below.refl _ _⟩
                | 2, _ =>
                  obtain rfl := Option.some.inj ho
                  have e0 : b.tmps.getD 112 undef = .slice (some ⟨wi.heap.size, 0, none⟩) 3 3 := hd 0 (by kernel_rfl) (by decide)
                  have e1 : b.tmps.getD 113 undef = .int .i64 j := hd 1 (by kernel_rfl) (by decide)
                  have hr := run_indexAt_ints wi.heap.size 3 3 j HJ.out.1 w'
                  rw [← e0, ← e1] at hr
                  exact runs_value rfl hr ⟨rfl, Below.refl _ _⟩
                | 3, _ =>
                  obtain rfl := Option.some.inj ho
                  have e0 : b.tmps.getD 114 undef = .pointer (some ⟨wi.heap.size, j, none⟩) := hd 2 (by kernel_rfl) (by decide)
                  have hr := run_get w' wi.heap.size j u (HP.out w' (HB2.out.trans (hb.mono HB2.out.size))).1
                  rw [← e0] at hr
                  exact runs_value rfl hr ⟨rfl, Below.refl _ _⟩
                | 4, _ => obtain rfl := Option.some.inj ho; exact ⟨hx 24 rfl, Below.refl _ _⟩
                | 5, _ => obtain rfl := Option.some.inj ho; exact ⟨hx 25 rfl, Below.refl _ _⟩
                | 6, _ =>
                  obtain rfl := Option.some.inj ho
                  have e0 : b.tmps.getD 116 undef = .slice (some ⟨wi.heap.size + 1, 0, none⟩) 3 3 := hd 4 (by kernel_rfl) (by decide)
                  have e1 : b.tmps.getD 117 undef = .int .i64 j := hd 5 (by kernel_rfl) (by decide)
                  have hr := run_indexAt_ints (wi.heap.size + 1) 3 3 j HJ.out.1 w'
                  rw [← e0, ← e1] at hr
                  exact runs_value rfl hr ⟨rfl, Below.refl _ _⟩
                | 7, _ =>
                  obtain rfl := Option.some.inj ho
                  have e0 : b.tmps.getD 118 undef = .pointer (some ⟨wi.heap.size + 1, j, none⟩) := hd 6 (by kernel_rfl) (by decide)
                  have hr := run_get w' (wi.heap.size + 1) j v (HP.out w' (HB2.out.trans (hb.mono HB2.out.size))).2.1
                  rw [← e0] at hr
                  exact runs_value rfl hr ⟨rfl, Below.refl _ _⟩
                | 8, _ => obtain rfl := Option.some.inj ho; exact ⟨hx 13 rfl, Below.refl _ _⟩
                | 9, _ => obtain rfl := Option.some.inj ho; exact ⟨hx 15 rfl, Below.refl _ _⟩
                | 10, _ =>
                  obtain rfl := Option.some.inj ho
                  have e0 : b.tmps.getD 120 undef = .slice (some ⟨w2.heap.size, 0, none⟩) 2 2 := hd 8 (by kernel_rfl) (by decide)
                  have e1 : b.tmps.getD 121 undef = .int .i64 k := hd 9 (by kernel_rfl) (by decide)
                  have hr := index_zone w' w2.heap.size 2 2 k HZ.out.2.2
                  rw [← e0, ← e1] at hr
                  exact runs_value rfl hr ⟨rfl, Below.refl _ _⟩
                | 11, _ =>
                  obtain rfl := Option.some.inj ho
                  have e0 : b.tmps.getD 122 undef = .pointer (some ⟨w2.heap.size, k * 4, none⟩) := hd 10 (by kernel_rfl) (by decide)
                  have hr := (HP.out w' (HB2.out.trans (hb.mono HB2.out.size))).2.2
                  rw [← e0] at hr
                  exact runs_value rfl hr ⟨rfl, Below.refl _ _⟩
                | 12, _ =>
                  obtain rfl := Option.some.inj ho
                  have e0 : b.tmps.getD 115 undef = .int .i64 u := hd 3 (by kernel_rfl) (by decide)
                  have e1 : b.tmps.getD 119 undef = .int .i64 v := hd 7 (by kernel_rfl) (by decide)
                  have e2 : b.tmps.getD 123 undef = .agg #[.int .i64 xa, .int .i64 xb, .int .i64 xc, .int .i64 xd] := hd 11 (by kernel_rfl) (by decide)
                  refine runs_call rfl (fun _ _ => rfl) ?_
                  show Calls _ _ #[b.tmps.getD 115 undef, b.tmps.getD 119 undef, b.tmps.getD 123 undef] w' _
                  rw [e0, e1, e2]
                  refine (CL.out w').mono ?_
                  rintro e w'' ⟨v', rfl, hown, hbb⟩
                  obtain ⟨A', c', rfl, hrd, h1, -⟩ := own_rd (B := 0) hown
                  exact ⟨_, rfl, ⟨A', c', rfl, hrd, h1⟩, hbb⟩
                | 13, _ => obtain rfl := Option.some.inj ho; exact ⟨hd 12 (by kernel_rfl) (by decide), Below.refl _ _⟩
                | 14, _ =>
                  obtain rfl := Option.some.inj ho
                  obtain ⟨A', c', e0, hrd, h1⟩ := hd 13 (by kernel_rfl) (by decide)
                  have hr : (Instr.extract (.tuple #[.slice A' ml.length c', .int .i64 me]) 0).run Tryd.prog w' = .ok (.slice A' ml.length c') w' := by go_simp
                  rw [← show b.tmps.getD 111 undef = _ from e0] at hr
                  exact runs_value rfl hr ⟨⟨A', c', rfl, hrd, h1⟩, Below.refl _ _⟩
                | 15, _ =>
                  obtain rfl := Option.some.inj ho
                  obtain ⟨A', c', e0, hrd, h1⟩ := hd 13 (by kernel_rfl) (by decide)
                  have hr : (Instr.extract (.tuple #[.slice A' ml.length c', .int .i64 me]) 1).run Tryd.prog w' = .ok (.int .i64 me) w' := by go_simp
                  rw [← show b.tmps.getD 111 undef = _ from e0] at hr
                  exact runs_value rfl hr ⟨rfl, Below.refl _ _⟩
                | 16, _ => obtain rfl := Option.some.inj ho; exact ⟨hd 14 (by kernel_rfl) (by decide), Below.refl _ _⟩
                | n + 17, h => exact absurd h (by simp)
              intro vals w5 hb9 hf9
              have vg : vals 15 = .int .i64 me := hf9 15 (by decide)
              obtain ⟨A7, c7, va, hrd7, -⟩ := hf9 16 (by decide)
              simp only [puts, List.length_cons, List.length_nil, Nat.zero_add, Nat.reduceAdd, List.drop_succ_cons, List.drop_zero, vg, show vals 16 = _ from va]
--END
              have hb8 := HB2.out.trans (hb9.mono HB2.out.size)
              have HB8 := Lib.hid (And.intro hb8 hrd7)
              clear q0 q1 z0 HB2 hb8 hrd7 vg va hf9 hb9 CL
              try go_frame
              go_wp2_with fail
--R21
              refine wp_region_list [128, 129, 130, 131, 132, 133, 134, 135, 136, 137, 138, 139, 140, 141, 127, 142, 143, 28] [.is (.slice (some ⟨wi.heap.size, 0, none⟩) 3 3), .is (.int .i64 j), .is (.pointer (some ⟨wi.heap.size, j, none⟩)), .is (.int .i64 u), .is (.slice (some ⟨wi.heap.size + 1, 0, none⟩) 3 3), .is (.int .i64 j), .is (.pointer (some ⟨wi.heap.size + 1, j, none⟩)), .is (.int .i64 v), .is (.slice (some ⟨w2.heap.size, 0, none⟩) 2 2), .is (.int .i64 k), .is (.pointer (some ⟨w2.heap.size, k * 4, none⟩)), .is (.agg #[.int .i64 xa, .int .i64 xb, .int .i64 xc, .int .i64 xd]), .is (.agg #[.int .i64 xa, .int .i64 xb, .int .i64 xc, .int .i64 xd]), .rowE ml me, .rowE ml me, .rowI ml, .is (.int .i64 me), .rowI ml] (by kernel_rfl) (by kernel_rfl) ?_ ?_
              · intro y0 hy0 b w' hb hd hx o ho
                match y0, hy0 with
                | 0, _ => obtain rfl := Option.some.inj ho; exact ⟨hx 23 rfl, Below.refl _ _⟩
                | 1, _ => obtain rfl := Option.some.inj ho; exact ⟨hx 25 rfl, Below.refl _ _⟩
                | 2, _ =>
                  obtain rfl := Option.some.inj ho
                  have e0 : b.tmps.getD 128 undef = .slice (some ⟨wi.heap.size, 0, none⟩) 3 3 := hd 0 (by kernel_rfl) (by decide)
                  have e1 : b.tmps.getD 129 undef = .int .i64 j := hd 1 (by kernel_rfl) (by decide)
                  have hr := run_indexAt_ints wi.heap.size 3 3 j HJ.out.1 w'
                  rw [← e0, ← e1] at hr
                  exact runs_value rfl hr ⟨rfl, Below.refl _ _⟩
                | 3, _ =>
                  obtain rfl := Option.some.inj ho
                  have e0 : b.tmps.getD 130 undef = .pointer (some ⟨wi.heap.size, j, none⟩) := hd 2 (by kernel_rfl) (by decide)
                  have hr := run_get w' wi.heap.size j u (HP.out w' (HB8.out.1.trans (hb.mono HB8.out.1.size))).1
                  rw [← e0] at hr
                  exact runs_value rfl hr ⟨rfl, Below.refl _ _⟩
                | 4, _ => obtain rfl := Option.some.inj ho; exact ⟨hx 24 rfl, Below.refl _ _⟩
                | 5, _ => obtain rfl := Option.some.inj ho; exact ⟨hx 25 rfl, Below.refl _ _⟩
                | 6, _ =>
                  obtain rfl := Option.some.inj ho
                  have e0 : b.tmps.getD 132 undef = .slice (some ⟨wi.heap.size + 1, 0, none⟩) 3 3 := hd 4 (by kernel_rfl) (by decide)
                  have e1 : b.tmps.getD 133 undef = .int .i64 j := hd 5 (by kernel_rfl) (by decide)
                  have hr := run_indexAt_ints (wi.heap.size + 1) 3 3 j HJ.out.1 w'
                  rw [← e0, ← e1] at hr
                  exact runs_value rfl hr ⟨rfl, Below.refl _ _⟩
                | 7, _ =>
                  obtain rfl := Option.some.inj ho
                  have e0 : b.tmps.getD 134 undef = .pointer (some ⟨wi.heap.size + 1, j, none⟩) := hd 6 (by kernel_rfl) (by decide)
                  have hr := run_get w' (wi.heap.size + 1) j v (HP.out w' (HB8.out.1.trans (hb.mono HB8.out.1.size))).2.1
                  rw [← e0] at hr
                  exact runs_value rfl hr ⟨rfl, Below.refl _ _⟩
                | 8, _ => obtain rfl := Option.some.inj ho; exact ⟨hx 13 rfl, Below.refl _ _⟩
                | 9, _ => obtain rfl := Option.some.inj ho; exact ⟨hx 15 rfl, Below.refl _ _⟩
                | 10, _ =>
                  obtain rfl := Option.some.inj ho
                  have e0 : b.tmps.getD 136 undef = .slice (some ⟨w2.heap.size, 0, none⟩) 2 2 := hd 8 (by kernel_rfl) (by decide)
                  have e1 : b.tmps.getD 137 undef = .int .i64 k := hd 9 (by kernel_rfl) (by decide)
                  have hr := index_zone w' w2.heap.size 2 2 k HZ.out.2.2
                  rw [← e0, ← e1] at hr
                  exact runs_value rfl hr ⟨rfl, Below.refl _ _⟩
                | 11, _ =>
                  obtain rfl := Option.some.inj ho
                  have e0 : b.tmps.getD 138 undef = .pointer (some ⟨w2.heap.size, k * 4, none⟩) := hd 10 (by kernel_rfl) (by decide)
                  have hr := (HP.out w' (HB8.out.1.trans (hb.mono HB8.out.1.size))).2.2
                  rw [← e0] at hr
                  exact runs_value rfl hr ⟨rfl, Below.refl _ _⟩
                | 12, _ =>
                  obtain rfl := Option.some.inj ho
                  have e0 : b.tmps.getD 139 undef = .agg #[.int .i64 xa, .int .i64 xb, .int .i64 xc, .int .i64 xd] := hd 11 (by kernel_rfl) (by decide)
                  refine runs_call rfl (fun _ _ => rfl) ?_
                  show Calls _ _ #[b.tmps.getD 139 undef] w' _
                  rw [e0]
                  exact (CPl.out w').mono fun e w'' h => ⟨_, h.1, rfl, h.2⟩
                | 13, _ =>
                  obtain rfl := Option.some.inj ho
                  have e0 : b.tmps.getD 131 undef = .int .i64 u := hd 3 (by kernel_rfl) (by decide)
                  have e1 : b.tmps.getD 135 undef = .int .i64 v := hd 7 (by kernel_rfl) (by decide)
                  have e2 : b.tmps.getD 140 undef = .agg #[.int .i64 xa, .int .i64 xb, .int .i64 xc, .int .i64 xd] := hd 12 (by kernel_rfl) (by decide)
                  refine runs_call rfl (fun _ _ => rfl) ?_
                  show Calls _ _ #[b.tmps.getD 131 undef, b.tmps.getD 135 undef, b.tmps.getD 140 undef] w' _
                  rw [e0, e1, e2]
                  refine (RL.out w').mono ?_
                  rintro e w'' ⟨v', rfl, hown, hbb⟩
                  obtain ⟨A', c', rfl, hrd, h1, -⟩ := own_rd (B := 0) hown
                  exact ⟨_, rfl, ⟨A', c', rfl, hrd, h1⟩, hbb⟩
                | 14, _ => obtain rfl := Option.some.inj ho; exact ⟨hd 13 (by kernel_rfl) (by decide), Below.refl _ _⟩
                | 15, _ =>
                  obtain rfl := Option.some.inj ho
                  obtain ⟨A', c', e0, hrd, h1⟩ := hd 14 (by kernel_rfl) (by decide)
                  have hr : (Instr.extract (.tuple #[.slice A' ml.length c', .int .i64 me]) 0).run Tryd.prog w' = .ok (.slice A' ml.length c') w' := by go_simp
                  rw [← show b.tmps.getD 127 undef = _ from e0] at hr
                  exact runs_value rfl hr ⟨⟨A', c', rfl, hrd, h1⟩, Below.refl _ _⟩
                | 16, _ =>
                  obtain rfl := Option.some.inj ho
                  obtain ⟨A', c', e0, hrd, h1⟩ := hd 14 (by kernel_rfl) (by decide)
                  have hr : (Instr.extract (.tuple #[.slice A' ml.length c', .int .i64 me]) 1).run Tryd.prog w' = .ok (.int .i64 me) w' := by go_simp
                  rw [← show b.tmps.getD 127 undef = _ from e0] at hr
                  exact runs_value rfl hr ⟨rfl, Below.refl _ _⟩
                | 17, _ => obtain rfl := Option.some.inj ho; exact ⟨hd 15 (by kernel_rfl) (by decide), Below.refl _ _⟩
                | n + 18, h => exact absurd h (by simp)
              intro vals wa' hb9 hf9
              have vg : vals 16 = .int .i64 me := hf9 16 (by decide)
              obtain ⟨A10, c10, va, hrd10, -⟩ := hf9 17 (by decide)
              simp only [puts, List.length_cons, List.length_nil, Nat.zero_add, Nat.reduceAdd, List.drop_succ_cons, List.drop_zero, vg, show vals 17 = _ from va]
--END
              have cI := sameInts_any A7 A10 c7 c10 ml ml wa' ((HB8.out.2.below hb9).more hb9.size) hrd10 (by have := HJ.out.2; unfold maxLen; omega) (by have := HJ.out.2; unfold maxLen; omega)
              rw [decide_eq_true rfl] at cI
              obtain ⟨Lm, hLm⟩ : ∃ L, L = ml.length := ⟨_, rfl⟩
              rw [← hLm] at cI ⊢
              have CI := Lib.hid cI
              have HB10 := Lib.hid (HB8.out.1.trans (hb9.mono HB8.out.1.size))
              clear RL hb9 HB8 hrd10 cI hLm vg va hf9
              try go_frame
              go_wp2_with fail
              refine CI.out.mono ?_
              rintro e wb' ⟨rfl, hb11⟩
              have HB11 := Lib.hid (HB10.out.trans (hb11.mono HB10.out.size))
              have HJ2 := HJ.out.1
              clear CI hb11 HB10
              go_wp2_with fail
              go_roundw
              case rel => exact ⟨j + 1, by omega, by go_num, HB11.out⟩
              case measure => simp [intOf]; omega
            · obtain rfl : j = 3 := by omega
              have HB2 := Lib.hid (K6.out.2.2.trans (hb.mono K6.out.2.2.size))
              have HZ2 := HZ.out.2.2
              clear hb hlt hj
              go_wp2_with fail
              go_roundw
              case rel => exact ⟨k + 1, by omega, by go_num, HB2.out⟩
              case measure => simp [intOf]; omega
    · obtain rfl : k = 2 := by omega
      have HB := Lib.hid (K.out.2.2.trans (hb.mono K.out.2.2.size))
      clear hb
      go_wp2_with fail
      refine (calLives_any _ (HD.out.below HB.out (Nat.le_refl _))).mono ?_
      rintro e w9 ⟨rfl, hb9⟩
      have HB9 := Lib.hid (HB.out.trans (hb9.mono HB.out.size))
      clear hb9 HB
      go_wp2_with fail
      go_ret
      exact ⟨rfl, HB9.out⟩
end Go.Proofs.YtkenfgifhebnpaaDoor
