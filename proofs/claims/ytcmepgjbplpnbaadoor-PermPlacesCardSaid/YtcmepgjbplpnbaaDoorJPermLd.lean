import Derived.Test.YtcmepgjbplpnbaaDoorJPermQ
import Derived.Test.YtcmepgjbplpnbaaDoorJTake
import Derived.Test.YtcmepgjbplpnbaaDoorJWireK1

section
/- The law PermAll. -/



namespace Go.Proofs.YtcmepgjbplpnbaaDoor
open Go.RowKit
set_option linter.unusedVariables false
set_option maxRecDepth 100000

/-- few: at most ten numbers of a path. -/
theorem few_path (A : Option Addr) (cap : Nat) (l : List Int) (w : World) (hr : Rd w w.heap.size A (l.map iv)) (hc : l.length ≤ cap) (hm : cap ≤ maxLen) :
    Calls Tryd.prog 10 #[.slice A l.length cap] w (fun e w' => ∃ v, e = .returned v ∧ w'.ownsRow w.heap.size 3 1 v (l.take 10).length ((l.take 10).map iv) ∧ Below w.heap.size w w') := by
  have c := take_any A cap l 10 w hr hc hm (by decide)
  obtain ⟨p, hp⟩ : ∃ p, p = l.take 10 := ⟨_, rfl⟩
  obtain ⟨N, hN⟩ : ∃ N, N = l.length := ⟨_, rfl⟩
  rw [← hp, ← hN] at c
  rw [← hp, ← hN]
  have C := Lib.hid c
  clear c hp hN hr hc hm
  go_enter Tryd.func10, Tryd.ntmps10
  go_wp2_with fail
  refine C.out.mono ?_
  rintro e w' ⟨v, rfl, hown, hb⟩
  have HO := Lib.hid hown
  clear hown
  go_wp2_with fail
  go_ret
  exact ⟨_, rfl, HO.out, hb⟩

set_option maxHeartbeats 4000000 in
theorem all_walk (s : ByteArray) (A : Option Addr) (cap : Nat) (l : List Int) (n : Int) (w : World) (hr : Rd w w.heap.size A (l.map iv)) (hc : l.length ≤ cap) (hm : cap ≤ maxLen) (hI : ∀ n ∈ l, M.I64 n) (hn : M.I64 n) (hR : RTab w) (hT : PTab w) :
    Calls Tryd.prog 4 #[.string s, .slice A l.length cap, .int .i64 n] w (Tells true w) := by
  have cT := few_path A cap l w hr hc hm
  have hpl : (l.take 10).length ≤ 10 := by rw [List.length_take]; omega
  have hpI : ∀ n ∈ l.take 10, M.I64 n := fun n h => hI n (List.mem_of_mem_take h)
  obtain ⟨p, hp⟩ : ∃ p, p = l.take 10 := ⟨_, rfl⟩
  obtain ⟨N, hN⟩ : ∃ N, N = l.length := ⟨_, rfl⟩
  rw [← hp] at cT hpl hpI
  rw [← hN] at cT ⊢
  have cS := fun W => shortAt_any 34 s W (by decide)
  have hqs := shortAt_size 34 s
  obtain ⟨q, hq⟩ : ∃ q, q = shortAt 34 s := ⟨_, rfl⟩
  rw [← hq] at cS hqs
  have c70 := fun W => around_any n 70 W hn (by constructor <;> decide)
  have h70 := around_lt n 70 (by decide)
  have c9 := fun W => around_any n 9 W hn (by constructor <;> decide)
  have h9 := around_lt n 9 (by decide)
  obtain ⟨x, hx⟩ : ∃ x, x = around n 70 := ⟨_, rfl⟩
  obtain ⟨y, hy⟩ : ∃ x, x = around n 9 := ⟨_, rfl⟩
  rw [← hx] at c70 h70
  rw [← hy] at c9 h9
  obtain ⟨x1, x2⟩ := h70
  obtain ⟨y1, y2⟩ := h9
  have CT := Lib.hid cT
  have CS := Lib.hid cS
  have C70 := Lib.hid c70
  have C9 := Lib.hid c9
  have HP := Lib.hid (And.intro hpl (And.intro hpI (And.intro hqs (And.intro hR hT))))
  clear cT hpl hpI hp hN cS hqs hq c70 c9 hx hy hR hT hr hc hm hI hn
  go_enter Tryd.func4, Tryd.ntmps4
  go_wp2_with fail
  refine (CS.out _).mono ?_
  rintro e w0 ⟨rfl, rfl⟩
  go_wp2_with fail
  refine CT.out.mono ?_
  rintro e w1 ⟨v, rfl, hown, hb1⟩
  obtain ⟨A1, c1, rfl, -, -, -⟩ := own_rd (B := 0) hown
  have P1 := psrc_of (s := q) hown (by have := HP.out.2.2.1; omega) (by have := HP.out.1; omega) HP.out.2.1 (HP.out.2.2.2.2.below hb1)
  have hR1 := HP.out.2.2.2.1.below hb1 (Nat.le_refl _)
  have cA := fun (W : World) (hb : Below w1.heap.size w1 W) (m : Int) => permAll_any q A1 c1 p m W (P1.below hb)
  have cB := fun (W : World) (hb : Below w1.heap.size w1 W) (m : Int) => refAll_any q A1 c1 p m W ((P1.below hb).ref (hR1.below hb (Nat.le_refl _)))
  obtain ⟨Np, hNp⟩ : ∃ N, N = p.length := ⟨_, rfl⟩
  rw [← hNp] at cA cB ⊢
  have CA := Lib.hid cA
  have CB := Lib.hid cB
  have B1 := Lib.hid (And.intro hb1 P1.tab)
  clear hown P1 cA cB hNp hb1 CT CS hR1
  go_wp2_with fail
  refine (C70.out _).mono ?_
  rintro e w' ⟨rfl, rfl⟩
  go_wp2_with fail
  refine (C9.out _).mono ?_
  rintro e w' ⟨rfl, rfl⟩
  go_wp2_with fail
  refine (C9.out _).mono ?_
  rintro e w2 ⟨rfl, rfl⟩
  go_wp2_with fail
  have hk3 := Blk.new w2 [.int .i64 x, .int .i64 (65537 + y), .int .i64 (-1 - y), .int .i64 0] 3
  have hb3 : Below w2.heap.size w2 (w2.alloc (.cells #[.int .i64 x, .int .i64 (65537 + y), .int .i64 (-1 - y), .int .i64 0] 3)) := (Below.refl _ _).alloc (Nat.le_refl _) _
  obtain ⟨W3, hW3⟩ : ∃ W3, W3 = w2.alloc (.cells #[.int .i64 x, .int .i64 (65537 + y), .int .i64 (-1 - y), .int .i64 0] 3) := ⟨_, rfl⟩
  have hk3 : Blk W3 w2.heap.size [.int .i64 x, .int .i64 (65537 + y), .int .i64 (-1 - y), .int .i64 0] 3 := by rw [hW3]; exact hk3
  rw [← hW3] at hb3
  have K3 := Lib.hid (And.intro hk3 hb3)
  rw [← hW3]
  clear hk3 hb3 hW3
  go_loopw [10, 11, 12, 13, 14] (fun i a b c d wr => ∃ k : Nat, k ≤ 4 ∧ i = .int .i64 k ∧ Below W3.heap.size W3 wr) (fun i _ _ _ _ _ => 4 - (intOf i).toNat)
  case atStart => exact ⟨0, by omega, rfl, Below.refl _ _⟩
  case round =>
    obtain ⟨k, hk, rfl, hb⟩ := hrel
    by_cases hlt : k < 4
    · obtain ⟨z, hz⟩ : ∃ z : Int, [Value.int .i64 x, .int .i64 (65537 + y), .int .i64 (-1 - y), .int .i64 0][k]? = some (.int .i64 z) := by
        match k, hlt with
        | 0, _ => exact ⟨_, rfl⟩
        | 1, _ => exact ⟨_, rfl⟩
        | 2, _ => exact ⟨_, rfl⟩
        | 3, _ => exact ⟨_, rfl⟩
      have ck := (K3.out.1.below hb K3.out.1.lt).cell k _ hz
      have hkc : (k : Int) < 4 := by omega
      have cA := CA.out wr (K3.out.2.trans (hb.mono K3.out.2.size)) z
      obtain ⟨la, hla⟩ : ∃ l, l = allP q p z := ⟨_, rfl⟩
      obtain ⟨ea, hea⟩ : ∃ e, e = errA q p z := ⟨_, rfl⟩
      have hll : la.length ≤ 65536 := by
        rw [hla]
        unfold allP
        split
        · rename_i h
          rw [allS_len]
          unfold errA at h
          split at h
          · cases h
          · omega
        · simp
      rw [← hla, ← hea] at cA
      have C1 := Lib.hid cA
      have HL := Lib.hid (And.intro hla hea)
      clear hz cA hla hea
      go_wp2_with fail
      refine C1.out.mono ?_
      rintro e w4 ⟨v4, rfl, hown4, hb4⟩
      obtain ⟨A4, c4, rfl, hr4, h41, h42⟩ := own_rd (B := 0) hown4
      have ck4 := (hb4.cell (p := ⟨w2.heap.size, k, none⟩) (Nat.lt_of_lt_of_le K3.out.1.lt hb.size)).trans ck
      have hb4' := hb.trans (hb4.mono hb.size)
      have cB := CB.out w4 (K3.out.2.trans (hb4'.mono K3.out.2.size)) z
      rw [← HL.out.1, ← HL.out.2] at cB
      have C2 := Lib.hid cB
      have K4 := Lib.hid (And.intro hr4 hb4')
      clear hown4 hb4 hb4' hr4 C1 hb ck cB
      go_wp2_with fail
      refine C2.out.mono ?_
      rintro e w5 ⟨v5, rfl, hown5, hb5⟩
      obtain ⟨A5, c5, rfl, hr5, h51, h52⟩ := own_rd (B := 0) hown5
      have cS := sameInts_any A4 A5 c4 c5 la la w5 ((K4.out.1.below hb5).more hb5.size) hr5 (by omega) (by omega)
      rw [decide_eq_true rfl] at cS
      have CS := Lib.hid cS
      have hb5' := Lib.hid (K4.out.2.trans (hb5.mono K4.out.2.size))
      have hee : ((ea : Int) != ea) = false := by simp
      clear hown5 hb5 hr5 C2 cS K4 ck4
      go_wp2_with fail
      refine CS.out.mono ?_
      rintro e w6 ⟨rfl, hb6⟩
      go_wp2_with fail
      exact ⟨⟨k + 1, by omega, by go_num, hb5'.out.trans (hb6.mono hb5'.out.size)⟩, by simp [intOf]; omega⟩
    · obtain rfl : k = 4 := by omega
      have hb2 := K3.out.2.trans (hb.mono K3.out.2.size)
      have cL := lives_any wr (B1.out.2.below hb2)
      have BF := Lib.hid (B1.out.1.trans (hb2.mono B1.out.1.size))
      have CLv := Lib.hid cL
      clear cL hb2
      go_wp2_with fail
      refine CLv.out.mono ?_
      rintro e w10 ⟨rfl, b10⟩
      go_wp2_with fail
      go_ret
      exact ⟨rfl, BF.out.trans (b10.mono BF.out.size)⟩
end Go.Proofs.YtcmepgjbplpnbaaDoor
end

