import Derived.Test.YtcmepgjbplpnbaaDoorJHashRa
import Derived.Test.YtcmepgjbplpnbaaDoorJSnoc
import Derived.Test.YtcmepgjbplpnbaaDoorJWireRd1

section
/- The contracts of the reference's Short and Of. -/



namespace Go.Proofs.YtcmepgjbplpnbaaDoor
open Go.RowKit
set_option linter.unusedVariables false
set_option maxRecDepth 100000

/-- While a digest is filled: the result's variable, the hash, the digest. -/
def Sho (w : World) (Zd : List Value) (V O : Nat) (R : List Value) (g : List UInt8) (k : Nat) (wr : World) : Prop :=
  Blk wr w.heap.size Zd 55 ∧ Blk wr V R 73 ∧ Blk wr O ((g.take k).map bv ++ List.replicate (16 - k) (bv 0)) 55 ∧ Below w.heap.size w wr

set_option maxRecDepth 100000 in
set_option maxHeartbeats 4000000 in
theorem refShort_any (A : Option Addr) (cap : Nat) (l : List UInt8) (w : World) (hr : RdB w w.heap.size A l) (hl : l.length ≤ 100000000) (hR : RTab w) :
    Calls Tryd.prog 60 #[.slice A l.length cap] w fun e w' => e = .returned (.agg (((H.sha l).take 16).map bv).toArray) ∧ Below w.heap.size w w' := by
  obtain ⟨hz, -⟩ := zero_of_info sum_zero
  obtain ⟨hzd, -⟩ := zero_of_info dig_zero
  obtain ⟨Z, hZ⟩ : ∃ Z, Z = (H.zeros 32).map bv := ⟨_, rfl⟩
  obtain ⟨Zd, hZd⟩ : ∃ Zd, Zd = (H.zeros 16).map bv := ⟨_, rfl⟩
  rw [← hZ] at hz
  rw [← hZd] at hzd
  have lZ : Z.length = 32 := by rw [hZ, List.length_map, H.zeros_len]
  have lZd : Zd.length = 16 := by rw [hZd, List.length_map, H.zeros_len]
  have yZ := size_dig lZd
  have oZ : Zd.toArray.all (·.oneCell') = true := all_oneCell_toArray (by rw [hZd]; exact bytes_one _)
  obtain ⟨g, hg⟩ : ∃ g, g = H.sha l := ⟨_, rfl⟩
  obtain ⟨R, hRR⟩ : ∃ R, R = g.map bv := ⟨_, rfl⟩
  have hgl : g.length = 32 := by rw [hg, H.sha_len]
  have lR : R.length = 32 := by rw [hRR, List.length_map, hgl]
  have yR := size_sum lR
  have oR : R.toArray.all (·.oneCell') = true := all_oneCell_toArray (by rw [hRR]; exact bytes_one _)
  obtain ⟨W0, hW0⟩ : ∃ W0, W0 = w.alloc (.cells Zd.toArray 55) := ⟨_, rfl⟩
  have hb0 : Below w.heap.size w W0 := by rw [hW0]; exact (Below.refl _ _).alloc (Nat.le_refl _) _
  have hk0 : Blk W0 w.heap.size Zd 55 := by rw [hW0]; exact Blk.new w _ _
  have cS := refSum_any A cap l W0 ((hr.below hb0).more hb0.size) hl (hR.below hb0 (Nat.le_refl _))
  rw [← hg, ← hRR] at cS
  rw [← hg]
  obtain ⟨n, hn⟩ : ∃ n, n = l.length := ⟨_, rfl⟩
  rw [← hn] at cS ⊢
  have CS := Lib.hid cS
  have HW0 := Lib.hid hW0
  have K0 := Lib.hid (And.intro hk0 hb0)
  have LL := Lib.hid (And.intro lZ (And.intro lZd (And.intro lR hgl)))
  have YY := Lib.hid (And.intro yZ yR)
  have HRR := Lib.hid hRR
  have HZd := Lib.hid hZd
  clear hZ hZd lZ lZd yZ hg hRR hgl lR yR hW0 hb0 hk0 cS hr hR hn hl
  go_enter Tryd.func60, Tryd.ntmps60
  go_wp2_with fail
  rw [← HW0.out]
  refine CS.out.mono ?_
  rintro e w1 ⟨rfl, hb1⟩
  obtain ⟨w2, hW2, t2, d2, e2⟩ := row_new w1 73 32 Z R LL.out.1 LL.out.2.2.1
  have K2 := Lib.hid (And.intro (K0.out.1.below (hb1.trans (e2.mono hb1.size)) K0.out.1.lt) (And.intro d2 (K0.out.2.trans ((hb1.trans (e2.mono hb1.size)).mono K0.out.2.size))))
  obtain ⟨V, hV⟩ : ∃ V, V = w1.heap.size := ⟨_, rfl⟩
  have hVlt : w.heap.size < V := by rw [hV]; exact Nat.lt_of_lt_of_le K0.out.1.lt hb1.size
  have HW2 := Lib.hid hW2
  have T2 := Lib.hid t2
  clear hW2 t2 d2 e2 hb1
  obtain ⟨w3, hW3, t3, d3, e3⟩ := row_new w2 55 16 Zd Zd LL.out.2.1 LL.out.2.1
  rw [← hV] at K2
  have hVO : V < w2.heap.size := K2.out.2.1.lt
  obtain ⟨O, hO⟩ : ∃ O, O = w2.heap.size := ⟨_, rfl⟩
  have hS : Sho w Zd V O R g 0 w3 := ⟨K2.out.1.below e3 K2.out.1.lt, K2.out.2.1.below e3 K2.out.2.1.lt, by rw [hO]; rw [show ((g.take 0).map bv ++ List.replicate (16 - 0) (bv 0)) = Zd by rw [HZd.out]; rfl]; exact d3, K2.out.2.2.trans (e3.mono K2.out.2.2.size)⟩
  have HS := Lib.hid hS
  have HW3 := Lib.hid hW3
  have T3 := Lib.hid t3
  have HO := Lib.hid (And.intro hO (show V < O by rw [hO]; exact hVO))
  have HV := Lib.hid (And.intro hV hVlt)
  clear hW3 t3 d3 e3 hS hO hVO hV hVlt K2 K0
  go_wp2_with (first | (refine wpList_store_mid rfl 73 (.tmp 3) (.tmp 7) rfl w1.heap.size 0 R.toArray rfl rfl T2.out YY.out.2 oR ?_; rw [← HW2.out]) | (refine wpList_store_mid rfl 55 (.tmp 4) (.tmp 8) rfl w2.heap.size 0 Zd.toArray rfl rfl T3.out YY.out.1 oZ ?_; rw [← HW3.out]))
  rw [← HV.out.1, ← HO.out.1]
  go_loopw [5] (fun i wr => ∃ k : Nat, k ≤ 16 ∧ i = .int .i64 k ∧ Sho w Zd V O R g k wr) (fun i _ => 16 - (intOf i).toNat)
  case atStart => exact ⟨0, Nat.zero_le _, rfl, HS.out⟩
  case round =>
    clear HS
    obtain ⟨k, hk, rfl, hS⟩ := hrel
    have hVO := HO.out.2
    have hVw := HV.out.2
    by_cases hlt : k < 16
    · obtain ⟨x, hx⟩ : ∃ x, x = g.getD k 0 := ⟨_, rfl⟩
      have gx : wr.cell? ⟨V, k, none⟩ = some (.int .u8 (x.toNat : Int)) := hS.2.1.cell k (bv x) (by rw [HRR.out, List.getElem?_map, getD_at g k 0 (by rw [LL.out.2.2.2]; omega), hx]; rfl)
      have hll : ((g.take k).map bv).length = k := by rw [List.length_map, List.length_take, LL.out.2.2.2]; omega
      have g1 : wr.cell? ⟨O, k, none⟩ = some (bv 0) := hS.2.2.1.cell k _ (fill_at _ k 16 _ hll hlt)
      have f1 : wr.frozen? ⟨O, k, none⟩ = false := hS.2.2.1.frozen _
      have hW2 := hS.2.2.1.set k (bv x)
      rw [fill_set _ k 16 _ _ hll hlt, show (g.take k).map bv ++ [bv x] = (g.take (k + 1)).map bv from by rw [take_snoc g k (by rw [LL.out.2.2.2]; omega), List.map_append, hx]; rfl] at hW2
      have hS2 : Sho w Zd V O R g (k + 1) (wr.setCell ⟨O, k, none⟩ (bv x)) := ⟨hS.1.other _ _ (by show _ ≠ O; omega), hS.2.1.other _ _ (by show _ ≠ O; omega), hW2, hS.2.2.2.setCell (by show _ ≤ O; omega) _⟩
      have K2 := Lib.hid hS2
      have ik : (k : Int) < 16 := by omega
      have ik0 : (0 : Int) ≤ k := by omega
      have ik2 : (k : Int) < 32 := by omega
      clear hx hll hW2 hS2 hS hVO hVw
      go_wp2_with fail
      exact ⟨⟨k + 1, by omega, by go_num, K2.out⟩, by simp [intOf]; omega⟩
    · have hk16 : k = 16 := by omega
      rw [hk16] at hS
      obtain ⟨D, hD⟩ : ∃ D, D = (g.take 16).map bv := ⟨_, rfl⟩
      have hW := hS.2.2.1
      rw [show List.replicate (16 - 16) (bv 0) = [] from rfl, List.append_nil, ← hD] at hW
      have lD : D.length = 16 := by rw [hD, List.length_map, List.length_take, LL.out.2.2.2]; rfl
      have y := size_dig lD
      have o2 : D.toArray.all (·.oneCell') = true := all_oneCell_toArray (by rw [hD]; exact bytes_one _)
      have t1 : wr.there w.heap.size 0 D.toArray.size := hS.1.there 0 _ (by rw [List.size_toArray, lD, LL.out.2.1]; omega)
      have d1 := hS.1.whole D (by rw [lD, LL.out.2.1])
      have hb3 : Below w.heap.size w (wr.setCells w.heap.size 0 D) := below_setCells _ (by omega) _ _ _ hS.2.2.2
      have ge : (16 : Int) ≤ k := by omega
      have HD := Lib.hid hD
      have HhW := Lib.hid hW
      have T1 := Lib.hid t1
      have Y := Lib.hid y
      have D1 := Lib.hid d1
      have B3 := Lib.hid hb3
      clear hk16 hD hW lD y t1 d1 hb3 hS hVO hVw
      go_wp2_with (first | (refine wpList_load_row rfl 55 (.tmp 4) rfl O rfl _ D.toArray (0, 0) _ HhW.out Tryd.underlying55 rfl Y.out ?_) | (refine wpList_store_mid rfl 55 (.tmp 2) (.tmp 18) rfl w.heap.size 0 D.toArray rfl rfl T1.out Y.out o2 ?_))
      refine bodyPost_ret (results_cell_row rfl _ _ w.heap.size 55 _ (0, 0) _ rfl D1.out Tryd.underlying55 rfl Y.out) rfl ⟨?_, B3.out⟩
      rw [HD.out]

set_option maxRecDepth 100000 in
set_option maxHeartbeats 4000000 in
theorem refOf_upto (tag : Int) (A : Option Addr) (cap : Nat) (parts : List ByteArray) (w : World) (hr : Rd w w.heap.size A (parts.map sv)) (hn : parts.length ≤ 12) (hs : ∀ s ∈ parts, s.size ≤ 2000) (hR : RTab w) :
    Calls Tryd.prog 54 #[.int .i64 tag, .slice A parts.length cap] w fun e w' => e = .returned (.agg ((dig tag parts).map bv).toArray) ∧ Below w.heap.size w w' := by
  obtain ⟨hzd, -⟩ := zero_of_info dig_zero
  obtain ⟨Zd, hZd⟩ : ∃ Zd, Zd = (H.zeros 16).map bv := ⟨_, rfl⟩
  rw [← hZd] at hzd
  have lZd : Zd.length = 16 := by rw [hZd, List.length_map, H.zeros_len]
  obtain ⟨D, hD⟩ : ∃ D, D = (dig tag parts).map bv := ⟨_, rfl⟩
  have lD : D.length = 16 := by rw [hD, List.length_map, dig_len]
  have yD := size_dig lD
  have oD : D.toArray.all (·.oneCell') = true := all_oneCell_toArray (by rw [hD]; exact bytes_one _)
  rw [← hD]
  obtain ⟨W0, hW0⟩ : ∃ W0, W0 = w.alloc (.cells Zd.toArray 55) := ⟨_, rfl⟩
  have hb0 : Below w.heap.size w W0 := by rw [hW0]; exact (Below.refl _ _).alloc (Nat.le_refl _) _
  have hk0 : Blk W0 w.heap.size Zd 55 := by rw [hW0]; exact Blk.new w _ _
  have cI := input_upto tag A cap parts W0 ((hr.below hb0).more hb0.size) hn hs
  have hli : (inp tag parts).length ≤ 26000 := by have h := inp_len_upto tag parts hn hs parts.length; rwa [pre_full] at h
  obtain ⟨l, hl⟩ : ∃ l, l = inp tag parts := ⟨_, rfl⟩
  have hdl : dig tag parts = (H.sha l).take 16 := by rw [hl]; rfl
  rw [← hl] at cI hli
  obtain ⟨n, hnn⟩ : ∃ n, n = parts.length := ⟨_, rfl⟩
  rw [← hnn] at cI ⊢
  have CI := Lib.hid cI
  have HW0 := Lib.hid hW0
  have K0 := Lib.hid (And.intro hk0 hb0)
  have LL := Lib.hid (And.intro lZd (And.intro lD hli))
  have YD := Lib.hid yD
  have HD := Lib.hid (And.intro hD hdl)
  have HR := Lib.hid hR
  clear hZd lZd hD lD yD hW0 hb0 hk0 cI hli hl hdl hnn hr hs hR hn
  go_enter Tryd.func54, Tryd.ntmps54
  go_wp2_with fail
  rw [← HW0.out]
  refine CI.out.mono ?_
  rintro e w1 ⟨v1, rfl, hown, hb1⟩
  obtain ⟨A1, c1, rfl, hr1, -, -⟩ := own_rd (B := 0) hown
  have hk1 := K0.out.1.below hb1 K0.out.1.lt
  have hb1' := K0.out.2.trans (hb1.mono K0.out.2.size)
  have cS := refShort_any A1 c1 l w1 hr1 (by have := LL.out.2.2; omega) (HR.out.below hb1' (Nat.le_refl _))
  rw [← HD.out.2, ← HD.out.1] at cS
  have CS := Lib.hid cS
  have K1 := Lib.hid (And.intro hk1 hb1')
  clear hown hr1 hb1 cS hk1 hb1' CI K0
  go_wp2_with fail
  refine CS.out.mono ?_
  rintro e w2 ⟨rfl, hb2⟩
  have hk2 := K1.out.1.below hb2 K1.out.1.lt
  have hb2' := K1.out.2.trans (hb2.mono K1.out.2.size)
  have t1 : w2.there w.heap.size 0 D.toArray.size := hk2.there 0 _ (by rw [List.size_toArray, LL.out.2.1, LL.out.1]; omega)
  have d1 := hk2.whole D (by rw [LL.out.2.1, LL.out.1])
  have hb3 : Below w.heap.size w (w2.setCells w.heap.size 0 D) := below_setCells _ (Nat.le_refl _) _ _ _ hb2'
  have T1 := Lib.hid t1
  have D1 := Lib.hid d1
  have B3 := Lib.hid hb3
  clear hk2 hb2' hb2 t1 d1 hb3 K1 CS
  go_wp2_with (refine wpList_store_mid rfl 55 (.tmp 4) (.tmp 8) rfl w.heap.size 0 D.toArray rfl rfl T1.out YD.out oD ?_)
  refine bodyPost_ret (results_cell_row rfl _ _ w.heap.size 55 _ (0, 0) _ rfl D1.out Tryd.underlying55 rfl YD.out) rfl ⟨rfl, B3.out⟩
theorem refOf_any (tag : Int) (A : Option Addr) (cap : Nat) (parts : List ByteArray) (w : World) (hr : Rd w w.heap.size A (parts.map sv)) (hn : parts.length ≤ 12) (hs : ∀ s ∈ parts, s.size ≤ 400) (hR : RTab w) :
    Calls Tryd.prog 54 #[.int .i64 tag, .slice A parts.length cap] w fun e w' => e = .returned (.agg ((dig tag parts).map bv).toArray) ∧ Below w.heap.size w w' :=
  refOf_upto tag A cap parts w hr hn (fun s h => Nat.le_trans (hs s h) (by omega)) hR
end Go.Proofs.YtcmepgjbplpnbaaDoor
end

