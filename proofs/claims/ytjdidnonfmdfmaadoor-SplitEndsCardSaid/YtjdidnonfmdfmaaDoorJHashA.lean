import Derived.Test.YtjdidnonfmdfmaaDoorJHashBlk

section
/- The contract of hash.schedule. -/

namespace Go.Proofs.YtjdidnonfmdfmaaDoor
open Go.RowKit
set_option linter.unusedVariables false

/-- While the words of a block are made: the result's variable, the words' (filled from the head). -/
def Sch (w : World) (R V : Nat) (xs : List H.W) (wr : World) : Prop :=
  Blk wr R (List.replicate 64 (wv 0)) 101 ∧ Blk wr V (xs.map wv ++ List.replicate (64 - xs.length) (wv 0)) 101 ∧ R ≠ V ∧ w.heap.size ≤ R ∧ w.heap.size ≤ V ∧ Below w.heap.size w wr
section
variable {w wr : World} {R V : Nat} {xs : List H.W}
theorem Sch.drew (h : Sch w R V xs wr) : Sch w R V xs wr.drew := ⟨h.1.drew, h.2.1.drew, h.2.2.1, h.2.2.2.1, h.2.2.2.2.1, h.2.2.2.2.2.drew⟩
theorem Sch.drewN (h : Sch w R V xs wr) (n : Nat) : Sch w R V xs (wr.drewN n) := ⟨h.1.drewN n, h.2.1.drewN n, h.2.2.1, h.2.2.2.1, h.2.2.2.2.1, drewN_below h.2.2.2.2.2 n⟩
theorem Sch.cell (h : Sch w R V xs wr) (j : Nat) (hj : j < xs.length) : wr.cell? ⟨V, j, none⟩ = some (.int .u32 (nv (H.wat xs j))) :=
  h.2.1.cell j (wv (H.wat xs j)) (by rw [List.getElem?_append_left (by simpa using hj), List.getElem?_map, getD_at xs j 0 hj]; rfl)
theorem Sch.blank (h : Sch w R V xs wr) (n : Nat) (hn : xs.length = n) (hj : n < 64) : wr.cell? ⟨V, n, none⟩ = some (wv 0) ∧ wr.frozen? ⟨V, n, none⟩ = false := by
  subst hn
  exact ⟨h.2.1.cell _ _ (fill_at _ _ 64 _ (by simp) hj), h.2.1.frozen _⟩
theorem Sch.set (h : Sch w R V xs wr) (n : Nat) (hn : xs.length = n) (hj : n < 64) (v : H.W) : Sch w R V (xs ++ [v]) (wr.setCell ⟨V, n, none⟩ (.int .u32 (nv v))) := by
  subst hn
  obtain ⟨h1, h2, h3, h4, h5, h6⟩ := h
  refine ⟨h1.other _ _ h3, ?_, h3, h4, h5, h6.setCell h5 _⟩
  have := h2.set xs.length (wv v)
  rw [fill_set _ _ 64 _ _ (by simp) hj] at this
  rw [List.map_append, List.length_append]
  exact this
theorem Sch.full (h : Sch w R V xs wr) (hx : xs.length = 64) : Blk wr V (xs.map wv) 101 := by
  have := h.2.1
  rw [hx] at this
  simpa using this
end

set_option maxRecDepth 100000 in
set_option maxHeartbeats 1000000 in
theorem schedule_any (b : List UInt8) (w : World) (hb : b.length = 64) :
    Calls Tryd.prog 72 #[.agg (b.map bv).toArray] w fun e w' => e = .returned (.agg ((H.sched b).map wv).toArray) ∧ Below w.heap.size w w' := by
  have Hb := Lib.hid hb
  clear hb
  obtain ⟨Bs, hBs⟩ : ∃ Bs, Bs = b.map bv := ⟨_, rfl⟩
  rw [← hBs]
  have HBs := Lib.hid hBs
  clear hBs
  go_enter Tryd.func72, Tryd.ntmps72
  go_wp2_with fail
  go_loopw [8] (fun i wr => ∃ k : Nat, k ≤ 16 ∧ i = .int .i64 k ∧ Blk wr w.heap.size Bs 83 ∧ Sch w (w.heap.size + 1) (w.heap.size + 1 + 1) (H.first b k) wr) (fun i _ => 16 - (intOf i).toNat)
  case atStart =>
    refine ⟨0, by omega, rfl, ((Blk.new w _ _).alloc _).alloc _, ?_, ?_, by omega, by omega, by omega, (((Below.refl _ _).alloc (Nat.le_refl _) _).alloc (by simp only [World.size_alloc]; omega) _).alloc (by simp only [World.size_alloc]; omega) _⟩
    · have := (Blk.new (w.alloc (Obj.cells Bs.toArray 83)) (List.replicate 64 (wv 0)) 101).alloc (Obj.cells (List.replicate 64 (wv 0)).toArray 101)
      simp only [World.size_alloc] at this
      exact this
    · have := Blk.new ((w.alloc (Obj.cells Bs.toArray 83)).alloc (Obj.cells (List.replicate 64 (wv 0)).toArray 101)) (List.replicate 64 (wv 0)) 101
      simp only [World.size_alloc] at this
      exact this
  case round =>
    obtain ⟨k, hk, rfl, hB, hS⟩ := hrel
    by_cases hlt : k < 16
    · have hbl := Hb.out
      obtain ⟨j0, q0⟩ : ∃ j, j = 4 * k := ⟨_, rfl⟩
      obtain ⟨j1, q1⟩ : ∃ j, j = 4 * k + 1 := ⟨_, rfl⟩
      obtain ⟨j2, q2⟩ : ∃ j, j = 4 * k + 2 := ⟨_, rfl⟩
      obtain ⟨j3, q3⟩ : ∃ j, j = 4 * k + 3 := ⟨_, rfl⟩
      obtain ⟨x0, e0⟩ : ∃ x, x = b.getD j0 0 := ⟨_, rfl⟩
      obtain ⟨x1, e1⟩ : ∃ x, x = b.getD j1 0 := ⟨_, rfl⟩
      obtain ⟨x2, e2⟩ : ∃ x, x = b.getD j2 0 := ⟨_, rfl⟩
      obtain ⟨x3, e3⟩ : ∃ x, x = b.getD j3 0 := ⟨_, rfl⟩
      have c0 : wr.cell? ⟨w.heap.size, j0, none⟩ = some (.int .u8 (x0.toNat : Int)) := hB.cell j0 (bv x0) (by rw [HBs.out, List.getElem?_map, getD_at b j0 0 (by omega), e0]; rfl)
      have c1 : wr.cell? ⟨w.heap.size, j1, none⟩ = some (.int .u8 (x1.toNat : Int)) := hB.cell j1 (bv x1) (by rw [HBs.out, List.getElem?_map, getD_at b j1 0 (by omega), e1]; rfl)
      have c2 : wr.cell? ⟨w.heap.size, j2, none⟩ = some (.int .u8 (x2.toNat : Int)) := hB.cell j2 (bv x2) (by rw [HBs.out, List.getElem?_map, getD_at b j2 0 (by omega), e2]; rfl)
      have c3 : wr.cell? ⟨w.heap.size, j3, none⟩ = some (.int .u8 (x3.toNat : Int)) := hB.cell j3 (bv x3) (by rw [HBs.out, List.getElem?_map, getD_at b j3 0 (by omega), e3]; rfl)
      have w0 : IntKind.i64.wrap (4 * (k : Int)) = (j0 : Int) := by rw [i64_in _ (by omega) (by omega)]; omega
      have w1 : IntKind.i64.wrap ((j0 : Int) + 1) = (j1 : Int) := by rw [i64_in _ (by omega) (by omega)]; omega
      have w2 : IntKind.i64.wrap ((j0 : Int) + 2) = (j2 : Int) := by rw [i64_in _ (by omega) (by omega)]; omega
      have w3 : IntKind.i64.wrap ((j0 : Int) + 3) = (j3 : Int) := by rw [i64_in _ (by omega) (by omega)]; omega
      have b0 : j0 < 64 := by omega
      have d0 : (j0 : Int) < 64 := by omega
      have g0 : (0 : Int) ≤ j0 := by omega
      have b1 : j1 < 64 := by omega
      have d1 : (j1 : Int) < 64 := by omega
      have g1 : (0 : Int) ≤ j1 := by omega
      have b2 : j2 < 64 := by omega
      have d2 : (j2 : Int) < 64 := by omega
      have g2 : (0 : Int) ≤ j2 := by omega
      have b3 : j3 < 64 := by omega
      have d3 : (j3 : Int) < 64 := by omega
      have g3 : (0 : Int) ≤ j3 := by omega
      have ik : (k : Int) < 64 := by omega
      have ik0 : (0 : Int) ≤ k := by omega
      have H_hS := Lib.hid hS
      clear hS
      have H_hB := Lib.hid hB
      clear hB
      have H_hbl := Lib.hid hbl
      clear hbl
      have H_q0 := Lib.hid q0
      clear q0
      have H_q1 := Lib.hid q1
      clear q1
      have H_q2 := Lib.hid q2
      clear q2
      have H_q3 := Lib.hid q3
      clear q3
      have H_e0 := Lib.hid e0
      clear e0
      have H_e1 := Lib.hid e1
      clear e1
      have H_e2 := Lib.hid e2
      clear e2
      have H_e3 := Lib.hid e3
      clear e3
      go_wp2_with fail
      have r1 := wbyte
      have r2 := wshl24
      have r3 := wshl16
      have r4 := wshl8
      have r5 := wor
      go_still_tail 31, (by kernel_rfl)
      clear r1 r2 r3 r4 r5 c0 c1 c2 c3
      obtain ⟨w2, hw2⟩ : ∃ w2, w2 = wr.drew := ⟨_, rfl⟩
      change wpList _ _ _ _ _ wr.drew
      rw [← hw2]
      have hB2 : Blk w2 w.heap.size Bs 83 := by rw [hw2]; exact H_hB.out.drew
      have hS2 : Sch w (w.heap.size + 1) (w.heap.size + 1 + 1) (H.first b k) w2 := by rw [hw2]; exact H_hS.out.drew
      have hword : H.word b k = H.oor (H.oor (H.oor (H.oshl (H.u x0) 24) (H.oshl (H.u x1) 16)) (H.oshl (H.u x2) 8)) (H.u x3) := by
        rw [H_e0.out, H_e1.out, H_e2.out, H_e3.out, H_q0.out, H_q1.out, H_q2.out, H_q3.out]; rfl
      obtain ⟨cs, fs⟩ := hS2.blank k (H.first_len b k) (by omega)
      have hS3 := hS2.set k (H.first_len b k) (by omega) (H.word b k)
      rw [← H.first_succ, hword] at hS3
      have K3 := Lib.hid hS3
      have KB := Lib.hid (hB2.other ⟨w.heap.size + 1 + 1, k, none⟩ (.int .u32 (nv (H.oor (H.oor (H.oor (H.oshl (H.u x0) 24) (H.oshl (H.u x1) 16)) (H.oshl (H.u x2) 8)) (H.u x3)))) (by show _ ≠ w.heap.size + 1 + 1; omega))
      clear hw2 hB2 hS2 hword hS3
      go_wp2_with fail
      go_roundw
      case rel => exact ⟨k + 1, by omega, by go_num, KB.out, K3.out⟩
      case measure => simp [intOf]; omega
    · have hk16 : k = 16 := by omega
      rw [hk16] at hS
      clear hB hk16
      have HS := Lib.hid hS
      clear hS
      go_wp2_with fail
      go_loopw [5] (fun i wr => ∃ m : Nat, m ≤ 48 ∧ i = .int .i64 ((16 + m : Nat) : Int) ∧ Sch w (w.heap.size + 1) (w.heap.size + 1 + 1) (H.ext m (H.first b 16)) wr) (fun i _ => 64 - (intOf i).toNat)
      case atStart => exact ⟨0, by omega, rfl, HS.out⟩
      case round =>
        clear HS
        obtain ⟨m, hm, rfl, hS⟩ := hrel
        obtain ⟨t, ht⟩ : ∃ t, t = 16 + m := ⟨_, rfl⟩
        rw [← ht]
        have hl : (H.ext m (H.first b 16)).length = t := by rw [H.ext_len, H.first_len, ht]
        obtain ⟨L, hL⟩ : ∃ L, L = H.ext m (H.first b 16) := ⟨_, rfl⟩
        rw [← hL] at hl hS
        by_cases hlt : t < 64
        · obtain ⟨j2, q2⟩ : ∃ j, j = t - 2 := ⟨_, rfl⟩
          obtain ⟨j7, q7⟩ : ∃ j, j = t - 7 := ⟨_, rfl⟩
          obtain ⟨j15, q15⟩ : ∃ j, j = t - 15 := ⟨_, rfl⟩
          obtain ⟨j16, q16⟩ : ∃ j, j = t - 16 := ⟨_, rfl⟩
          have w2 : IntKind.i64.wrap ((t : Int) - 2) = (j2 : Int) := by rw [i64_in _ (by omega) (by omega)]; omega
          have b2 : j2 < 64 := by omega
          have d2 : (j2 : Int) < 64 := by omega
          have g2 : (0 : Int) ≤ j2 := by omega
          have c2 := hS.cell j2 (by omega)
          obtain ⟨x2, e2⟩ : ∃ x, x = H.wat L j2 := ⟨_, rfl⟩
          rw [← e2] at c2
          have w7 : IntKind.i64.wrap ((t : Int) - 7) = (j7 : Int) := by rw [i64_in _ (by omega) (by omega)]; omega
          have b7 : j7 < 64 := by omega
          have d7 : (j7 : Int) < 64 := by omega
          have g7 : (0 : Int) ≤ j7 := by omega
          have c7 := hS.cell j7 (by omega)
          obtain ⟨x7, e7⟩ : ∃ x, x = H.wat L j7 := ⟨_, rfl⟩
          rw [← e7] at c7
          have w15 : IntKind.i64.wrap ((t : Int) - 15) = (j15 : Int) := by rw [i64_in _ (by omega) (by omega)]; omega
          have b15 : j15 < 64 := by omega
          have d15 : (j15 : Int) < 64 := by omega
          have g15 : (0 : Int) ≤ j15 := by omega
          have c15 := hS.cell j15 (by omega)
          obtain ⟨x15, e15⟩ : ∃ x, x = H.wat L j15 := ⟨_, rfl⟩
          rw [← e15] at c15
          have w16 : IntKind.i64.wrap ((t : Int) - 16) = (j16 : Int) := by rw [i64_in _ (by omega) (by omega)]; omega
          have b16 : j16 < 64 := by omega
          have d16 : (j16 : Int) < 64 := by omega
          have g16 : (0 : Int) ≤ j16 := by omega
          have c16 := hS.cell j16 (by omega)
          obtain ⟨x16, e16⟩ : ∃ x, x = H.wat L j16 := ⟨_, rfl⟩
          rw [← e16] at c16
          have hnext : H.next L = H.oadd (H.oadd (H.oadd x16 (H.oxor (H.oxor (H.rotr x15 7) (H.rotr x15 18)) (H.oshr x15 3))) x7) (H.oxor (H.oxor (H.rotr x2 17) (H.rotr x2 19)) (H.oshr x2 10)) := by
            rw [e2, e7, e15, e16, q2, q7, q15, q16, ← hl]; rfl
          have it : (t : Int) < 64 := by omega
          have t16 : 16 ≤ t := by omega
          have it0 : (0 : Int) ≤ t := by omega
          have H_hS := Lib.hid hS
          clear hS
          have H_hL := Lib.hid hL
          clear hL
          have H_hl := Lib.hid hl
          clear hl
          have H_ht := Lib.hid ht
          clear ht
          have H_hnext := Lib.hid hnext
          clear hnext
          have H_q2 := Lib.hid q2
          clear q2
          have H_q7 := Lib.hid q7
          clear q7
          have H_q15 := Lib.hid q15
          clear q15
          have H_q16 := Lib.hid q16
          clear q16
          have H_e2 := Lib.hid e2
          clear e2
          have H_e7 := Lib.hid e7
          clear e7
          have H_e15 := Lib.hid e15
          clear e15
          have H_e16 := Lib.hid e16
          clear e16
          go_wp2_with fail
          have r1 := wxor
          have r2 := wshr3
          go_quiet ((go_at_call 73; exact quiet_left (rotr_z _ _ _ (by omega) (by omega))))
          clear r1 r2 c2 c7 c15 c16
          obtain ⟨wa, hwa⟩ : ∃ wa, wa = wr.drewN nq := ⟨_, rfl⟩
          rw [← hwa]
          have hSa : Sch w (w.heap.size + 1) (w.heap.size + 1 + 1) L wa := by rw [hwa]; exact H_hS.out.drewN nq
          clear hwa H_hS
          have c2 : wa.cell? ⟨w.heap.size + 1 + 1, j2, none⟩ = some (.int .u32 (nv x2)) := by rw [H_e2.out]; exact hSa.cell j2 (by have := H_hl.out; have := H_q2.out; omega)
          have H_hSa := Lib.hid hSa
          clear hSa
          go_wp2_with fail
          have r1 := wxor
          have r2 := wshr10
          go_quiet ((go_at_call 73; exact quiet_left (rotr_z _ _ _ (by omega) (by omega))))
          clear r1 r2 c2
          obtain ⟨wb, hwb⟩ : ∃ wb, wb = wa.drewN nq := ⟨_, rfl⟩
          rw [← hwb]
          have hSb : Sch w (w.heap.size + 1) (w.heap.size + 1 + 1) L wb := by rw [hwb]; exact H_hSa.out.drewN nq
          clear hwb H_hSa
          have c7 : wb.cell? ⟨w.heap.size + 1 + 1, j7, none⟩ = some (.int .u32 (nv x7)) := by rw [H_e7.out]; exact hSb.cell j7 (by have := H_hl.out; have := H_q7.out; omega)
          have c16 : wb.cell? ⟨w.heap.size + 1 + 1, j16, none⟩ = some (.int .u32 (nv x16)) := by rw [H_e16.out]; exact hSb.cell j16 (by have := H_hl.out; have := H_q16.out; omega)
          have H_hSb := Lib.hid hSb
          clear hSb
          go_wp2_with fail
          have r1 := wadd
          go_still_tail 15, (by kernel_rfl)
          clear r1 c7 c16
          obtain ⟨wc, hwc⟩ : ∃ wc, wc = wb.drew := ⟨_, rfl⟩
          change wpList _ _ _ _ _ wb.drew
          rw [← hwc]
          have hSc : Sch w (w.heap.size + 1) (w.heap.size + 1 + 1) L wc := by rw [hwc]; exact H_hSb.out.drew
          obtain ⟨cs, fs⟩ := hSc.blank t H_hl.out (by omega)
          have hS3 := hSc.set t H_hl.out (by omega) (H.next L)
          rw [H_hnext.out] at hS3
          have K3 := Lib.hid hS3
          clear hwc hSc hS3 H_hSb
          go_wp2_with fail
          go_roundw
          case rel =>
            refine ⟨m + 1, by have := H_ht.out; omega, ?_, ?_⟩
            · rw [show 16 + (m + 1) = t + 1 by have := H_ht.out; omega]; go_num
            · rw [H.ext_succ, ← H_hL.out, H_hnext.out]; exact K3.out
          case measure => simp [intOf]; omega
        · have hx : L.length = 64 := by omega
          have hsc : L = H.sched b := by rw [hL, show m = 48 by omega]; rfl
          have hF := hS.full hx
          obtain ⟨X, hX⟩ : ∃ X, X = L.map wv := ⟨_, rfl⟩
          rw [← hX] at hF
          have hXl : X.length = 64 := by rw [hX, List.length_map, hx]
          have hXc : X.toArray.all (·.oneCell') = true := all_oneCell_toArray (by rw [hX]; exact words_cells L)
          have hsz : (Tryd.prog.info? 101).map (·.size) = some X.toArray.size := by rw [List.size_toArray, hXl]; kernel_rfl
          have hth : wr.there (w.heap.size + 1) 0 X.toArray.size := hS.1.there 0 _ (by rw [List.size_toArray, hXl, List.length_replicate]; omega)
          have hres : Blk (wr.setCells (w.heap.size + 1) 0 X) (w.heap.size + 1) X 101 := hS.1.whole X (by rw [hXl, List.length_replicate])
          have hbel : Below w.heap.size w (wr.setCells (w.heap.size + 1) 0 X) := below_setCells _ (by omega) _ _ _ hS.2.2.2.2.2
          have hfin : X = (H.sched b).map wv := by rw [hX, hsc]
          have t64 : 64 ≤ t := by omega
          have KR := Lib.hid hres
          have KF := Lib.hid hfin
          clear hx hsc hX hXl hS hres hfin ht hl hL hlt
          go_wp2_with (first | (refine wpList_load_row rfl 101 (.tmp 3) rfl (w.heap.size + 1 + 1) rfl 101 X.toArray (0, 0) _ hF Tryd.underlying101 rfl hsz ?_) | (refine wpList_store_mid rfl 101 (.tmp 2) (.tmp 96) rfl (w.heap.size + 1) 0 X.toArray rfl rfl hth hsz hXc ?_))
          refine bodyPost_ret (results_cell_row rfl _ _ (w.heap.size + 1) 101 X.toArray (0, 0) _ rfl KR.out Tryd.underlying101 rfl hsz) rfl ⟨?_, hbel⟩
          rw [KF.out]
end Go.Proofs.YtjdidnonfmdfmaaDoor
end

