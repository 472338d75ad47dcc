import Derived.Test.YtjdidnonfmdfmaaDoorJHashA

section
/- The contract of hash.compress. -/

namespace Go.Proofs.YtjdidnonfmdfmaaDoor
open Go.RowKit
set_option linter.unusedVariables false

/-- The round constants lie in memory. -/
def HTab (w : World) : Prop := ∀ k, k < 64 → w.cell? ⟨0, k, none⟩ = some (.int .u32 (nv (H.K k)))
theorem HTab.lt {w : World} (h : HTab w) : 0 < w.heap.size := block_lt_of_cell (h 0 (by omega))
theorem HTab.below {w w' : World} {B : Nat} (h : HTab w) (hb : Below B w w') (hB : w.heap.size ≤ B) : HTab w' := fun k hk =>
  (hb.cell (p := ⟨0, k, none⟩) (by have := h.lt; show 0 < B; omega)).trans (h k hk)

/-- While a block is compressed. -/
def Cmp (w : World) (s : H.St) (V : Nat) (X : List H.W) (wr : World) : Prop :=
  Blk wr w.heap.size (s.words.map wv) 82 ∧ Blk wr (w.heap.size + 2) (List.replicate 8 (wv 0)) 82 ∧ Blk wr V (X.map wv) 101 ∧ Below w.heap.size w wr
section
variable {w wr : World} {s : H.St} {V : Nat} {X : List H.W}
theorem Cmp.drewN (h : Cmp w s V X wr) (n : Nat) : Cmp w s V X (wr.drewN n) := ⟨h.1.drewN n, h.2.1.drewN n, h.2.2.1.drewN n, drewN_below h.2.2.2 n⟩
theorem Cmp.word (h : Cmp w s V X wr) (j : Nat) (hj : j < X.length) : wr.cell? ⟨V, j, none⟩ = some (.int .u32 (nv (H.wat X j))) :=
  h.2.2.1.cell j (wv (H.wat X j)) (by rw [List.getElem?_map, getD_at X j 0 hj]; rfl)
end

set_option maxRecDepth 100000 in
set_option maxHeartbeats 1000000 in
theorem compress_any (s : H.St) (b : List UInt8) (w : World) (hb : b.length = 64) (ht : HTab w) :
    Calls Tryd.prog 69 #[.agg (s.words.map wv).toArray, .agg (b.map bv).toArray] w fun e w' => e = .returned (.agg ((H.compress s b).words.map wv).toArray) ∧ Below w.heap.size w w' := by
  have Ht := Lib.hid ht
  obtain ⟨Bs, hBs⟩ : ∃ Bs, Bs = b.map bv := ⟨_, rfl⟩
  obtain ⟨Ss, hSs⟩ : ∃ Ss, Ss = s.words.map wv := ⟨_, rfl⟩
  obtain ⟨X, hX⟩ : ∃ X, X = H.sched b := ⟨_, rfl⟩
  obtain ⟨Xs, hXs⟩ : ∃ Xs, Xs = X.map wv := ⟨_, rfl⟩
  have hXl : X.length = 64 := by rw [hX]; exact H.sched_len b
  have hcall := fun W => schedule_any b W hb
  rw [← hBs, ← hX, ← hXs] at hcall
  rw [← hBs, ← hSs]
  have hBl : Bs.length = 64 := by rw [hBs, List.length_map, hb]
  have hXsl : Xs.length = 64 := by rw [hXs, List.length_map, hXl]
  have hsz : (Tryd.prog.info? 83).map (·.size) = some Bs.toArray.size := by rw [List.size_toArray, hBl]; kernel_rfl
  have hsx : (Tryd.prog.info? 101).map (·.size) = some Xs.toArray.size := by rw [List.size_toArray, hXsl]; kernel_rfl
  have hXc : Xs.toArray.all (·.oneCell') = true := all_oneCell_toArray (by rw [hXs]; exact words_cells X)
  obtain ⟨W0, hW0⟩ : ∃ W0, W0 = ((w.alloc (.cells Ss.toArray 82)).alloc (.cells Bs.toArray 83)).alloc (.cells #[.int .u32 0, .int .u32 0, .int .u32 0, .int .u32 0, .int .u32 0, .int .u32 0, .int .u32 0, .int .u32 0] 82) := ⟨_, rfl⟩
  have hb0 : Blk W0 w.heap.size Ss 82 := by rw [hW0]; exact ((Blk.new w _ _).alloc _).alloc _
  have hb1 : Blk W0 (w.heap.size + 1) Bs 83 := by
    have := (Blk.new (w.alloc (.cells Ss.toArray 82)) Bs 83).alloc (.cells (List.replicate 8 (wv 0)).toArray 82)
    simp only [World.size_alloc] at this
    rw [hW0]
    exact this
  have hb2 : Blk W0 (w.heap.size + 2) (List.replicate 8 (wv 0)) 82 := by
    have := Blk.new ((w.alloc (.cells Ss.toArray 82)).alloc (.cells Bs.toArray 83)) (List.replicate 8 (wv 0)) 82
    simp only [World.size_alloc] at this
    rw [hW0]
    exact this
  have hbel0 : Below w.heap.size w W0 := by
    rw [hW0]
    exact (((Below.refl _ _).alloc (Nat.le_refl _) _).alloc (by simp only [World.size_alloc]; omega) _).alloc (by simp only [World.size_alloc]; omega) _
  have hs0 : W0.heap.size = w.heap.size + 3 := by rw [hW0]; simp only [World.size_alloc]
  have HBs := Lib.hid hBs
  have HSs := Lib.hid hSs
  have HX := Lib.hid hX
  have HXs := Lib.hid hXs
  have HXl := Lib.hid hXl
  have Hb0 := Lib.hid hb0
  have Hb1 := Lib.hid hb1
  have Hb2 := Lib.hid hb2
  have Hs0 := Lib.hid hs0
  have HW0 := Lib.hid hW0
  have HC := Lib.hid hcall
  have HXsl := Lib.hid hXsl
  clear ht hBs hSs hX hXs hXl hBl hXsl hb0 hb1 hb2 hs0 hW0 hcall
  go_enter Tryd.func69, Tryd.ntmps69
  go_wp2_with ((refine wpList_load_row rfl 83 (.tmp 3) rfl (w.heap.size + 1) rfl 83 Bs.toArray (0, 0) _ (by have := Hb1.out; rw [HW0.out] at this; exact this) Tryd.underlying83 rfl hsz ?_))
  have hcall := HC.out
  have hW0 := HW0.out
  rw [← show W0 = _ from hW0]
  refine (hcall W0).mono ?_
  clear hcall hW0 HC HW0
  rintro e w1 ⟨rfl, hbel1⟩
  have hb0 := Hb0.out.below hbel1 (by have := Hs0.out; omega)
  have hb2 := Hb2.out.below hbel1 (by have := Hs0.out; omega)
  have hsz1 : w.heap.size + 3 ≤ w1.heap.size := by have := hbel1.size; have := Hs0.out; omega
  have hbel : Below w.heap.size w w1 := hbel0.trans (hbel1.mono (by have := Hs0.out; omega))
  obtain ⟨V, hV⟩ : ∃ V, V = w1.heap.size := ⟨_, rfl⟩
  obtain ⟨W2, hW2⟩ : ∃ W2, W2 = (w1.alloc (.cells (List.replicate 64 (wv 0)).toArray 101)).setCells V 0 Xs := ⟨_, rfl⟩
  have hth : (w1.alloc (.cells (List.replicate 64 (wv 0)).toArray 101)).there w1.heap.size 0 Xs.toArray.size := (Blk.new w1 _ _).there 0 _ (by rw [List.size_toArray, HXsl.out, List.length_replicate]; omega)
  have hC : Cmp w s V X W2 := by
    rw [hW2, hV]
    refine ⟨?_, ?_, ?_, ?_⟩
    · rw [← HSs.out]; exact Blk.outside _ _ _ _ (hb0.alloc _) (by omega)
    · exact Blk.outside _ _ _ _ (hb2.alloc _) (by omega)
    · rw [← HXs.out]; exact (Blk.new w1 _ _).whole _ (by rw [HXsl.out, List.length_replicate])
    · exact below_setCells _ (by omega) _ _ _ (hbel.alloc (by omega) _)
  have HV := Lib.hid hV
  have HW2 := Lib.hid hW2
  have HCm := Lib.hid hC
  clear hb0 hb2 hbel hbel0 hbel1 hV hW2 hC Hb0 Hb1 Hb2 Hs0
  go_wp2_with (refine wpList_store_mid rfl 101 (.tmp 5) (.tmp 18) rfl w1.heap.size 0 Xs.toArray rfl rfl hth hsx hXc ?_)
  obtain ⟨va, vb, vc, vd, ve, vf, vg, vh⟩ := s
  have hW2 := HW2.out
  rw [HV.out] at hW2
  generalize hg : World.setCells _ _ _ _ = W2x
  have he : W2 = W2x := hW2.trans hg
  subst he
  have hC := HCm.out
  have hV := HV.out
  have ca : W2.cell? ⟨w.heap.size, 0, none⟩ = some (.int .u32 (nv va)) := hC.1.cell 0 _ rfl
  have cb : W2.cell? ⟨w.heap.size, 1, none⟩ = some (.int .u32 (nv vb)) := hC.1.cell 1 _ rfl
  have cc : W2.cell? ⟨w.heap.size, 2, none⟩ = some (.int .u32 (nv vc)) := hC.1.cell 2 _ rfl
  have cd : W2.cell? ⟨w.heap.size, 3, none⟩ = some (.int .u32 (nv vd)) := hC.1.cell 3 _ rfl
  have ce : W2.cell? ⟨w.heap.size, 4, none⟩ = some (.int .u32 (nv ve)) := hC.1.cell 4 _ rfl
  have cf : W2.cell? ⟨w.heap.size, 5, none⟩ = some (.int .u32 (nv vf)) := hC.1.cell 5 _ rfl
  have cg : W2.cell? ⟨w.heap.size, 6, none⟩ = some (.int .u32 (nv vg)) := hC.1.cell 6 _ rfl
  have ch : W2.cell? ⟨w.heap.size, 7, none⟩ = some (.int .u32 (nv vh)) := hC.1.cell 7 _ rfl
  rw [← hV]
  clear hg hW2 HW2 hC hV hth hXc hsx hsz
  go_quiet (fail)
  clear ca cb cc cd ce cf cg ch
  obtain ⟨wa, hwa⟩ : ∃ wa, wa = W2.drewN nq := ⟨_, rfl⟩
  rw [← hwa]
  have HCa := Lib.hid (show Cmp w ⟨va, vb, vc, vd, ve, vf, vg, vh⟩ V X wa by rw [hwa]; exact HCm.out.drewN nq)
  clear hwa HCm HV
  obtain ⟨s, hs⟩ : ∃ s : H.St, s = ⟨va, vb, vc, vd, ve, vf, vg, vh⟩ := ⟨_, rfl⟩
  have Hs := Lib.hid hs
  rw [← hs] at HCa
  clear hs
  go_wp2_with fail
  go_loopw [35, 6, 7, 8, 9, 10, 11, 12, 13] (fun i a b c d e f g h wr => ∃ (k : Nat) (r : H.St), k ≤ 64 ∧ i = .int .i64 k ∧ a = .int .u32 (nv r.a) ∧ b = .int .u32 (nv r.b) ∧ c = .int .u32 (nv r.c) ∧ d = .int .u32 (nv r.d) ∧ e = .int .u32 (nv r.e) ∧ f = .int .u32 (nv r.f) ∧ g = .int .u32 (nv r.g) ∧ h = .int .u32 (nv r.h) ∧ Hid (r = H.rounds X s k) ∧ Cmp w s V X wr) (fun i _ _ _ _ _ _ _ _ _ => 64 - (intOf i).toNat)
  case atStart => exact ⟨0, ⟨va, vb, vc, vd, ve, vf, vg, vh⟩, by omega, rfl, rfl, rfl, rfl, rfl, rfl, rfl, rfl, rfl, Lib.hid Hs.out.symm, HCa.out⟩
  case round =>
    obtain ⟨k, r, hk, rfl, rfl, rfl, rfl, rfl, rfl, rfl, rfl, rfl, Hr, hC⟩ := hrel
    by_cases hlt : k < 64
    · obtain ⟨a, b', c, d, e, f, g, h⟩ := r
      have hC' := Lib.hid hC
      have hcw := hC.word k (by have := HXl.out; omega)
      have htab : HTab wr := Ht.out.below hC.2.2.2 (Nat.le_refl _)
      have hck := htab k hlt
      obtain ⟨x, hx⟩ : ∃ x, x = H.wat X k := ⟨_, rfl⟩
      obtain ⟨y, hy⟩ : ∃ y, y = H.K k := ⟨_, rfl⟩
      rw [← hx] at hcw
      rw [← hy] at hck
      have hstep : H.step ⟨a, b', c, d, e, f, g, h⟩ y x = H.rounds X s (k + 1) := by rw [hx, hy, Hr.out]; rfl
      have Hstep := Lib.hid hstep
      have ik : (k : Int) < 64 := by omega
      have ik0 : (0 : Int) ≤ k := by omega
      clear hC htab hx hy hstep
      go_wp2_with fail
      have r1 := wxor
      have r2 := wadd
      have r3 := wand
      have r4 := wnot'
      go_quiet ((go_at_call 73; exact quiet_left (rotr_z _ _ _ (by omega) (by omega))))
      clear r1 r2 r3 r4 hck hcw
      obtain ⟨wb, hwb⟩ : ∃ wb, wb = wr.drewN nq := ⟨_, rfl⟩
      rw [← hwb]
      have HCb := Lib.hid (show Cmp w s V X wb by rw [hwb]; exact hC'.out.drewN nq)
      clear hwb hC'
      have htx : H.oadd (H.oadd (H.oadd (H.oadd h (H.oxor (H.oxor (H.rotr e 6) (H.rotr e 11)) (H.rotr e 25))) (H.oxor (H.oand e f) (H.oand (H.onot e) g))) y) x = H.tx ⟨a, b', c, d, e, f, g, h⟩ y x := rfl
      obtain ⟨TX, hTX⟩ : ∃ TX, TX = H.tx ⟨a, b', c, d, e, f, g, h⟩ y x := ⟨_, rfl⟩
      rw [← hTX] at htx
      rw [htx]
      have HTX := Lib.hid hTX
      clear htx hTX
      go_wp2_with (first | (refine (rotr_z _ _ _ (by omega) (by omega)).mono ?_; rintro e w' ⟨rfl, rfl⟩))
      refine ⟨⟨k + 1, H.step ⟨a, b', c, d, e, f, g, h⟩ y x, by omega, by go_num, ?_, rfl, rfl, rfl, ?_, rfl, rfl, rfl, Lib.hid Hstep.out, HCb.out⟩, by simp [intOf]; omega⟩
      · simp only [wxor, wand, wadd']
        rw [HTX.out]
        rfl
      · rw [wadd', HTX.out]
        rfl
    · have hk64 : r = H.rounds X s 64 := by rw [Hr.out, show k = 64 by omega]
      obtain ⟨a, b', c, d, e, f, g, h⟩ := r
      have hs := Hs.out
      rw [hs] at hC
      have ca : wr.cell? ⟨w.heap.size, 0, none⟩ = some (.int .u32 (nv va)) := hC.1.cell 0 _ rfl
      have cb : wr.cell? ⟨w.heap.size, 1, none⟩ = some (.int .u32 (nv vb)) := hC.1.cell 1 _ rfl
      have cc : wr.cell? ⟨w.heap.size, 2, none⟩ = some (.int .u32 (nv vc)) := hC.1.cell 2 _ rfl
      have cd : wr.cell? ⟨w.heap.size, 3, none⟩ = some (.int .u32 (nv vd)) := hC.1.cell 3 _ rfl
      have ce : wr.cell? ⟨w.heap.size, 4, none⟩ = some (.int .u32 (nv ve)) := hC.1.cell 4 _ rfl
      have cf : wr.cell? ⟨w.heap.size, 5, none⟩ = some (.int .u32 (nv vf)) := hC.1.cell 5 _ rfl
      have cg : wr.cell? ⟨w.heap.size, 6, none⟩ = some (.int .u32 (nv vg)) := hC.1.cell 6 _ rfl
      have ch : wr.cell? ⟨w.heap.size, 7, none⟩ = some (.int .u32 (nv vh)) := hC.1.cell 7 _ rfl
      have hfin : (H.compress s b).words = [H.oadd va a, H.oadd vb b', H.oadd vc c, H.oadd vd d, H.oadd ve e, H.oadd vf f, H.oadd vg g, H.oadd vh h] := by
        unfold H.compress
        rw [← HX.out, ← hk64, hs]
        rfl
      obtain ⟨R, hR⟩ : ∃ R, R = (H.compress s b).words.map wv := ⟨_, rfl⟩
      have hRe : R = [.int .u32 ((nv va + nv a) % 4294967296), .int .u32 ((nv vb + nv b') % 4294967296), .int .u32 ((nv vc + nv c) % 4294967296), .int .u32 ((nv vd + nv d) % 4294967296), .int .u32 ((nv ve + nv e) % 4294967296), .int .u32 ((nv vf + nv f) % 4294967296), .int .u32 ((nv vg + nv g) % 4294967296), .int .u32 ((nv vh + nv h) % 4294967296)] := by
        rw [hR, hfin]
        simp only [wadd']
        rfl
      have hth : wr.there (w.heap.size + 2) 0 8 := hC.2.1.there 0 _ (by rw [List.length_replicate]; omega)
      have hres : Blk (wr.setCells (w.heap.size + 2) 0 R) (w.heap.size + 2) R 82 := hC.2.1.whole R (by rw [hRe]; rfl)
      have hbel : Below w.heap.size w (wr.setCells (w.heap.size + 2) 0 R) := below_setCells _ (by omega) _ _ _ hC.2.2.2
      have HR := Lib.hid hR
      have HRe := Lib.hid hRe
      have HRes := Lib.hid hres
      have hge : 64 ≤ k := by omega
      clear hk64 hs hC hfin hR hRe hres Hr
      have hall : (#[.int .u32 ((nv va + nv a) % 4294967296), .int .u32 ((nv vb + nv b') % 4294967296), .int .u32 ((nv vc + nv c) % 4294967296), .int .u32 ((nv vd + nv d) % 4294967296), .int .u32 ((nv ve + nv e) % 4294967296), .int .u32 ((nv vf + nv f) % 4294967296), .int .u32 ((nv vg + nv g) % 4294967296), .int .u32 ((nv vh + nv h) % 4294967296)] : Array Value).all (·.oneCell') = true := all_oneCell_toArray (by
        intro v hv
        simp only [List.mem_cons, List.not_mem_nil, or_false] at hv
        rcases hv with rfl | rfl | rfl | rfl | rfl | rfl | rfl | rfl <;> rfl)
      have hsz : (Tryd.prog.info? 82).map (·.size) = some 8 := by kernel_rfl
      go_wp2_with (refine wpList_store_mid rfl 82 (.tmp 4) (.tmp 130) rfl (w.heap.size + 1 + 1) 0 #[.int .u32 ((nv va + nv a) % 4294967296), .int .u32 ((nv vb + nv b') % 4294967296), .int .u32 ((nv vc + nv c) % 4294967296), .int .u32 ((nv vd + nv d) % 4294967296), .int .u32 ((nv ve + nv e) % 4294967296), .int .u32 ((nv vf + nv f) % 4294967296), .int .u32 ((nv vg + nv g) % 4294967296), .int .u32 ((nv vh + nv h) % 4294967296)] rfl rfl hth hsz hall ?_)
      have hRe := HRe.out
      refine bodyPost_ret (results_cell_row rfl _ _ (w.heap.size + 2) 82 R.toArray (0, 0) _ rfl (by have := HRes.out; rw [hRe] at this ⊢; exact this) Tryd.underlying82 rfl (by rw [hRe]; kernel_rfl)) rfl ⟨?_, by rw [hRe] at hbel; exact hbel⟩
      rw [HR.out, Hs.out]
end Go.Proofs.YtjdidnonfmdfmaaDoor
end

