import Derived.ArgAppend
import Derived.Test.YtkelfcgomeojeaaDoorJSignPc
import Derived.Test.YtkelfcgomeojeaaDoorJSignPl

section
/- The path grows within its row. -/


namespace Go.Proofs.YtkelfcgomeojeaaDoor
open Go.RowKit
set_option linter.unusedVariables false
set_option maxRecDepth 100000

theorem setCells_heap_other (b c : Nat) (hn : b ≠ c) : ∀ (vs : List Value) (o : Nat) (w : World), (w.setCells c o vs).heap[b]? = w.heap[b]? := by
  intro vs
  induction vs with
  | nil => intro o w; rfl
  | cons v r ih => intro o w; rw [World.setCells, ih]; exact heap_setCell_other w ⟨c, o, none⟩ b v hn
theorem setCells_rel (e : Env) (W : World) (o : Nat) (vs : List Value) : Rel e W (W.setCells e.bq o vs) := by
  exact ⟨(below_setCells (B := 0) _ (Nat.zero_le _) _ _ _ (Below.refl _ _)).size, fun b hb h1 h2 => setCells_heap_other _ _ h2 _ _ _⟩

set_option maxHeartbeats 1000000 in
theorem run_path (e : Env) (hok : e.Ok) (W : World) (q o : List UInt8) (V : Nat) (ty : TypeId) (hC : CQ e q.length q W) (src : Blk W V (o.map bv) 23) (lo : o.length = 16) (room : q.length + 16 ≤ e.h * 16) :
    ∃ W', (Builtin.append_ #[51, 51] ty #[.slice (some ⟨e.bq, 0, none⟩) q.length (e.h * 16), .slice (some ⟨V, 0, none⟩) 16 16]).run Tryd.prog W = .ok (.slice (some ⟨e.bq, 0, none⟩) (q ++ o).length (e.h * 16)) W' ∧ CQ e q.length (q ++ o) W' ∧ Rel e W W' := by
  obtain ⟨i0, hi, hz0, hz1, hz2⟩ := info_parts info_u8
  have hlen : (q.map bv ++ List.replicate (e.h * 16 - q.length) (bv 0)).length = e.h * 16 := by simp; omega
  have h := run_append_room_cells (P := Tryd.prog) W 51 ty 5 i0 Tryd.underlying51 hi e.bq 0 q.length (e.h * 16) ⟨V, 0, none⟩ 16 16 (o.map bv) (by rw [List.length_map, lo, hz1]) (fun j u hu => by
      have := src.cell j u hu
      rw [Addr.add_mid, Nat.zero_add]
      exact this) (bytes_one o) room
    (fun j hj => by
      rw [List.length_map, lo] at hj
      rw [hC.cq.cell _ _ (List.getElem?_eq_getElem (by rw [hlen, hz1]; omega))]
      rfl)
    (fun j hj => hC.cq.frozen _)
  rw [hz1, Nat.mul_one, Nat.zero_add] at h
  refine ⟨_, by rw [List.length_append, lo]; exact h, ?_, setCells_rel e W _ _⟩
  have hs := set_all (o.map bv) _ q.length W e.bq 5 hC.cq (by rw [hlen, List.length_map, lo]; exact room)
  have hrel := setCells_rel e W q.length (o.map bv)
  have hb : Below e.w0.heap.size W (W.setCells e.bq q.length (o.map bv)) := below_setCells _ hok.base.2 _ _ _ (Below.refl _ _)
  refine ⟨hC.cs.rel hrel hok.s.1 hok.s.2, hC.ct.rel hrel hok.t.1 hok.t.2, hC.cr.rel hrel hok.r.1 hok.r.2, hC.cn.rel hrel hok.n.1 hok.n.2, hC.ci.rel hrel hok.i.1 hok.i.2, Blk.outside _ _ _ _ hC.cp hok.pq, ?_, hC.bel.trans hb⟩
  have e1 : (q.map bv ++ List.replicate (e.h * 16 - q.length) (bv 0)).take q.length ++ o.map bv ++ (q.map bv ++ List.replicate (e.h * 16 - q.length) (bv 0)).drop (q.length + (o.map bv).length) = (q ++ o).map bv ++ List.replicate (e.h * 16 - (q ++ o).length) (bv 0) := by
    rw [List.take_append_of_le_length (by simp), List.take_of_length_le (by simp), List.drop_append, List.drop_of_length_le (by simp), List.nil_append, List.drop_replicate, List.map_append, List.length_map, List.length_map, List.length_append]
    congr 2
    omega
  rwa [e1] at hs
end Go.Proofs.YtkelfcgomeojeaaDoor
end

section
/- The contract of sign.leafOf. -/

namespace Go.Proofs.YtkelfcgomeojeaaDoor
open Go.RowKit
set_option linter.unusedVariables false
set_option maxRecDepth 100000

theorem build1s (w : World) (a : ByteArray) : (Instr.buildSlice 59 1 #[(0, .string a)]).run Tryd.prog w = .ok (.slice (some ⟨w.heap.size, 0, none⟩) 1 1) (w.alloc (.cells #[.string a] 9)) := by
  go_simp

set_option maxHeartbeats 4000000 in
theorem leafOf_any (l : List UInt8) (w : World) (hl : l.length ≤ 1000000) (hT : HTab w) :
    Calls Tryd.prog 38 #[.string (bs l)] w fun e w' => e = .returned (.agg ((Sg.leafOf l).map bv).toArray) ∧ Below w.heap.size w w' := by
  obtain ⟨hzd, -⟩ := zero_of_info dig_zero
  obtain ⟨Zd, hZd⟩ : ∃ Zd, Zd = (H.zeros 16).map bv := ⟨_, rfl⟩
  rw [← hZd] at hzd
  have lZd : Zd.length = 16 := by rw [hZd, List.length_map, H.zeros_len]
  obtain ⟨k, hk⟩ : ∃ k, k = Sg.of 3 [l] := ⟨_, rfl⟩
  obtain ⟨g, hg⟩ : ∃ g, g = Sg.leafOf l := ⟨_, rfl⟩
  have hgk : g = Sg.of 1 [k] := by rw [hg, hk]; rfl
  have lk : k.length = 16 := by rw [hk, Sg.of_len]
  obtain ⟨K, hK⟩ : ∃ K, K = k.map bv := ⟨_, rfl⟩
  obtain ⟨G, hG⟩ : ∃ G, G = g.map bv := ⟨_, rfl⟩
  have lK : K.length = 16 := by rw [hK, List.length_map, lk]
  have lG : G.length = 16 := by rw [hG, List.length_map, hgk, Sg.of_len]
  have yK := size_dig lK
  have yG := size_dig lG
  have oK : K.toArray.all (·.oneCell') = true := all_oneCell_toArray (by rw [hK]; exact bytes_one _)
  have oG : G.toArray.all (·.oneCell') = true := all_oneCell_toArray (by rw [hG]; exact bytes_one _)
  rw [← hg, ← hG]
  obtain ⟨W0, hW0⟩ : ∃ W0, W0 = w.alloc (.cells Zd.toArray 23) := ⟨_, rfl⟩
  have hb0 : Below w.heap.size w W0 := by rw [hW0]; exact (Below.refl _ _).alloc (Nat.le_refl _) _
  have hk0 : Blk W0 w.heap.size Zd 23 := by rw [hW0]; exact Blk.new w _ _
  obtain ⟨W1, hW1⟩ : ∃ W1, W1 = W0.alloc (.cells #[.string (bs l)] 9) := ⟨_, rfl⟩
  have hb1 : Below W0.heap.size W0 W1 := by rw [hW1]; exact (Below.refl _ _).alloc (Nat.le_refl _) _
  have hs0 : W0.heap.size = w.heap.size + 1 := by rw [hW0]; simp
  have h1 := hb0.trans (hb1.mono hb0.size)
  have c1 := of_one 3 (by omega) (some ⟨W0.heap.size, 0, none⟩) l W1 (by rw [hW1]; exact rd_new W0 [.string (bs l)] _) hl (hT.below h1 (Nat.le_refl _))
  rw [show UInt8.ofNat 3 = 3 from rfl, ← hk, ← hK, hs0] at c1
  have k1 := hk0.below hb1 hk0.lt
  have c2 := fun (B : Nat) (A : Option Addr) (W : World) h h2 => of_one 1 (by omega) A k W h (by omega) h2
  rw [show UInt8.ofNat 1 = 1 from rfl, ← hgk, ← hG] at c2
  obtain ⟨x, hx⟩ : ∃ x, x = bs k := ⟨_, rfl⟩
  rw [← hx] at c2
  have C1 := Lib.hid c1
  have C2 := Lib.hid c2
  have HW0 := Lib.hid hW0
  have HW1 := Lib.hid hW1
  have K1 := Lib.hid (And.intro k1 h1)
  have HK := Lib.hid (And.intro hK (And.intro lk hx))
  have LL := Lib.hid (And.intro lK (And.intro lG lZd))
  have YK := Lib.hid yK
  have YG := Lib.hid yG
  have HT := Lib.hid hT
  clear hZd hk hg hgk lk hK hG lK lG yK yG lZd hW0 hb0 hk0 hW1 hb1 hs0 h1 c1 k1 c2 hx hT
  go_enter Tryd.func38, Tryd.ntmps38
  go_wp2_with fail
  rw [← HW0.out, ← HW1.out]
  refine C1.out.mono ?_
  rintro e w2 ⟨rfl, hb2⟩
  have h2 := K1.out.2.trans (hb2.mono K1.out.2.size)
  have k2 := K1.out.1.below hb2 K1.out.1.lt
  obtain ⟨W3, hW3, m1, m2, m3⟩ := row_new w2 23 16 Zd K LL.out.2.2 LL.out.1
  have h3 := h2.trans (m3.mono h2.size)
  have k3 := k2.below m3 k2.lt
  have m2' := m2
  rw [HK.out.1] at m2'
  have hcv := dig_conv W3 w2.heap.size k HK.out.2.1 m2'
  rw [← HK.out.2.2] at hcv
  have hsl := slice_b16 W3 w2.heap.size
  obtain ⟨B, hB⟩ : ∃ B, B = w2.heap.size := ⟨_, rfl⟩
  rw [← hB] at hcv hsl m1 hW3
  obtain ⟨W4, hW4⟩ : ∃ W4, W4 = W3.alloc (.cells #[.string x] 9) := ⟨_, rfl⟩
  have hb4 : Below W3.heap.size W3 W4 := by rw [hW4]; exact (Below.refl _ _).alloc (Nat.le_refl _) _
  have h4 := h3.trans (hb4.mono h3.size)
  have k4 := k3.below hb4 k3.lt
  have c2 := C2.out B (some ⟨W3.heap.size, 0, none⟩) W4 (by rw [hW4]; exact rd_new W3 [.string x] _) (HT.out.below h4 (Nat.le_refl _))
  have M1 := Lib.hid m1
  have HW3 := Lib.hid hW3
  have HW4 := Lib.hid hW4
  have K4 := Lib.hid (And.intro k4 h4)
  have C2' := Lib.hid c2
  have HB := Lib.hid hB
  clear hb2 h2 k2 m1 m2 m2' m3 h3 k3 hB hW3 hW4 hb4 h4 k4 c2 C1 C2 K1
  go_wp2_with (first | (refine wpList_store_mid rfl 23 (.tmp 3) (.tmp 6) rfl w2.heap.size 0 K.toArray rfl rfl (by rw [← HB.out]; exact M1.out) YK.out oK ?_; rw [← HB.out, ← HW3.out]))
  rw [← HW4.out]
  refine C2'.out.mono ?_
  rintro e w5 ⟨rfl, hb5⟩
  have h5 := K4.out.2.trans (hb5.mono K4.out.2.size)
  have k5 := K4.out.1.below hb5 K4.out.1.lt
  have t1 : w5.there w.heap.size 0 G.toArray.size := k5.there 0 _ (by rw [List.size_toArray, LL.out.2.1, LL.out.2.2]; omega)
  have d1 := k5.whole G (by rw [LL.out.2.1, LL.out.2.2])
  have b1 : Below w.heap.size w (w5.setCells w.heap.size 0 G) := below_setCells _ (Nat.le_refl _) _ _ _ h5
  have T1 := Lib.hid t1
  have D1 := Lib.hid d1
  have B3 := Lib.hid b1
  clear hb5 h5 k5 t1 d1 b1 C2' K4
  go_wp2_with (refine wpList_store_mid rfl 23 (.tmp 2) (.tmp 10) rfl w.heap.size 0 G.toArray rfl rfl T1.out YG.out oG ?_)
  refine bodyPost_ret (results_cell_row rfl _ _ w.heap.size 23 _ (0, 0) _ rfl D1.out Tryd.underlying23 rfl YG.out) rfl ⟨rfl, B3.out⟩
end Go.Proofs.YtkelfcgomeojeaaDoor
end

section
/- The closure of climb, at a leaf. -/



namespace Go.Proofs.YtkelfcgomeojeaaDoor
open Go.RowKit
set_option linter.unusedVariables false
set_option maxRecDepth 100000

def Env.args (e : Env) (l k : Nat) : Array Value := #[.int .i64 (l : Int), .int .i64 (k : Int), .pointer (some ⟨e.bs, 0, none⟩), .pointer (some ⟨e.bt, 0, none⟩), .pointer (some ⟨e.bn, 0, none⟩), .pointer (some ⟨e.bi, 0, none⟩), .pointer (some ⟨e.bp, 0, none⟩)]
/-- What the closure does at level l, place k. -/
def CloSpec (e : Env) (l k : Nat) (p : List UInt8) (W : World) : Prop :=
  Calls Tryd.prog 43 (e.args l k) W fun x W' => x = .returned (.agg ((Sg.tree (sb e.s) l k).map bv).toArray) ∧ CQ e (p ++ way (sb e.s) e.i l k).length (p ++ way (sb e.s) e.i l k) W' ∧ Rel e W W'
def threeD : List Nat := List.replicate 68 3
theorem cvs_tops (i : Nat) (sd : List UInt8) : cvs i threeD sd 68 = Sg.tops sd i := by
  unfold cvs Sg.tops Sg.top
  rw [List.flatMap_def, List.flatMap_def]
  congr 1

set_option maxHeartbeats 4000000 in
theorem clo_zero (e : Env) (hok : e.Ok) (hT : HTab e.w0) (hs : e.s.size ≤ 1000) (k : Nat) (p : List UInt8) (W : World) (hk : k ≤ 1000000) (hC : CQ e p.length p W) : CloSpec e 0 k p W := by
  unfold CloSpec
  rw [way_zero, List.append_nil]
  obtain ⟨hzd, -⟩ := zero_of_info dig_zero
  obtain ⟨Zd, hZd⟩ : ∃ Zd, Zd = (H.zeros 16).map bv := ⟨_, rfl⟩
  rw [← hZd] at hzd
  have lZd : Zd.length = 16 := by rw [hZd, List.length_map, H.zeros_len]
  obtain ⟨G, hG⟩ : ∃ G, G = (Sg.tree (sb e.s) 0 k).map bv := ⟨_, rfl⟩
  have lG : G.length = 16 := by rw [hG, List.length_map, tree_len]
  have yG := size_dig lG
  have oG : G.toArray.all (·.oneCell') = true := all_oneCell_toArray (by rw [hG]; exact bytes_one _)
  rw [← hG]
  obtain ⟨W1, hW1⟩ : ∃ W1, W1 = W.alloc (.cells Zd.toArray 23) := ⟨_, rfl⟩
  have hb1 : Below W.heap.size W W1 := by rw [hW1]; exact (Below.refl _ _).alloc (Nat.le_refl _) _
  have hk1 : Blk W1 W.heap.size Zd 23 := by rw [hW1]; exact Blk.new W _ _
  have hlt := hC.lt
  have hC1 := hC.step hlt hok hb1
  have g2 : W1.cell? ⟨e.bs, 0, none⟩ = some (.string e.s) := hC1.cs.cell 0 _ rfl
  have g3 : W1.cell? ⟨e.bt, 0, none⟩ = some (.slice (some ⟨e.br, 0, none⟩) 68 68) := hC1.ct.cell 0 _ rfl
  rw [hW1] at g2 g3
  have hT1 := hT.below hC1.bel (Nat.le_refl _)
  have c1 := chainValues_any k threeD (some ⟨e.br, 0, none⟩) 68 e.s W1 hk hC1.cr.rd rfl (by intro c; unfold threeD; rw [List.getD_eq_getElem?_getD, List.getElem?_replicate]; split <;> simp) hs hT1
  rw [cvs_tops] at c1
  obtain ⟨T, hTT⟩ : ∃ T, T = Sg.tops (sb e.s) k := ⟨_, rfl⟩
  have lT : T.length = 1088 := by rw [hTT]; exact flat_len _ 68 fun c _ => top_len _ _ _
  rw [← hTT] at c1
  have c2 := fun W h => leafOf_any T W (by omega) h
  rw [show (Sg.leafOf T).map bv = G by rw [hG, hTT]; rfl] at c2
  have C1 := Lib.hid c1
  have C2 := Lib.hid c2
  have HW1 := Lib.hid hW1
  have K1 := Lib.hid (And.intro hk1 (And.intro hb1 (And.intro hC (And.intro hlt hT1))))
  have LL := Lib.hid (And.intro lG lZd)
  have YG := Lib.hid yG
  have HOK := Lib.hid hok
  clear c1 c2 hW1 hk1 hb1 hC hlt hT1 hC1 lG lZd yG hTT lT hG hZd hT hok
  unfold Env.args
  go_enter Tryd.func43, Tryd.ntmps43
  go_wp2_with fail
  rw [← HW1.out]
  refine C1.out.mono ?_
  rintro x w2 ⟨rfl, hb2⟩
  have h2 := K1.out.2.1.trans (hb2.mono K1.out.2.1.size)
  have k2 := K1.out.1.below hb2 K1.out.1.lt
  have C2' := Lib.hid (C2.out w2 (K1.out.2.2.2.2.next hb2))
  have K2 := Lib.hid (And.intro k2 h2)
  clear hb2 h2 k2 C1 C2 g2 g3
  go_wp2_with fail
  refine C2'.out.mono ?_
  rintro x w3 ⟨rfl, hb3⟩
  have h3 := K2.out.2.trans (hb3.mono K2.out.2.size)
  have k3 := K2.out.1.below hb3 K2.out.1.lt
  have t1 : w3.there W.heap.size 0 G.toArray.size := k3.there 0 _ (by rw [List.size_toArray, LL.out.1, LL.out.2]; omega)
  have d1 := k3.whole G (by rw [LL.out.1, LL.out.2])
  have b1 : Below W.heap.size W (w3.setCells W.heap.size 0 G) := below_setCells _ (Nat.le_refl _) _ _ _ h3
  have T1 := Lib.hid t1
  have D1 := Lib.hid d1
  have B3 := Lib.hid (And.intro (K1.out.2.2.1.step K1.out.2.2.2.1 HOK.out b1) (Rel.of (e := e) b1))
  clear hb3 h3 k3 t1 d1 b1 C2' K2
  go_wp2_with (refine wpList_store_mid rfl 23 (.tmp 9) (.tmp 19) rfl W.heap.size 0 G.toArray rfl rfl T1.out YG.out oG ?_)
  refine bodyPost_ret (results_cell_row rfl _ _ W.heap.size 23 _ (0, 0) _ rfl D1.out Tryd.underlying23 rfl YG.out) rfl ⟨rfl, B3.out⟩
end Go.Proofs.YtkelfcgomeojeaaDoor
end

