/- The reference's GetDigests. -/
import Derived.Test.YtacgekhphhhmpaaWireRi
import Derived.Test.YtacgekhphhhmpaaWireX
namespace Go.Proofs.Ytacgekhphhhmpaa
open Go.RowKit
set_option linter.unusedVariables false

theorem dig_set {w : World} {B g : Nat} {R : List UInt8} (d : UInt8) (hb : w.heap[B]? = some (.cells (R.map bv).toArray 57 (0, 0))) :
    (w.setCell ⟨B, g, none⟩ (bv d)).heap[B]? = some (.cells ((R.set g d).map bv).toArray 57 (0, 0)) := by
  simp [World.setCell, Array.getElem?_modify, hb]
theorem take_set (R C : List UInt8) (j : Nat) (d : UInt8) (hj : j < R.length) (hC : C[j]? = some d) (h : R.take j = C.take j) : (R.set j d).take (j + 1) = C.take (j + 1) := by
  have hjc := (List.getElem?_eq_some_iff.1 hC).1
  have hd := (List.getElem?_eq_some_iff.1 hC).2
  rw [List.take_succ_eq_append_getElem (by simpa using hj), List.take_succ_eq_append_getElem hjc, hd]
  simp
  rw [List.take_set, List.set_eq_of_length_le (by simp; omega)]
  exact h

set_option maxHeartbeats 4000000 in
set_option maxRecDepth 100000 in
theorem refGetDigests_any (A : Option Addr) (cap : Nat) (l : List UInt8) (w : World) (hr : RdB w w.heap.size A l) (hc : l.length ≤ cap) (hm : cap ≤ maxLen) (hl : l.length ≤ 1000000000) :
    Calls Try.prog 35 #[.slice A l.length cap] w (GotRef 57 16 dcells (M.getLs gD 16 l) w) := by
  obtain ⟨i0, hi, hz0, hz1, hz2⟩ := info_parts info_dig
  have hgi := refCount16_any A cap l w hr hc hm hl
  have hok := M.getLen_ok l 16 (by omega)
  have hok2 := M.getI_ok l
  have hof := M.getLs_of gD 16 l
  have her := M.getLs_err gD 16 l
  obtain ⟨R, hR⟩ : ∃ R, R = M.getLs gD 16 l := ⟨_, rfl⟩
  rw [← hR] at hof her ⊢
  obtain ⟨⟨N, U, E⟩, hg⟩ : ∃ g, g = M.getLen l 16 := ⟨_, rfl⟩
  rw [← hg] at hok hgi hof her
  simp only at hok hgi hof her
  have hm2 := hm
  unfold maxLen at hm2
  have Hgi := Lib.hid hgi
  have Hok := Lib.hid hok
  have Hok2 := Lib.hid hok2
  have Hof := Lib.hid hof
  have Her := Lib.hid her
  have Hr := Lib.hid hr
  clear hgi hR hok hg hok2 hr hof her
  go_enter Try.func35, Try.ntmps35
  go_wp2_with fail
  refine Hgi.out.mono ?_
  rintro e w1 ⟨rfl, hb1⟩
  unfold I3
  by_cases hE : E = 0
  · subst hE
    obtain ⟨h1, h2, h3, h4, h5⟩ := Hok.out rfl
    obtain ⟨-, h6, -, -⟩ := Hok2.out h1
    rw [← h2] at h4 h5
    rw [← h3] at h5 h6
    obtain ⟨n, rfl⟩ := Int.eq_ofNat_of_zero_le h4
    have hUn : U + 16 * n ≤ l.length := by omega
    obtain ⟨d1, d2, d3, d4⟩ := decN_dig n (l.drop U) (by rw [List.length_drop]; omega)
    have hst := Hof.out rfl _ rfl
    rw [Int.toNat_natCast] at hst
    unfold M.comb at hst
    rw [if_neg (by rw [d1]; simp), d2] at hst
    obtain ⟨LD, hLD⟩ : ∃ LD, LD = (M.decN gD n (l.drop U)).1 := ⟨_, rfl⟩
    rw [← hLD] at d3 d4 hst
    obtain ⟨S, hS⟩ : ∃ S, S = l.drop U := ⟨_, rfl⟩
    have hSl : S.length = l.length - U := by rw [hS, List.length_drop]
    have hSg : ∀ i, S[i]? = l[U + i]? := fun i => by rw [hS, List.getElem?_drop]
    rw [← hS] at d3
    have Hst := Lib.hid hst
    have D3 := Lib.hid d3
    have D4 := Lib.hid d4
    have HSg := Lib.hid hSg
    have HSl := Lib.hid hSl
    clear h1 h2 h3 h4 h5 hst Hok Hok2 Hof Her d1 d2 d3 d4 hLD hS hSg hSl
    go_wp2_with fail
    go_loopw [6, 8, 9] (fun u x i wr => ∃ k : Nat, k ≤ n ∧ i = .int .i64 k ∧ u = .int .i64 ((U + 16 * k : Nat)) ∧
        wr.ownsRow w.heap.size 57 16 x k ((S.take (16 * k)).map bv) ∧ Below w.heap.size w wr) (fun _ _ i _ => n - (intOf i).toNat)
    case atStart => exact ⟨0, Nat.zero_le _, rfl, rfl, own_nil _ _ _ _, hb1⟩
    case round =>
      obtain ⟨k, hk, rfl, rfl, hown, hbel⟩ := hrel
      have hBw := hbel.size
      by_cases hlt : k < n
      · have i1 : (k : Int) < n := by omega
        obtain ⟨u, hu⟩ : ∃ u, u = U + 16 * k := ⟨_, rfl⟩
        rw [← hu]
        have hul : u + 16 ≤ l.length := by omega
        obtain ⟨b, off, rfl, hb, hcell⟩ := Hr.out (by simp; omega)
        have Hcell := Lib.hid hcell
        have Hu := Lib.hid hu
        clear hcell hu
        go_wp2_with fail
        obtain ⟨wo, rfl⟩ : ∃ wo : World, wo = wr := ⟨_, rfl⟩
        have hnew := heap_alloc_new wo (.cells #[.int .u8 0, .int .u8 0, .int .u8 0, .int .u8 0, .int .u8 0, .int .u8 0, .int .u8 0, .int .u8 0, .int .u8 0, .int .u8 0, .int .u8 0, .int .u8 0, .int .u8 0, .int .u8 0, .int .u8 0, .int .u8 0] 57)
        go_loopw [11] (fun i wr => ∃ (j : Nat) (Z : List UInt8), j ≤ 16 ∧ i = .int .i64 j ∧ Z.length = 16 ∧ Z.take j = (S.drop (16 * k)).take j ∧
            wr.heap[wo.heap.size]? = some (.cells (Z.map bv).toArray 57 (0, 0)) ∧ Below wo.heap.size wo wr) (fun i _ => 16 - (intOf i).toNat)
        case atStart => exact ⟨0, List.replicate 16 0, by omega, rfl, by simp, by simp, hnew, (Below.refl _ _).alloc (Nat.le_refl _) _⟩
        case round =>
          clear hnew
          obtain ⟨j, Z, hj, rfl, hZ, hZt, hblk, hbe2⟩ := hrel
          have hB2 := hbe2.size
          by_cases hjlt : j < 16
          · obtain ⟨d, hd⟩ : ∃ d, l[u + j]? = some d := ⟨l[u + j]'(by omega), List.getElem?_eq_getElem _⟩
            have hbw : Below w.heap.size w wr := hbel.trans (hbe2.mono hBw)
            have hck : wr.cell? ⟨b, off + (u + j), none⟩ = some (.int .u8 (d.toNat : Int)) := (hbw.cell hb).trans (Hcell.out (u + j) (bv d) (by rw [List.getElem?_map, hd]; rfl))
            have hcz : wr.cell? ⟨wo.heap.size, j, none⟩ = some (bv (Z.getD j 0)) := by
              rw [cell_of_row wr wo.heap.size j _ _ _ hblk]
              have : j < Z.length := by omega
              simp [this]
            have hfz : wr.frozen? ⟨wo.heap.size, j, none⟩ = false := by simp [World.frozen?, hblk]
            have hds : (S.drop (16 * k))[j]? = some d := by rw [List.getElem?_drop, HSg.out, ← hd, Hu.out, Nat.add_assoc]
            have hts := take_set Z (S.drop (16 * k)) j d (by omega) hds hZt
            have hset := dig_set (g := j) d hblk
            have j0 : (0 : Int) ≤ j := by omega
            have j1 : (j : Int) < 16 := by omega
            have u1 : (u : Int) + j < l.length := by omega
            have u0 : (0 : Int) ≤ (u : Int) + j := by omega
            have ut : ((u : Int) + (j : Int)).toNat = u + j := by omega
            have Hts := Lib.hid hts
            have Hset := Lib.hid hset
            have HZ := Lib.hid hZ
            clear hts hset hds hd hblk hZt hZ
            go_wp2_with fail
            go_roundw
            case rel => exact ⟨j + 1, Z.set j d, by omega, by go_num, by rw [List.length_set]; exact HZ.out, Hts.out, Hset.out, hbe2.setCell (Nat.le_refl _) _⟩
            case measure => simp [intOf]; omega
          · obtain rfl : j = 16 := by omega
            rw [List.take_of_length_le (by omega)] at hZt
            obtain ⟨X, hX⟩ : ∃ X, X = Z.map bv := ⟨_, rfl⟩
            have hXl : X.length = 16 := by rw [hX, List.length_map, hZ]
            have hX1 : ∀ u ∈ X, u.oneCell' = true := by rw [hX]; exact one_cells _
            have hn57 : (Try.prog.info? 57).map (·.size) = some X.toArray.size := by rw [show X.toArray.size = 16 from by simpa using hXl]; kernel_rfl
            have hcx : (S.take (16 * (k + 1))).map bv = (S.take (16 * k)).map bv ++ X := by
              rw [hX, hZt, show 16 * (k + 1) = 16 * k + 16 from by omega, List.take_add, List.map_append]
            rw [← hX] at hblk
            have hown2 := own_below hown hbe2 (Nat.le_refl _)
            have hbw : Below w.heap.size w wr := hbel.trans (hbe2.mono hBw)
            have hBx := hbw.size
            have hmx : k + 1 ≤ maxLen := by unfold maxLen; omega
            have eu : ((U + 16 * (k + 1) : Nat) : Int) = (u : Int) + 16 := by have := Hu.out; omega
            have u2 : (u : Int) + 16 ≤ l.length := by omega
            have HX1 := Lib.hid hX1
            have HXl := Lib.hid hXl
            have Hn57 := Lib.hid hn57
            have Hcx := Lib.hid hcx
            have Hblk := Lib.hid hblk
            have Eu := Lib.hid eu
            clear hX hX1 hn57 hcx hblk eu hXl hZt hZ hown
            obtain ⟨x0, x1, x2, x3, x4, x5, x6, x7, x8, x9, x10, x11, x12, x13, x14, x15, rfl⟩ := sixteen X HXl.out
            go_wp2_with (first
              | (refine wpList_load_row (o := ⟨some 39, _, _, _, _, _⟩) rfl 57 (.tmp 10) rfl wo.heap.size rfl 57 #[x0, x1, x2, x3, x4, x5, x6, x7, x8, x9, x10, x11, x12, x13, x14, x15] (0, 0) _ Hblk.out Try.underlying57 rfl Hn57.out ?_)
              | (at_builtin; refine wpList_append_own _ rfl (.tmp 38) (.tmp 40) 24 rfl w.heap.size 57 i0 (.agg zero16.toArray) 16 16 Try.underlying24 hi hz0 hz1 hz2 rfl (by decide) _ k ((S.take (16 * k)).map bv) rfl (hown2.alloc _) ⟨wr.heap.size, 0, none⟩ 1 1 [x0, x1, x2, x3, x4, x5, x6, x7, x8, x9, x10, x11, x12, x13, x14, x15] rfl rfl (cells_new _ _ _) HX1.out hmx (by omega) (by simp; omega) ?_; intro v3 w3 hown3 hgrow _; have hb3 := (hbw.alloc hBx (.cells #[x0, x1, x2, x3, x4, x5, x6, x7, x8, x9, x10, x11, x12, x13, x14, x15] 57)).grown hgrow (by simp; omega) (fun k hk => (hown2.lt k hk).1)))
            go_roundw
            case rel => exact ⟨k + 1, by omega, by go_num, by rw [Eu.out], by rw [Hcx.out]; exact hown3, hb3⟩
            case measure => simp [intOf]; omega
      · obtain rfl : k = n := by omega
        go_wp2_with fail
        go_ret3
        refine ⟨_, by rw [Hst.out]; rfl, ?_, hbel⟩
        rw [Hst.out]
        show World.ownsRow _ _ _ _ _ LD.length (LD.flatten.map bv)
        rw [D3.out, D4.out]
        exact hown
  · have hne : ((E : Int) != 0) = true := by simp; omega
    have hR := Her.out hE
    have HR2 := Lib.hid hR
    clear hR Her Hof
    go_wp2_with fail
    go_ret3
    exact ⟨_, by rw [HR2.out]; rfl, by rw [HR2.out]; exact own_nil _ _ _ _, hb1⟩
end Go.Proofs.Ytacgekhphhhmpaa
