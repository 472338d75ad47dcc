import Derived.Test.YtjdidnonfmdfmaaDoorJHashF

section
/- The contract of Stream.Add. -/

namespace Go.Proofs.YtjdidnonfmdfmaaDoor
open Go.RowKit
set_option linter.unusedVariables false

def strLen : Value → Nat
  | .string t => t.size
  | _ => 0
def Adds (w : World) (Z : List Value) (m : List UInt8) (wr : World) : Prop :=
  Blk wr w.heap.size (Strm m) 86 ∧ Blk wr (w.heap.size + 1) Z 86 ∧ Below w.heap.size w wr
theorem Adds.below {w wr w' : World} {Z : List Value} {m : List UInt8} (h : Adds w Z m wr) (hb : Below wr.heap.size wr w') : Adds w Z m w' :=
  ⟨h.1.below hb h.1.lt, h.2.1.below hb h.2.1.lt, h.2.2.trans (hb.mono h.2.2.size)⟩

set_option maxRecDepth 100000 in
set_option maxHeartbeats 2000000 in
theorem add_any (m : List UInt8) (s : ByteArray) (w : World) (hm : m.length + s.size ≤ 1000000000) (ht : HTab w) :
    Calls Tryd.prog 57 #[.agg (Strm m).toArray, .string s] w fun e w' => e = .returned (.agg (Strm (m ++ sb s)).toArray) ∧ Below w.heap.size w w' := by
  obtain ⟨hz, -⟩ := zero_of_info stream_zero
  obtain ⟨Z, hZ⟩ : ∃ Z, Z = Str ⟨0, 0, 0, 0, 0, 0, 0, 0⟩ (H.zeros 64) 0 := ⟨_, rfl⟩
  rw [← hZ] at hz
  have lZ : Z.length = 73 := by rw [hZ]; exact Str_len _ _ _ (H.zeros_len 64)
  obtain ⟨X, hX⟩ : ∃ X, X = Strm m := ⟨_, rfl⟩
  rw [← hX]
  have h0 : Adds w Z m ((w.alloc (.cells X.toArray 86)).alloc (.cells Z.toArray 86)) := by
    have := Blk.new (w.alloc (.cells X.toArray 86)) Z 86
    simp only [World.size_alloc] at this
    refine ⟨?_, this, ((Below.refl _ _).alloc (Nat.le_refl _) _).alloc (by simp only [World.size_alloc]; omega) _⟩
    rw [← hX]
    exact (Blk.new w X _).alloc _
  have H0 := Lib.hid h0
  have LZ := Lib.hid lZ
  have HT := Lib.hid ht
  clear hZ lZ hX h0 ht
  go_enter Tryd.func57, Tryd.ntmps57
  go_wp2_with fail
  go_loopw [1] (fun x wr => ∃ (t : ByteArray) (d : List UInt8), x = .string t ∧ sb s = d ++ sb t ∧ Adds w Z (m ++ d) wr) (fun x _ => strLen x)
  case atStart => exact ⟨s, [], rfl, rfl, by rw [List.append_nil]; exact H0.out⟩
  case round =>
    clear H0 hz
    obtain ⟨t, d, rfl, hd, hA⟩ := hrel
    have hdl : d.length + t.size = s.size := by
      have := congrArg List.length hd
      rw [List.length_append, sb_len, sb_len] at this
      omega
    obtain ⟨M, hM⟩ : ∃ M, M = m ++ d := ⟨_, rfl⟩
    have hMl : M.length = m.length + d.length := by rw [hM, List.length_append]
    rw [← hM] at hA
    have HM := Lib.hid hM
    have Hd := Lib.hid hd
    clear hM hd
    by_cases h0 : t.size = 0
    · have h1 : (t.size : Int) ≤ 0 := by omega
      have hnil : sb t = [] := List.eq_nil_of_length_eq_zero (by rw [sb_len]; exact h0)
      have hfin : M = m ++ sb s := by rw [HM.out, Hd.out, hnil, List.append_nil]
      obtain ⟨X, hX⟩ : ∃ X, X = Strm M := ⟨_, rfl⟩
      have lX : X.length = 73 := by rw [hX]; exact Strm_len M
      obtain ⟨e1, e2, e3⟩ := hA
      rw [← hX] at e1
      have y := size_stream lX
      have o : X.toArray.all (·.oneCell') = true := all_oneCell_toArray (by rw [hX]; exact Str_one _ _ _)
      have t1 : wr.there (w.heap.size + 1) 0 X.toArray.size := e2.there 0 _ (by rw [List.size_toArray, lX, LZ.out]; omega)
      have d1 := e2.whole X (by rw [lX, LZ.out])
      have hb3 : Below w.heap.size w (wr.setCells (w.heap.size + 1) 0 X) := below_setCells _ (by omega) _ _ _ e3
      have HF := Lib.hid hfin
      have HX := Lib.hid hX
      have E1 := Lib.hid e1
      have T1 := Lib.hid t1
      have Y := Lib.hid y
      have D1 := Lib.hid d1
      have B3 := Lib.hid hb3
      clear h0 hnil hfin hX lX e1 e2 e3 t1 y d1 hb3 hMl hdl
      go_wp2_with (first | (refine wpList_load_row rfl 86 (.tmp 2) rfl w.heap.size rfl _ X.toArray (0, 0) _ E1.out Tryd.underlying86 rfl Y.out ?_) | (refine wpList_store_mid rfl 86 (.tmp 4) (.tmp 32) rfl (w.heap.size + 1) 0 X.toArray rfl rfl T1.out Y.out o ?_))
      refine bodyPost_ret (results_cell_row rfl _ _ (w.heap.size + 1) 86 _ (0, 0) _ rfl D1.out Tryd.underlying86 rfl Y.out) rfl ⟨?_, B3.out⟩
      rw [HX.out, HF.out]
    · have hpos : 0 < t.size := by omega
      have hpos' : (0 : Int) < t.size := by omega
      obtain ⟨r, hr⟩ : ∃ r, r = M.length % 64 := ⟨_, rfl⟩
      obtain ⟨n, hn⟩ : ∃ n, n = min t.size (64 - r) := ⟨_, rfl⟩
      obtain ⟨L, hL⟩ : ∃ L, L = M.length := ⟨_, rfl⟩
      obtain ⟨x, hx⟩ : ∃ x, x = (sb t).take n := ⟨_, rfl⟩
      have hxl : x.length = n := by rw [hx, List.length_take, sb_len]; omega
      have hblk := hA.1
      obtain ⟨X, hX⟩ : ∃ X, X = Strm M := ⟨_, rfl⟩
      have hXl : X.length = 73 := by rw [hX]; exact Strm_len M
      rw [← hX] at hblk
      have hsz := size_stream hXl
      have hcall : ∀ W : World, Calls Tryd.prog 63 #[.agg X.toArray] W fun e w' => e = .returned (.int .i64 (r : Int)) ∧ Below W.heap.size W w' := fun W => by
        rw [hX, hr]
        exact waiting_any (H.state M) (H.block M) M.length W (H.block_len M) (by omega)
      have hsl := fun W => slice_block W w.heap.size r (by omega)
      have hex : sb (t.extract n t.size) = (sb t).drop n := by
        unfold sb
        rw [Lib.extract_data, List.take_of_length_le (by simp)]
      have hes : (t.extract n t.size).size = t.size - n := by simp
      have hsplit : sb s = (d ++ x) ++ sb (t.extract n t.size) := by rw [Hd.out, hex, hx, List.append_assoc, List.take_append_drop]
      have hcut : Str (H.state M) (H.rest M ++ x ++ H.zeros (64 - (r + n))) L = X.take (8 + r) ++ x.map bv ++ X.drop (8 + r + x.length) := by
        rw [hX, hr]
        unfold Strm
        rw [Str_splice _ _ _ _ _ (H.block_len M) (by omega), fill_block M x (by omega), hL, hxl]
      have n1 : n ≤ t.size := by omega
      have n2 : r + n ≤ 64 := by omega
      have n3 : 0 < n := by omega
      have r1 : r < 64 := by omega
      have n1' : (n : Int) ≤ t.size := by omega
      have L1 : L ≤ 1000000000 := by omega
      have hlast : r + n < 64 → n = t.size := by omega
      have HA := Lib.hid hA
      have HX := Lib.hid hX
      have HXl := Lib.hid hXl
      have HC := Lib.hid hcall
      have Hr := Lib.hid hr
      have Hn := Lib.hid hn
      have HL := Lib.hid hL
      have Hx := Lib.hid hx
      have Hxl := Lib.hid hxl
      have Hex := Lib.hid hex
      have Hes := Lib.hid hes
      have Hsp := Lib.hid hsplit
      have Hcut := Lib.hid hcut
      have Hlast := Lib.hid hlast
      have Hsl := Lib.hid hsl
      have HhM := Lib.hid hMl
      have Hdl := Lib.hid hdl
      clear hA hX hXl hcall hr hn hL hx hxl hex hes hsplit hcut hlast hsl h0 hMl hdl
      go_wp2_with (refine wpList_load_row rfl 86 (.tmp 2) rfl w.heap.size rfl _ X.toArray (0, 0) _ hblk Tryd.underlying86 rfl hsz ?_)
      refine (HC.out _).mono ?_
      rintro e w1 ⟨rfl, hb1⟩
      have hA1 := HA.out.below hb1
      have hblk1 := hA1.1
      rw [← HX.out] at hblk1
      obtain ⟨w2, hw2⟩ : ∃ w2, w2 = w1.setCells w.heap.size (8 + r) (x.map bv) := ⟨_, rfl⟩
      have hrun : (Builtin.copy_ #[52, 9] 3 #[.slice (some ⟨w.heap.size, 8 + r, none⟩) (64 - r) (64 - r), .string t]).run Tryd.prog w1 = .ok (goInt n) w2 := by
        rw [hw2, Hx.out]
        exact run_copy_min w1 _ _ _ _ w.heap.size (8 + r) (64 - r) (64 - r) t Tryd.underlying52 size_u8 n Hn.out (hblk1.there _ _ (by rw [HXl.out]; omega))
      obtain ⟨Y, hY⟩ : ∃ Y, Y = Str (H.state M) (H.rest M ++ x ++ H.zeros (64 - (r + n))) L := ⟨_, rfl⟩
      have hB64 : (H.rest M ++ x ++ H.zeros (64 - (r + n))).length = 64 := by
        simp only [List.length_append, H.rest_len, H.zeros_len, Hxl.out, ← Hr.out]
        omega
      have c2 : Blk w2 w.heap.size Y 86 := by
        rw [hw2, hY, Hcut.out]
        have := set_all (x.map bv) X (8 + r) w1 _ _ hblk1 (by rw [List.length_map, HXl.out, Hxl.out]; omega)
        rwa [List.length_map] at this
      have d2 : Blk w2 (w.heap.size + 1) Z 86 := by rw [hw2]; exact Blk.outside _ _ _ _ hA1.2.1 (by omega)
      have e2 : Below w.heap.size w w2 := by rw [hw2]; exact below_setCells _ (Nat.le_refl _) _ _ _ hA1.2.2
      have g2 : w2.cell? ⟨w.heap.size, 72, none⟩ = some (.int .u64 (L : Int)) := c2.cell 72 _ (by rw [hY]; exact Str_num _ _ _ hB64)
      have f2 : w2.frozen? ⟨w.heap.size, 72, none⟩ = false := c2.frozen 72
      have c3 := c2.set 72 (.int .u64 ((L + n : Nat) : Int))
      rw [hY, Str_set_num _ _ _ _ hB64] at c3
      have d3 := d2.other ⟨w.heap.size, 72, none⟩ (.int .u64 ((L + n : Nat) : Int)) (by show _ ≠ w.heap.size; omega)
      have e3 := e2.setCell (p := ⟨w.heap.size, 72, none⟩) (Nat.le_refl _) (.int .u64 ((L + n : Nat) : Int))
      have hv : Value.int .u64 ((L + n : Nat) : Int) = .int .u64 ((L : Int) + n) := by rw [Int.natCast_add]
      rw [hv] at c3 d3 e3
      have K3 := Lib.hid (And.intro c3 (And.intro d3 e3))
      have HB64 := Lib.hid hB64
      have hsl := Hsl.out
      have Hrun := Lib.hid hrun
      clear hb1 hA1 hblk1 hrun hY hB64 c2 d2 e2 c3 d3 e3 hv hw2 hblk hsz Hcut Hsl
      by_cases hfull : r + n = 64
      · have hq : (((r : Int) + (n : Int)) == 64) = true := by simp; omega
        obtain ⟨F, hF⟩ : ∃ F, F = Str (H.state M) (H.rest M ++ x ++ H.zeros (64 - (r + n))) (L + n) := ⟨_, rfl⟩
        have hFl : F.length = 73 := by rw [hF]; exact Str_len _ _ _ HB64.out
        obtain ⟨G, hG⟩ : ∃ G, G = Strm (M ++ x) := ⟨_, rfl⟩
        have hGl : G.length = 73 := by rw [hG]; exact Strm_len _
        have hfl := Strm_full M x (by rw [← Hr.out, Hxl.out]; exact hfull)
        rw [← Hr.out, Hxl.out, ← HL.out, ← hG] at hfl
        have hcall : ∀ W : World, HTab W → Calls Tryd.prog 64 #[.agg F.toArray] W fun e w' => e = .returned (.agg G.toArray) ∧ Below W.heap.size W w' := fun W h => by
          rw [hF, ← hfl]
          exact compressed_any _ _ _ W HB64.out h
        obtain ⟨w3, hw3⟩ : ∃ w3, w3 = w2.setCell ⟨w.heap.size, 72, none⟩ (.int .u64 ((L : Int) + n)) := ⟨_, rfl⟩
        have y1 := size_stream hFl
        have y2 := size_stream hGl
        have o : G.toArray.all (·.oneCell') = true := all_oneCell_toArray (by rw [hG]; exact Str_one _ _ _)
        have K4 : Hid (Blk w3 w.heap.size F 86 ∧ Blk w3 (w.heap.size + 1) Z 86 ∧ Below w.heap.size w w3) := Lib.hid (by rw [hw3, hF]; exact K3.out)
        have HT3 : Hid (HTab w3) := Lib.hid (HT.out.below K4.out.2.2 (Nat.le_refl _))
        have HF := Lib.hid hF
        have HFl := Lib.hid hFl
        have HG := Lib.hid hG
        have HGl := Lib.hid hGl
        have HC2 := Lib.hid hcall
        have HW3 := Lib.hid hw3
        have Y1 := Lib.hid y1
        have Y2 := Lib.hid y2
        have hfull' := Lib.hid hfull
        clear hfull hF hFl hG hGl hfl hcall hw3 y1 y2 K3
        go_wp2_with (first | (refine Lib.wpList_copy_run _ rfl (.tmp 14) (.tmp 15) 52 9 rfl _ _ rfl rfl Hrun.out ?_) | (rw [← HW3.out]; refine wpList_load_row rfl 86 (.tmp 2) rfl w.heap.size rfl _ F.toArray (0, 0) _ K4.out.1 Tryd.underlying86 rfl Y1.out ?_))
        refine (HC2.out _ HT3.out).mono ?_
        rintro e w4 ⟨rfl, hb4⟩
        obtain ⟨c3, d3, e3⟩ := K4.out
        have c4 := c3.below hb4 c3.lt
        have d4 := d3.below hb4 d3.lt
        have e4 : Below w.heap.size w w4 := e3.trans (hb4.mono e3.size)
        have t4 : w4.there w.heap.size 0 G.toArray.size := c4.there 0 _ (by rw [List.size_toArray, HGl.out, HFl.out]; omega)
        have c5 := c4.whole G (by rw [HGl.out, HFl.out])
        have d5 : Blk (w4.setCells w.heap.size 0 G) (w.heap.size + 1) Z 86 := Blk.outside _ _ _ _ d4 (by omega)
        have e5 : Below w.heap.size w (w4.setCells w.heap.size 0 G) := below_setCells _ (Nat.le_refl _) _ _ _ e4
        have T4 := Lib.hid t4
        have K5 := Lib.hid (And.intro c5 (And.intro d5 e5))
        clear c3 d3 e3 c4 d4 e4 t4 c5 d5 e5 hb4 K4 HT3 HC2 Hrun hsl g2 f2 HC
        go_wp2_with (refine wpList_store_mid rfl 86 (.tmp 2) (.tmp 31) rfl w.heap.size 0 G.toArray rfl rfl T4.out Y2.out o ?_)
        go_frame
        go_roundw
        case rel =>
          obtain ⟨c5, d5, e5⟩ := K5.out
          refine ⟨t.extract n t.size, d ++ x, rfl, Hsp.out, ?_, d5, e5⟩
          rw [← List.append_assoc, ← HM.out, ← HG.out]
          exact c5
        case measure =>
          show (t.extract n t.size).size < t.size
          rw [Hes.out]
          omega
      · have hq : (((r : Int) + (n : Int)) == 64) = false := by simp; omega
        have hgr := Strm_grow M x (by rw [← Hr.out, Hxl.out]; omega)
        rw [← Hr.out, Hxl.out, ← HL.out] at hgr
        have HG := Lib.hid hgr
        have hfull' := Lib.hid hfull
        clear hgr hfull
        go_wp2_with (refine Lib.wpList_copy_run _ rfl (.tmp 14) (.tmp 15) 52 9 rfl _ _ rfl rfl Hrun.out ?_)
        go_roundw
        case rel =>
          obtain ⟨c5, d5, e5⟩ := K3.out
          refine ⟨t.extract n t.size, d ++ x, rfl, Hsp.out, ?_, d5, e5⟩
          rw [← List.append_assoc, ← HM.out, ← HG.out]
          exact c5
        case measure =>
          show (t.extract n t.size).size < t.size
          rw [Hes.out]
          omega
end Go.Proofs.YtjdidnonfmdfmaaDoor
end

