import Derived.Test.YtkelfcgomeojeaaDoorJHashRc
import Derived.Test.YtkelfcgomeojeaaDoorJSignPc

section
/- The contract of sign.rootOf. -/


namespace Go.Proofs.YtkelfcgomeojeaaDoor
open Go.RowKit
set_option linter.unusedVariables false
set_option maxRecDepth 100000

/-- The first h digests of a text. -/
def chunk (l : List UInt8) (k : Nat) : List UInt8 := (l.drop (k * 16)).take 16
def chunks (l : List UInt8) (h : Nat) : List (List UInt8) := (List.range h).map (chunk l)
theorem chunk_len (l : List UInt8) (k : Nat) (h : k * 16 + 16 ≤ l.length) : (chunk l k).length = 16 := by
  unfold chunk
  rw [List.length_take, List.length_drop]
  omega
theorem chunks_succ (l : List UInt8) (k : Nat) : chunks l (k + 1) = chunks l k ++ [chunk l k] := by
  unfold chunks
  rw [List.range_succ, List.map_append]
  rfl
theorem chunks_len (l : List UInt8) (k : Nat) : (chunks l k).length = k := by simp [chunks]
theorem climb_snoc (i : Nat) (v : List UInt8) (os : List (List UInt8)) (o : List UInt8) :
    Sg.climb i v (os ++ [o]) = if i / 2 ^ os.length % 2 = 1 then Sg.node o (Sg.climb i v os) else Sg.node (Sg.climb i v os) o := by
  induction os generalizing i v with
  | nil => simp [Sg.climb]
  | cons x os ih =>
    show Sg.climb (i / 2) _ (os ++ [o]) = _
    rw [ih, List.length_cons, Nat.pow_succ, Nat.mul_comm (2 ^ os.length) 2, ← Nat.div_div_eq_div_mul]
    rfl
theorem climb_len (i : Nat) (v : List UInt8) (os : List (List UInt8)) (hv : v.length = 16) : (Sg.climb i v os).length = 16 := by
  induction os generalizing i v with
  | nil => exact hv
  | cons x os ih =>
    refine ih _ _ ?_
    split <;> exact Sg.of_len _ _

set_option maxHeartbeats 4000000 in
theorem rootOf_any (v : List UInt8) (i h : Nat) (s : ByteArray) (w : World) (hv : v.length = 16) (hs : s.size = h * 16) (hh : h ≤ 60) (hi : i ≤ 1000000) (hT : HTab w) :
    Calls Tryd.prog 37 #[.agg (v.map bv).toArray, .int .i64 i, .string s] w fun e w' => e = .returned (.agg ((Sg.climb i v (chunks (sb s) h)).map bv).toArray) ∧ Below w.heap.size w w' := by
  obtain ⟨hzd, -⟩ := zero_of_info dig_zero
  obtain ⟨Zd, hZd⟩ : ∃ Zd, Zd = (H.zeros 16).map bv := ⟨_, rfl⟩
  rw [← hZd] at hzd
  have lZd : Zd.length = 16 := by rw [hZd, List.length_map, H.zeros_len]
  have oZ : Zd.toArray.all (·.oneCell') = true := all_oneCell_toArray (by rw [hZd]; exact bytes_one _)
  obtain ⟨X, hX⟩ : ∃ X : Nat → List Value, ∀ k, X k = (Sg.climb i v (chunks (sb s) k)).map bv := ⟨_, fun _ => rfl⟩
  have lX : ∀ k, (X k).length = 16 := fun k => by rw [hX, List.length_map, climb_len _ _ _ hv]
  have yX := fun k => size_dig (lX k)
  have oX : ∀ k, (X k).toArray.all (·.oneCell') = true := fun k => all_oneCell_toArray (by rw [hX]; exact bytes_one _)
  have hX0 : (v.map bv) = X 0 := by rw [hX]; rfl
  rw [hX0, ← hX h]
  obtain ⟨W0, hW0⟩ : ∃ W0, W0 = (w.alloc (.cells (X 0).toArray 23)).alloc (.cells Zd.toArray 23) := ⟨_, rfl⟩
  have hS : Blk W0 w.heap.size (X 0) 23 ∧ Blk W0 (w.heap.size + 1) Zd 23 ∧ Below w.heap.size w W0 := by
    rw [hW0]
    refine ⟨(Blk.new w _ _).alloc _, ?_, ((Below.refl _ _).alloc (Nat.le_refl _) _).alloc (by simp) _⟩
    have h := Blk.new (w.alloc (.cells (X 0).toArray 23)) Zd 23
    simpa using h
  have hs0 : W0.heap.size = w.heap.size + 2 := by rw [hW0]; simp
  obtain ⟨W1, hW1, m1, m2, m3⟩ := row_new W0 23 16 Zd (X 0) lZd (lX 0)
  rw [hs0] at hW1 m1 m2
  have hI : Blk W1 (w.heap.size + 2) (X 0) 23 ∧ Blk W1 (w.heap.size + 1) Zd 23 ∧ Below w.heap.size w W1 ∧ w.heap.size + 2 < W1.heap.size :=
    ⟨m2, hS.2.1.below m3 (by omega), hS.2.2.trans (m3.mono hS.2.2.size), m2.lt⟩
  have hq : (s.size : Int).tdiv 16 = (h : Int) := by
    rw [hs]
    show ((h * 16 / 16 : Nat) : Int) = h
    rw [Nat.mul_div_cancel _ (by decide)]
  have HS := Lib.hid hS.1
  have HI := Lib.hid hI
  have M1 := Lib.hid m1
  have HW0 := Lib.hid hW0
  have HW1 := Lib.hid hW1
  have HX := Lib.hid hX
  have LX := Lib.hid (And.intro lX lZd)
  have YX := Lib.hid yX
  have HT := Lib.hid hT
  clear hS hI hs0 hW0 hW1 m1 m2 m3 hX hX0 lX yX hZd lZd hT
  go_enter Tryd.func37, Tryd.ntmps37
  go_wp2_with (first | (refine wpList_load_row rfl 23 (.tmp 3) rfl w.heap.size rfl _ (X 0).toArray (0, 0) _ (by first | exact HS.out | (rw [← HW0.out]; exact HS.out)) Tryd.underlying23 rfl (YX.out 0) ?_) | (refine wpList_store_mid rfl 23 (.tmp 7) (.tmp 10) rfl (w.heap.size + 2) 0 (X 0).toArray rfl rfl (by rw [← HW0.out]; exact M1.out) (YX.out 0) (oX 0) ?_; rw [← HW0.out, ← HW1.out]))
  clear HS M1 HW0 HW1
  go_loopw [8, 9, 14] (fun _ _ n wr => ∃ k : Nat, k ≤ h ∧ n = .int .i64 k ∧ Blk wr (w.heap.size + 2) (X k) 23 ∧ Blk wr (w.heap.size + 1) Zd 23 ∧ Below w.heap.size w wr ∧ w.heap.size + 2 < wr.heap.size) (fun _ _ n _ => h - (intOf n).toNat)
  case atStart => exact ⟨0, by omega, rfl, HI.out⟩
  case round =>
    clear HI
    obtain ⟨k, hk, rfl, hX, hZ, hbel, hsz⟩ := hrel
    by_cases hlt : k < h
    · have hlt' : (k : Int) < h := by omega
      obtain ⟨o, ho⟩ : ∃ o, o = chunk (sb s) k := ⟨_, rfl⟩
      obtain ⟨O, hO⟩ : ∃ O, O = o.map bv := ⟨_, rfl⟩
      have lo : o.length = 16 := by rw [ho]; exact chunk_len _ _ (by rw [sb_len, hs]; omega)
      have lO : O.length = 16 := by rw [hO, List.length_map, lo]
      have yO := size_dig lO
      have oO : O.toArray.all (·.oneCell') = true := all_oneCell_toArray (by rw [hO]; exact bytes_one _)
      have c1 := digestAt_any s k wr (by rw [hs]; omega) (by rw [hs]; omega)
      rw [show (((sb s).drop (k * 16)).take 16).map bv = O by rw [hO, ho]; rfl] at c1
      have ik : k < 63 := by omega
      have C1 := Lib.hid c1
      have HO := Lib.hid (And.intro ho (And.intro hO (And.intro lo lO)))
      have YO := Lib.hid yO
      have K := Lib.hid (And.intro hX (And.intro hZ (And.intro hbel hsz)))
      clear c1 ho hO lo lO yO hX hZ hbel hsz
      go_wp2_with fail
      refine C1.out.mono ?_
      rintro e w2 ⟨rfl, hb2⟩
      obtain ⟨hX, hZ, hbel, hsz⟩ := K.out
      obtain ⟨W3, hW3, m1, m2, m3⟩ := row_new w2 23 16 Zd O LX.out.2 HO.out.2.2.2
      have h2 := hb2.trans (m3.mono hb2.size)
      have x3 := hX.below h2 hX.lt
      have z3 := hZ.below h2 hZ.lt
      have b3 := hbel.trans (h2.mono hbel.size)
      have n3 : w2.heap.size ≠ w.heap.size + 2 ∧ w.heap.size + 2 < W3.heap.size := ⟨by have := hb2.size; omega, by have := h2.size; omega⟩
      have M1 := Lib.hid m1
      have HW3 := Lib.hid hW3
      have M2 := Lib.hid m2
      have K3 := Lib.hid (And.intro x3 (And.intro z3 (And.intro b3 n3)))
      clear hX hZ hbel hsz m1 m2 m3 h2 x3 z3 b3 n3 hb2 hW3 K C1
      have hsh : (i : Int) / 2 ^ k = ((i / 2 ^ k : Nat) : Int) := by simp
      have hX1 : X (k + 1) = (if i / 2 ^ k % 2 = 1 then Sg.node o (Sg.climb i v (chunks (sb s) k)) else Sg.node (Sg.climb i v (chunks (sb s) k)) o).map bv := by
        rw [HX.out, chunks_succ, climb_snoc, chunks_len, ← HO.out.1]
      have hT3 := HT.out.below K3.out.2.2.1 (Nat.le_refl _)
      have fin : ∀ e w4, (e = Ending.returned (.agg (X (k + 1)).toArray) ∧ Below W3.heap.size W3 w4) → w4.there (w.heap.size + 2) 0 (X (k + 1)).toArray.size ∧ (Blk (w4.setCells (w.heap.size + 2) 0 (X (k + 1))) (w.heap.size + 2) (X (k + 1)) 23 ∧ Blk (w4.setCells (w.heap.size + 2) 0 (X (k + 1))) (w.heap.size + 1) Zd 23 ∧ Below w.heap.size w (w4.setCells (w.heap.size + 2) 0 (X (k + 1))) ∧ w.heap.size + 2 < (w4.setCells (w.heap.size + 2) 0 (X (k + 1))).heap.size) := by
        rintro e w4 ⟨-, hb4⟩
        have x4 := K3.out.1.below hb4 K3.out.1.lt
        have z4 := K3.out.2.1.below hb4 K3.out.2.1.lt
        have b4 := K3.out.2.2.1.trans (hb4.mono K3.out.2.2.1.size)
        have x5 := x4.whole (X (k + 1)) (by rw [LX.out.1, LX.out.1])
        exact ⟨x4.there 0 _ (by rw [List.size_toArray, LX.out.1, LX.out.1]; omega), x5, Blk.outside _ _ _ _ z4 (by omega), below_setCells _ (by omega) _ _ _ b4, x5.lt⟩
      have FIN := Lib.hid fin
      have HX1 := Lib.hid hX1
      have HSH := Lib.hid hsh
      have Y1 := Lib.hid (YX.out (k + 1))
      have o1 := oX (k + 1)
      have YK := Lib.hid (YX.out k)
      have HT3 := Lib.hid hT3
      clear fin hX1 hT3 hsh
      by_cases hp : i / 2 ^ k % 2 = 1
      · have hp2 : ((i : Int) / 2 ^ k).tmod 2 = 1 := by
          rw [HSH.out]
          show ((i / 2 ^ k % 2 : Nat) : Int) = 1
          rw [hp]
          rfl
        have c4 := nodeOf_any o (Sg.climb i v (chunks (sb s) k)) W3 HO.out.2.2.1 (climb_len _ _ _ hv) HT3.out
        rw [← HO.out.2.1, ← HX.out, show (Sg.node o (Sg.climb i v (chunks (sb s) k))).map bv = X (k + 1) by rw [HX1.out, if_pos hp]] at c4
        have C4 := Lib.hid c4
        clear c4
        go_wp2_with (first | (refine wpList_store_mid rfl 23 (.tmp 9) (.tmp 19) rfl w2.heap.size 0 O.toArray rfl rfl M1.out YO.out oO ?_; rw [← HW3.out]) | (refine wpList_load_row rfl 23 (.tmp 7) rfl (w.heap.size + 2) rfl _ (X k).toArray (0, 0) _ K3.out.1 Tryd.underlying23 rfl YK.out ?_) | (refine wpList_load_row rfl 23 (.tmp 9) rfl w2.heap.size rfl _ O.toArray (0, 0) _ M2.out Tryd.underlying23 rfl YO.out ?_))
        refine C4.out.mono ?_
        rintro e w4 ⟨rfl, hb4⟩
        obtain ⟨t4, f4⟩ := FIN.out _ w4 ⟨rfl, hb4⟩
        have T4 := Lib.hid t4
        have F4 := Lib.hid f4
        clear t4 f4 hb4 C4
        go_wp2_with (refine wpList_store_mid rfl 23 (.tmp 7) (.tmp 30) rfl (w.heap.size + 2) 0 (X (k + 1)).toArray rfl rfl T4.out Y1.out o1 ?_)
        exact ⟨⟨k + 1, by omega, by go_num, F4.out⟩, by simp [intOf]; omega⟩
      · have hp2 : ((i : Int) / 2 ^ k).tmod 2 = 0 := by
          rw [HSH.out]
          show ((i / 2 ^ k % 2 : Nat) : Int) = 0
          rw [show i / 2 ^ k % 2 = 0 by omega]
          rfl
        have c4 := nodeOf_any (Sg.climb i v (chunks (sb s) k)) o W3 (climb_len _ _ _ hv) HO.out.2.2.1 HT3.out
        rw [← HO.out.2.1, ← HX.out, show (Sg.node (Sg.climb i v (chunks (sb s) k)) o).map bv = X (k + 1) by rw [HX1.out, if_neg hp]] at c4
        have C4 := Lib.hid c4
        clear c4
        go_wp2_with (first | (refine wpList_store_mid rfl 23 (.tmp 9) (.tmp 19) rfl w2.heap.size 0 O.toArray rfl rfl M1.out YO.out oO ?_; rw [← HW3.out]) | (refine wpList_load_row rfl 23 (.tmp 7) rfl (w.heap.size + 2) rfl _ (X k).toArray (0, 0) _ K3.out.1 Tryd.underlying23 rfl YK.out ?_) | (refine wpList_load_row rfl 23 (.tmp 9) rfl w2.heap.size rfl _ O.toArray (0, 0) _ M2.out Tryd.underlying23 rfl YO.out ?_))
        refine C4.out.mono ?_
        rintro e w4 ⟨rfl, hb4⟩
        obtain ⟨t4, f4⟩ := FIN.out _ w4 ⟨rfl, hb4⟩
        have T4 := Lib.hid t4
        have F4 := Lib.hid f4
        clear t4 f4 hb4 C4
        go_wp2_with (refine wpList_store_mid rfl 23 (.tmp 7) (.tmp 27) rfl (w.heap.size + 2) 0 (X (k + 1)).toArray rfl rfl T4.out Y1.out o1 ?_)
        exact ⟨⟨k + 1, by omega, by go_num, F4.out⟩, by simp [intOf]; omega⟩
    · have hkh : k = h := by omega
      have hge : (h : Int) ≤ k := by omega
      rw [hkh] at hX
      have t1 : wr.there (w.heap.size + 1) 0 (X h).toArray.size := hZ.there 0 _ (by rw [List.size_toArray, LX.out.1, LX.out.2]; omega)
      have d1 := hZ.whole (X h) (by rw [LX.out.1, LX.out.2])
      have b1 : Below w.heap.size w (wr.setCells (w.heap.size + 1) 0 (X h)) := below_setCells _ (by omega) _ _ _ hbel
      have T1 := Lib.hid t1
      have D1 := Lib.hid d1
      have B3 := Lib.hid b1
      have K := Lib.hid hX
      have Y1 := Lib.hid (YX.out h)
      have o1 := oX h
      clear t1 d1 b1 hX hZ hbel hsz hkh
      go_wp2_with (first | (refine wpList_load_row rfl 23 (.tmp 7) rfl (w.heap.size + 2) rfl _ (X h).toArray (0, 0) _ K.out Tryd.underlying23 rfl Y1.out ?_) | (refine wpList_store_mid rfl 23 (.tmp 6) (.tmp 32) rfl (w.heap.size + 1) 0 (X h).toArray rfl rfl T1.out Y1.out o1 ?_))
      refine bodyPost_ret (results_cell_row rfl _ _ (w.heap.size + 1) 23 _ (0, 0) _ rfl D1.out Tryd.underlying23 rfl Y1.out) rfl ⟨rfl, B3.out⟩
end Go.Proofs.YtkelfcgomeojeaaDoor
end

