/- The walk of the statement RatioReads. -/
import Derived.Test.YtbkgigbalnmbkaaDoorRatioSd
namespace Go.Proofs.YtbkgigbalnmbkaaDoor
open Go.RowKit
set_option linter.unusedVariables false
set_option maxRecDepth 100000

/-- The texts that the loop reads. -/
def textsOf (l : List UInt8) (k : Nat) (x : UInt8) (r : ByteArray) : List ByteArray :=
  [bs l, bs ((l.take k ++ [x]) ++ l.drop (k + 1)), bs (l.take k ++ l.drop (k + 1)), bs ((l.take k ++ [x]) ++ l.drop k), r, ⟨#[43, 49]⟩, ⟨#[48, 48, 55]⟩, ⟨#[49, 47, 48, 49]⟩, ⟨#[49, 50, 47]⟩, ⟨#[47, 51]⟩, ⟨#[45, 45, 49]⟩, ⟨#[52, 47, 50]⟩, ⟨#[51, 48, 48, 48, 48, 48, 48, 48, 48, 48]⟩, ⟨#[48, 47, 49]⟩, ⟨#[48, 47, 53]⟩, ⟨#[45]⟩, ⟨#[57, 57, 57, 57, 57, 57, 57, 57, 57, 57, 57, 57, 57, 57, 57, 57, 57, 57, 57, 57, 47, 51]⟩]
theorem textsOf_len (l : List UInt8) (k : Nat) (x : UInt8) (r : ByteArray) : (textsOf l k x r).length = 17 := rfl
theorem textsOf_small {l : List UInt8} {k : Nat} {x : UInt8} {r : ByteArray} (hl : l.length ≤ 1000) (hr : r.size ≤ 1000) : ∀ f ∈ textsOf l k x r, f.size ≤ 140737488300000 := by
  have a1 : (l.take k).length ≤ 1000 := by rw [List.length_take]; omega
  have a2 : (l.drop (k + 1)).length ≤ 1000 := by rw [List.length_drop]; omega
  have a3 : (l.drop k).length ≤ 1000 := by rw [List.length_drop]; omega
  intro f hf
  simp only [textsOf, List.mem_cons, List.not_mem_nil, or_false] at hf
  rcases hf with rfl | rfl | rfl | rfl | rfl | rfl | rfl | rfl | rfl | rfl | rfl | rfl | rfl | rfl | rfl | rfl | rfl
  · rw [size_bs]; omega
  · rw [size_bs]; simp only [List.length_append, List.length_singleton]; omega
  · rw [size_bs]; simp only [List.length_append]; omega
  · rw [size_bs]; simp only [List.length_append, List.length_singleton]; omega
  · omega
  all_goals decide
theorem getS_in {L : List ByteArray} {m : Nat} (h : ∀ f ∈ L, f.size ≤ m) (j : Nat) (hj : j < L.length) : (L.getD j ByteArray.empty).size ≤ m := by
  refine h _ ?_
  rw [List.getD_eq_getElem?_getD, List.getElem?_eq_getElem hj]
  simp
theorem txt_small {P Q : Int} (h : Rt.Ok P Q) : (Rt.text P Q).length ≤ 1000 ∧ 0 < (Rt.text P Q).length := by
  have b1 := h.bounds
  have d1 := h.den_le
  have p1 := Rt.den_pos Q
  have k1 := Lib.itoa_length_le P (by omega) (by omega)
  have k2 := Lib.itoa_length_le (Rt.den Q) (by omega) (by omega)
  refine ⟨?_, List.length_pos_iff.2 (Rt.text_ne h)⟩
  rw [Rt.text_ok h]
  unfold Rt.txt
  rw [List.length_append]
  split <;> simp <;> omega
/-- The row that the loop reads. -/
def KeptS (w : World) (b : Nat) (L : List ByteArray) (W : World) : Prop := Blk W b (L.map sv) 9 ∧ Below w.heap.size w W
theorem KeptS.step {w W W' : World} {b : Nat} {L : List ByteArray} (h : KeptS w b L W) (hb : Below W.heap.size W W') : KeptS w b L W' := ⟨h.1.below hb h.1.lt, h.2.trans (hb.mono h.2.size)⟩
theorem KeptS.at {w W : World} {b : Nat} {L : List ByteArray} (h : KeptS w b L W) (j : Nat) (hj : j < L.length) (f : ByteArray) (hf : f = L.getD j ByteArray.empty) : W.cell? ⟨b, j, none⟩ = some (.string f) := by
  refine h.1.cell j (sv f) ?_
  rw [hf, List.getElem?_map, List.getD_eq_getElem?_getD, List.getElem?_eq_getElem hj]
  rfl

set_option maxHeartbeats 16000000 in
theorem reads_walk (A : Option Addr) (c : Nat) (l : List Int) (at' : Int) (x : UInt8) (raw : ByteArray) (w : World) (hl : l.length ≤ 9223372036854775807) (hc : l.length ≤ c) (hr : Rd w w.heap.size A (l.map iv)) (hn : ∀ n ∈ l, In64 n)
    (hat : In64 at') (hD : Door w) :
    Calls Tryd.prog 5 #[.slice A l.length c, .int .i64 at', bv x, .string raw] w (Tells true w) := by
  have ha := fun W i k (h : Below w.heap.size w W) (hi : In64 i) (hk : In64 k) => at_any A c l i k W hl hc ((hr.below h).more h.size) hn hi hk
  obtain ⟨n, hnl⟩ : ∃ n, n = l.length := ⟨_, rfl⟩
  obtain ⟨v, hv⟩ : ∃ v : Int → Int → Int, v = fun i k => atv l i k := ⟨_, rfl⟩
  have hva : ∀ i k, In64 k → In64 (v i k) := fun i k h => by rw [hv]; exact atv_in h
  have ha2 : ∀ W i k, Below w.heap.size w W → In64 i → In64 k → Calls Tryd.prog 16 #[.slice A n c, .int .i64 i, .int .i64 k] W fun e w' => e = .returned (.int .i64 (v i k)) ∧ w' = W := fun W i k h hi hk => by
    rw [hnl, hv]; exact ha W i k h hi hk
  rw [← hnl]
  have HA := Lib.hid ha2
  have HV := Lib.hid hva
  have HI := Lib.hid hat
  have HD := Lib.hid hD
  have B := Lib.hid (Below.refl w.heap.size w)
  obtain ⟨y, hy⟩ : ∃ y, y = bv x := ⟨_, rfl⟩
  rw [← hy]
  have HY := Lib.hid hy
  clear ha ha2 hva hv hnl hl hc hr hn hat hD hy
  go_enter Tryd.func5, Tryd.ntmps5
  go_wp2_with fail
  refine (HA.out _ 0 1600 B.out ⟨by decide, by decide⟩ ⟨by decide, by decide⟩).mono ?_
  rintro e w' ⟨rfl, hw⟩
  replace hw := hw.symm
  subst hw
  go_wp2_with fail
  refine (HA.out _ 1 120 B.out ⟨by decide, by decide⟩ ⟨by decide, by decide⟩).mono ?_
  rintro e w' ⟨rfl, hw⟩
  replace hw := hw.symm
  subst hw
  go_wp2_with fail
  refine (some_any _ _ _ (HV.out _ _ ⟨by decide, by decide⟩) (HV.out _ _ ⟨by decide, by decide⟩)).mono ?_
  rintro e v1 ⟨P, Q, rfl, ho, hb⟩
  have B1 := Lib.hid (B.out.trans (hb.mono B.out.size))
  have HO := Lib.hid ho
  clear hb ho B
  go_wp2_with fail
  refine (refText_any P Q _ (Ok_in HO.out).1 (Ok_in HO.out).2).mono ?_
  rintro e v2 ⟨rfl, hb⟩
  have B2 := Lib.hid (B1.out.trans (hb.mono B1.out.size))
  have hsm := txt_small HO.out
  clear hb B1 HO HA HV
  generalize Rt.text P Q = m at *
  have hsz : (bs m).size = m.length := size_bs m
  obtain ⟨s, hs⟩ : ∃ s, s = bs m := ⟨_, rfl⟩
  have hms : sb s = m := by rw [hs, sb_bs]
  rw [← hs] at hsz ⊢
  have hin : In64 (s.size : Int) := by unfold In64; omega
  have HS := Lib.hid (And.intro hs (And.intro hms hsz))
  have HM := Lib.hid hsm
  have HN := Lib.hid hin
  clear hs hms hsz hsm hin
  go_wp2_with fail
  refine (around_any at' s.size _ HI.out HN.out).mono ?_
  rintro e w' ⟨rfl, hw⟩
  replace hw := hw.symm
  subst hw
  obtain ⟨k, hk⟩ : ∃ k : Nat, (k : Int) = aro at' s.size := by
    have := aro_bounds (n := at') (k := s.size) (by have := HM.out.2; have := HS.out.2.2; omega)
    exact ⟨(aro at' s.size).toNat, by omega⟩
  have hkl : k < s.size := by
    have := aro_bounds (n := at') (k := s.size) (by have := HM.out.2; have := HS.out.2.2; omega)
    omega
  rw [← hk]
  have HK := Lib.hid hkl
  have c1 := fun W => run_upto s k (Nat.le_of_lt hkl) 9 W
  have c2 := fun W => run_from s k (Nat.le_of_lt hkl) W
  have c3 := fun W => run_from s (k + 1) hkl W
  rw [HS.out.2.1] at c1 c2 c3
  have hw1 : IntKind.i64.wrap ((k : Int) + 1) = ((k + 1 : Nat) : Int) := by
    have h1 := HM.out.1
    have h2 := HS.out.2.2
    rw [i64_in _ (by omega) (by omega)]; omega
  have hw2 : wrap64 ((k : Int) + 1) = ((k + 1 : Nat) : Int) := by
    have h1 := HM.out.1
    have h2 := HS.out.2.2
    rw [IntWalk.wrap64_in _ (by omega)]; omega
  have a1 : (m.take k).length ≤ 1000 := by have := HM.out.1; rw [List.length_take]; omega
  have a2 : (m.drop (k + 1)).length ≤ 1000 := by have := HM.out.1; rw [List.length_drop]; omega
  have a3 : (m.drop k).length ≤ 1000 := by have := HM.out.1; rw [List.length_drop]; omega
  obtain ⟨L, hL⟩ : ∃ L, L = textsOf m k x (shortOf raw) := ⟨_, rfl⟩
  have hls := textsOf_small (k := k) (x := x) (r := shortOf raw) HM.out.1 (by have := shortOf_size raw; omega)
  have hl17 := textsOf_len m k x (shortOf raw)
  rw [← hL] at hls hl17
  obtain ⟨p, hp⟩ : ∃ p, p = m.take k := ⟨_, rfl⟩
  obtain ⟨q1, hq1⟩ : ∃ p, p = m.drop (k + 1) := ⟨_, rfl⟩
  obtain ⟨q0, hq0⟩ : ∃ p, p = m.drop k := ⟨_, rfl⟩
  unfold textsOf at hL
  rw [← hp] at c1 a1 hL
  rw [← hq1] at c3 a2 hL
  rw [← hq0] at c2 a3 hL
  rw [← HS.out.1] at hL
  have C1 := Lib.hid c1
  have C2 := Lib.hid c2
  have C3 := Lib.hid c3
  have HWR := Lib.hid (And.intro hw1 hw2)
  have AL := Lib.hid (And.intro a1 (And.intro a2 a3))
  have HL := Lib.hid hL
  have HLS := Lib.hid (And.intro hl17 hls)
  clear c1 c2 c3 hw1 hw2 a1 a2 a3 hL hls hl17 hp hq1 hq0 hk hkl HK HN HI HM
  generalize (k : Int) = kk at *
  generalize ((k + 1 : Nat) : Int) = kk1 at *
  go_wp2_with fail
  refine wp_region_list [27, 28, 29, 30, 31, 32, 33, 34, 35, 36, 37, 38, 39, 40, 41, 42, 43, 44, 45, 46, 47, 48, 49, 50, 51, 52, 53, 54, 55, 56, 57, 58, 59, 60] [.is (.string s), .is (.string s), .is (.int .i64 kk), .is (.string (bs p)), .is (y), .bytes [x], .is (.string (bs [x])), .is (.string (bs (p ++ [x]))), .is (.string s), .is (.int .i64 kk), .is (.int .i64 kk1), .is (.string (bs q1)), .is (.string (bs ((p ++ [x]) ++ q1))), .is (.string s), .is (.int .i64 kk), .is (.string (bs p)), .is (.string s), .is (.int .i64 kk), .is (.int .i64 kk1), .is (.string (bs q1)), .is (.string (bs (p ++ q1))), .is (.string s), .is (.int .i64 kk), .is (.string (bs p)), .is (y), .bytes [x], .is (.string (bs [x])), .is (.string (bs (p ++ [x]))), .is (.string s), .is (.int .i64 kk), .is (.string (bs q0)), .is (.string (bs ((p ++ [x]) ++ q0))), .is (.string raw), .is (.string (shortOf raw))] (by kernel_rfl) (by kernel_rfl) ?_ ?_
  · intro i hi fb w' hb hd hx o ho
    match i, hi with
    | 0, _ =>
      obtain rfl := Option.some.inj ho
      exact ⟨hx 9 rfl, Below.refl _ _⟩
    | 1, _ =>
      obtain rfl := Option.some.inj ho
      exact ⟨hx 9 rfl, Below.refl _ _⟩
    | 2, _ =>
      obtain rfl := Option.some.inj ho
      exact ⟨hx 10 rfl, Below.refl _ _⟩
    | 3, _ =>
      obtain rfl := Option.some.inj ho
      have e0 : fb.tmps.getD 28 undef = .string s := hd 1 (by kernel_rfl) (by decide)
      have e1 : fb.tmps.getD 29 undef = .int .i64 kk := hd 2 (by kernel_rfl) (by decide)
      have hr := C1.out w'
      rw [← e0, ← e1] at hr
      exact runs_value rfl hr ⟨rfl, Below.refl _ _⟩
    | 4, _ =>
      obtain rfl := Option.some.inj ho
      exact ⟨hx 2 rfl, Below.refl _ _⟩
    | 5, _ =>
      obtain rfl := Option.some.inj ho
      have e : fb.tmps.getD 31 undef = y := hd 4 (by kernel_rfl) (by decide)
      rw [HY.out] at e
      have hbs := run_buildSlice_u8 w' x
      refine runs_value (X := Instr.buildSlice 38 1 #[(0, fb.tmps.getD 31 undef)]) (by unfold execOp; simp [Act.eval]) (by rw [e]; exact hbs) ⟨⟨some ⟨w'.heap.size, 0, none⟩, 1, rfl, rd_new w' [bv x] _, by simp, by decide⟩, (Below.refl _ _).alloc (Nat.le_refl _) _⟩
    | 6, _ =>
      obtain rfl := Option.some.inj ho
      obtain ⟨A', c', e, h1, h2, h3⟩ := hd 5 (by kernel_rfl) (by decide)
      have hcv := conv_bytes w' _ A' [x] c' h1
      rw [← show fb.tmps.getD 32 undef = _ from e] at hcv
      exact runs_value rfl hcv ⟨rfl, Below.refl _ _⟩
    | 7, _ =>
      obtain rfl := Option.some.inj ho
      have e1 : fb.tmps.getD 30 undef = .string (bs p) := hd 3 (by kernel_rfl) (by decide)
      have e2 : fb.tmps.getD 33 undef = .string (bs [x]) := hd 6 (by kernel_rfl) (by decide)
      refine runs_value rfl ?_ ⟨rfl, Below.refl _ _⟩
      rw [show fb.eval (.tmp 30) = _ from e1, show fb.eval (.tmp 33) = _ from e2]
      exact run_add_str _ _ w' (p) ([x]) (by have := AL.out.1; omega) (by simp)
    | 8, _ =>
      obtain rfl := Option.some.inj ho
      exact ⟨hx 9 rfl, Below.refl _ _⟩
    | 9, _ =>
      obtain rfl := Option.some.inj ho
      exact ⟨hx 10 rfl, Below.refl _ _⟩
    | 10, _ =>
      obtain rfl := Option.some.inj ho
      have e0 : fb.tmps.getD 36 undef = .int .i64 kk := hd 9 (by kernel_rfl) (by decide)
      obtain ⟨h1, h2⟩ := HWR.out
      refine runs_value rfl ?_ ⟨rfl, Below.refl _ _⟩
      rw [show fb.eval (.tmp 36) = _ from e0]
      clear hd hx HWR C1 C2 C3 HL HLS B2 HD AL HS
      go_simp
    | 11, _ =>
      obtain rfl := Option.some.inj ho
      have e0 : fb.tmps.getD 35 undef = .string s := hd 8 (by kernel_rfl) (by decide)
      have e1 : fb.tmps.getD 37 undef = .int .i64 kk1 := hd 10 (by kernel_rfl) (by decide)
      have hr := C3.out w'
      rw [← e0, ← e1] at hr
      exact runs_value rfl hr ⟨rfl, Below.refl _ _⟩
    | 12, _ =>
      obtain rfl := Option.some.inj ho
      have e1 : fb.tmps.getD 34 undef = .string (bs (p ++ [x])) := hd 7 (by kernel_rfl) (by decide)
      have e2 : fb.tmps.getD 38 undef = .string (bs q1) := hd 11 (by kernel_rfl) (by decide)
      refine runs_value rfl ?_ ⟨rfl, Below.refl _ _⟩
      rw [show fb.eval (.tmp 34) = _ from e1, show fb.eval (.tmp 38) = _ from e2]
      exact run_add_str _ _ w' ((p ++ [x])) (q1) (by have := AL.out.1; simp; omega) (by have := AL.out.2.1; omega)
    | 13, _ =>
      obtain rfl := Option.some.inj ho
      exact ⟨hx 9 rfl, Below.refl _ _⟩
    | 14, _ =>
      obtain rfl := Option.some.inj ho
      exact ⟨hx 10 rfl, Below.refl _ _⟩
    | 15, _ =>
      obtain rfl := Option.some.inj ho
      have e0 : fb.tmps.getD 40 undef = .string s := hd 13 (by kernel_rfl) (by decide)
      have e1 : fb.tmps.getD 41 undef = .int .i64 kk := hd 14 (by kernel_rfl) (by decide)
      have hr := C1.out w'
      rw [← e0, ← e1] at hr
      exact runs_value rfl hr ⟨rfl, Below.refl _ _⟩
    | 16, _ =>
      obtain rfl := Option.some.inj ho
      exact ⟨hx 9 rfl, Below.refl _ _⟩
    | 17, _ =>
      obtain rfl := Option.some.inj ho
      exact ⟨hx 10 rfl, Below.refl _ _⟩
    | 18, _ =>
      obtain rfl := Option.some.inj ho
      have e0 : fb.tmps.getD 44 undef = .int .i64 kk := hd 17 (by kernel_rfl) (by decide)
      obtain ⟨h1, h2⟩ := HWR.out
      refine runs_value rfl ?_ ⟨rfl, Below.refl _ _⟩
      rw [show fb.eval (.tmp 44) = _ from e0]
      clear hd hx HWR C1 C2 C3 HL HLS B2 HD AL HS
      go_simp
    | 19, _ =>
      obtain rfl := Option.some.inj ho
      have e0 : fb.tmps.getD 43 undef = .string s := hd 16 (by kernel_rfl) (by decide)
      have e1 : fb.tmps.getD 45 undef = .int .i64 kk1 := hd 18 (by kernel_rfl) (by decide)
      have hr := C3.out w'
      rw [← e0, ← e1] at hr
      exact runs_value rfl hr ⟨rfl, Below.refl _ _⟩
    | 20, _ =>
      obtain rfl := Option.some.inj ho
      have e1 : fb.tmps.getD 42 undef = .string (bs p) := hd 15 (by kernel_rfl) (by decide)
      have e2 : fb.tmps.getD 46 undef = .string (bs q1) := hd 19 (by kernel_rfl) (by decide)
      refine runs_value rfl ?_ ⟨rfl, Below.refl _ _⟩
      rw [show fb.eval (.tmp 42) = _ from e1, show fb.eval (.tmp 46) = _ from e2]
      exact run_add_str _ _ w' (p) (q1) (by have := AL.out.1; omega) (by have := AL.out.2.1; omega)
    | 21, _ =>
      obtain rfl := Option.some.inj ho
      exact ⟨hx 9 rfl, Below.refl _ _⟩
    | 22, _ =>
      obtain rfl := Option.some.inj ho
      exact ⟨hx 10 rfl, Below.refl _ _⟩
    | 23, _ =>
      obtain rfl := Option.some.inj ho
      have e0 : fb.tmps.getD 48 undef = .string s := hd 21 (by kernel_rfl) (by decide)
      have e1 : fb.tmps.getD 49 undef = .int .i64 kk := hd 22 (by kernel_rfl) (by decide)
      have hr := C1.out w'
      rw [← e0, ← e1] at hr
      exact runs_value rfl hr ⟨rfl, Below.refl _ _⟩
    | 24, _ =>
      obtain rfl := Option.some.inj ho
      exact ⟨hx 2 rfl, Below.refl _ _⟩
    | 25, _ =>
      obtain rfl := Option.some.inj ho
      have e : fb.tmps.getD 51 undef = y := hd 24 (by kernel_rfl) (by decide)
      rw [HY.out] at e
      have hbs := run_buildSlice_u8 w' x
      refine runs_value (X := Instr.buildSlice 38 1 #[(0, fb.tmps.getD 51 undef)]) (by unfold execOp; simp [Act.eval]) (by rw [e]; exact hbs) ⟨⟨some ⟨w'.heap.size, 0, none⟩, 1, rfl, rd_new w' [bv x] _, by simp, by decide⟩, (Below.refl _ _).alloc (Nat.le_refl _) _⟩
    | 26, _ =>
      obtain rfl := Option.some.inj ho
      obtain ⟨A', c', e, h1, h2, h3⟩ := hd 25 (by kernel_rfl) (by decide)
      have hcv := conv_bytes w' _ A' [x] c' h1
      rw [← show fb.tmps.getD 52 undef = _ from e] at hcv
      exact runs_value rfl hcv ⟨rfl, Below.refl _ _⟩
    | 27, _ =>
      obtain rfl := Option.some.inj ho
      have e1 : fb.tmps.getD 50 undef = .string (bs p) := hd 23 (by kernel_rfl) (by decide)
      have e2 : fb.tmps.getD 53 undef = .string (bs [x]) := hd 26 (by kernel_rfl) (by decide)
      refine runs_value rfl ?_ ⟨rfl, Below.refl _ _⟩
      rw [show fb.eval (.tmp 50) = _ from e1, show fb.eval (.tmp 53) = _ from e2]
      exact run_add_str _ _ w' (p) ([x]) (by have := AL.out.1; omega) (by simp)
    | 28, _ =>
      obtain rfl := Option.some.inj ho
      exact ⟨hx 9 rfl, Below.refl _ _⟩
    | 29, _ =>
      obtain rfl := Option.some.inj ho
      exact ⟨hx 10 rfl, Below.refl _ _⟩
    | 30, _ =>
      obtain rfl := Option.some.inj ho
      have e0 : fb.tmps.getD 55 undef = .string s := hd 28 (by kernel_rfl) (by decide)
      have e1 : fb.tmps.getD 56 undef = .int .i64 kk := hd 29 (by kernel_rfl) (by decide)
      have hr := C2.out w'
      rw [← e0, ← e1] at hr
      exact runs_value rfl hr ⟨rfl, Below.refl _ _⟩
    | 31, _ =>
      obtain rfl := Option.some.inj ho
      have e1 : fb.tmps.getD 54 undef = .string (bs (p ++ [x])) := hd 27 (by kernel_rfl) (by decide)
      have e2 : fb.tmps.getD 57 undef = .string (bs q0) := hd 30 (by kernel_rfl) (by decide)
      refine runs_value rfl ?_ ⟨rfl, Below.refl _ _⟩
      rw [show fb.eval (.tmp 54) = _ from e1, show fb.eval (.tmp 57) = _ from e2]
      exact run_add_str _ _ w' ((p ++ [x])) (q0) (by have := AL.out.1; simp; omega) (by have := AL.out.2.2; omega)
    | 32, _ =>
      obtain rfl := Option.some.inj ho
      exact ⟨hx 3 rfl, Below.refl _ _⟩
    | 33, _ =>
      obtain rfl := Option.some.inj ho
      have e1 : fb.tmps.getD 59 undef = .string raw := hd 32 (by kernel_rfl) (by decide)
      refine runs_call rfl (fun _ _ => rfl) ?_
      show Calls _ _ #[fb.tmps.getD 59 undef, .int .i64 30] w' _
      rw [e1]
      exact (short_any raw w').mono fun e w'' h => ⟨_, h.1, rfl, h.2⟩
    | n + 34, h => exact absurd h (by simp)
  · intro vals w' hb hf
    have f0 : vals 0 = .string s := hf 0 (by decide)
    have f1 : vals 12 = .string (bs ((p ++ [x]) ++ q1)) := hf 12 (by decide)
    have f2 : vals 20 = .string (bs (p ++ q1)) := hf 20 (by decide)
    have f3 : vals 31 = .string (bs ((p ++ [x]) ++ q0)) := hf 31 (by decide)
    have f4 : vals 33 = .string (shortOf raw) := hf 33 (by decide)
    simp only [puts, List.length_cons, List.length_nil, Nat.zero_add, Nat.reduceAdd, List.drop_succ_cons, List.drop_zero, f0, f1, f2, f3, f4]
    have B3 := Lib.hid (B2.out.trans (hb.mono B2.out.size))
    clear f0 f1 f2 f3 f4 hf hb B2 C1 C2 C3 HWR AL HY HS
    go_frame
    go_wp2_with fail
    have hL2 : L = [s, bs (p ++ x :: q1), bs (p ++ q1), bs (p ++ x :: q0), shortOf raw, ⟨#[43, 49]⟩, ⟨#[48, 48, 55]⟩, ⟨#[49, 47, 48, 49]⟩, ⟨#[49, 50, 47]⟩, ⟨#[47, 51]⟩, ⟨#[45, 45, 49]⟩, ⟨#[52, 47, 50]⟩, ⟨#[51, 48, 48, 48, 48, 48, 48, 48, 48, 48]⟩, ⟨#[48, 47, 49]⟩, ⟨#[48, 47, 53]⟩, ⟨#[45]⟩, ⟨#[57, 57, 57, 57, 57, 57, 57, 57, 57, 57, 57, 57, 57, 57, 57, 57, 57, 57, 57, 57, 47, 51]⟩] := by
      have h := HL.out
      simp only [List.append_assoc, List.singleton_append] at h
      exact h
    have hS : KeptS w w'.heap.size L (w'.alloc (.cells (([s, bs (p ++ x :: q1), bs (p ++ q1), bs (p ++ x :: q0), shortOf raw, ⟨#[43, 49]⟩, ⟨#[48, 48, 55]⟩, ⟨#[49, 47, 48, 49]⟩, ⟨#[49, 50, 47]⟩, ⟨#[47, 51]⟩, ⟨#[45, 45, 49]⟩, ⟨#[52, 47, 50]⟩, ⟨#[51, 48, 48, 48, 48, 48, 48, 48, 48, 48]⟩, ⟨#[48, 47, 49]⟩, ⟨#[48, 47, 53]⟩, ⟨#[45]⟩, ⟨#[57, 57, 57, 57, 57, 57, 57, 57, 57, 57, 57, 57, 57, 57, 57, 57, 57, 57, 57, 57, 47, 51]⟩] : List ByteArray).map sv).toArray 9)) := by
      rw [← hL2]
      exact ⟨Blk.new _ _ _, B3.out.alloc B3.out.size _⟩
    have S0 := Lib.hid hS
    clear hS hL2 HL B3
    generalize w'.heap.size = bb at *
    simp only [Rv_def]
    go_loopw [12] (fun i wr => ∃ n : Nat, n ≤ 17 ∧ i = .int .i64 n ∧ KeptS w bb L wr) (fun i _ => 17 - (intOf i).toNat)
    case atStart => exact ⟨0, by omega, rfl, S0.out⟩
    case round =>
      obtain ⟨j, hj, rfl, hM⟩ := hrel
      have M1 := Lib.hid hM
      clear hM S0
      by_cases hlt : j < 17
      · have i1 : (j : Int) < 17 := by omega
        have i0 : (0 : Int) ≤ j := by omega
        have hfs := getS_in HLS.out.2 j (by rw [HLS.out.1]; exact hlt)
        have hcell := fun W (h : KeptS w bb L W) => h.at j (by rw [HLS.out.1]; exact hlt) (L.getD j ByteArray.empty) rfl
        generalize L.getD j ByteArray.empty = f at *
        obtain ⟨a, b, e, hp⟩ : ∃ a b e, Rt.prs (sb f) = (a, b, e) := ⟨_, _, _, rfl⟩
        have g1 := fun W (h : Door W) => parse_any f W hfs h
        have g2 := fun W => refParse_any f W hfs
        rw [hp] at g1 g2
        have G1 := Lib.hid g1
        have G2 := Lib.hid g2
        have HC := Lib.hid hcell
        have c0 := HC.out _ M1.out
        clear g1 g2 hcell hp hfs
        go_wp2_with fail
        refine (G1.out _ (HD.out.below M1.out.2 (Nat.le_refl _))).mono ?_
        rintro e1 v1 ⟨rfl, hb⟩
        have M2 := Lib.hid (M1.out.step hb)
        clear hb M1 c0
        have c0 := HC.out _ M2.out
        have M3 := Lib.hid (And.intro (M2.out.step ((Below.refl _ _).alloc (Nat.le_refl _) (.cells (Rc a b).toArray 23))) (Blk.new v1 (Rc a b) 23))
        have c3 := HC.out _ M3.out.1
        have lb := M2.out.1.lt
        simp only [T3, Rv_def]
        go_wp2_with fail
        refine (G2.out _).mono ?_
        rintro e2 v2 ⟨rfl, hb⟩
        have M4 := Lib.hid (And.intro (M3.out.1.step hb) (M3.out.2.below hb M3.out.2.lt))
        clear hb M2 M3 c0 c3 lb
        generalize v1.heap.size = ba at *
        have c0 := HC.out _ M4.out.1
        obtain ⟨⟨d0, d1⟩, -, -⟩ := Rc_facts M4.out.2
        have lb := M4.out.2.lt
        simp only [T3, Rv_def]
        go_wp2_with fail
        refine ⟨⟨j + 1, by omega, by simp, M4.out.1.step ((Below.refl _ _).alloc (Nat.le_refl _) (.cells (Rc a b).toArray 23))⟩, ?_⟩
        simp [intOf]; omega
      · have i1 : ¬ ((j : Int) < 17) := by omega
        go_wp2_with fail
        refine (lives_any _ (HD.out.below M1.out.2 (Nat.le_refl _))).mono ?_
        rintro e w9 ⟨rfl, hb⟩
        have B9 := Lib.hid (M1.out.2.trans (hb.mono M1.out.2.size))
        clear hb M1
        go_wp2_with fail
        go_ret
        exact ⟨rfl, B9.out⟩
theorem reads_walk2 (A : Option Addr) (c : Nat) (l : List Int) (at' y : Int) (raw : ByteArray) (w : World) (hl : l.length ≤ 9223372036854775807) (hc : l.length ≤ c) (hr : Rd w w.heap.size A (l.map iv)) (hn : ∀ n ∈ l, In64 n)
    (hat : In64 at') (hy : 0 ≤ y ∧ y ≤ 255) (hD : Door w) :
    Calls Tryd.prog 5 #[.slice A l.length c, .int .i64 at', .int .u8 y, .string raw] w (Tells true w) := by
  have h := reads_walk A c l at' (UInt8.ofNat y.toNat) raw w hl hc hr hn hat hD
  have e : bv (UInt8.ofNat y.toNat) = .int .u8 y := by
    unfold bv
    congr 1
    simp only [UInt8.toNat_ofNat']
    omega
  rwa [e] at h
end Go.Proofs.YtbkgigbalnmbkaaDoor
