/- The walk of the statement CalendarReads. (gen_calreads.py writes this text.) -/
import Derived.Test.YtkenfgifhebnpaaDoorCalT
namespace Go.Proofs.YtkenfgifhebnpaaDoor
open Go.RowKit
set_option linter.unusedVariables false
set_option maxRecDepth 100000

/-- The texts that the loop reads. -/
def dtexts (l : List UInt8) (k : Nat) (x : UInt8) (r : ByteArray) : List ByteArray :=
  [bs l, bs ((l.take k ++ [x]) ++ l.drop (k + 1)), bs (l.take k ++ l.drop (k + 1)), bs (l ++ [x]), r, ⟨#[50, 48, 48, 48, 45, 49, 45, 48, 49, 49]⟩, ⟨#[43, 50, 48, 48, 45, 48, 49, 45, 48, 49]⟩, ⟨#[50, 48, 48, 48, 45, 48, 50, 45, 51, 48]⟩, ⟨#[49, 53, 57, 57, 45, 49, 50, 45, 51, 49]⟩, ⟨#[50, 48, 48, 48, 45, 43, 49, 45, 48, 49]⟩]
theorem dtexts_len (l : List UInt8) (k : Nat) (x : UInt8) (r : ByteArray) : (dtexts l k x r).length = 10 := rfl
theorem dtext_len {n : Int} (h : Cal.known n) : (dtext n).length = 10 := by
  unfold dtext
  rw [if_pos h]
  simp [dg_len]
/-- The row that the loop reads. -/
def KeptD (w : World) (b : Nat) (L : List ByteArray) (W : World) : Prop := Blk W b (L.map sv) 9 ∧ Below w.heap.size w W
theorem KeptD.step {w W W' : World} {b : Nat} {L : List ByteArray} (h : KeptD w b L W) (hb : Below W.heap.size W W') : KeptD w b L W' := ⟨h.1.below hb h.1.lt, h.2.trans (hb.mono h.2.size)⟩
theorem KeptD.at {w W : World} {b : Nat} {L : List ByteArray} (h : KeptD w b L W) (j : Nat) (hj : j < L.length) (f : ByteArray) (hf : f = L.getD j ByteArray.empty) : W.cell? ⟨b, j, none⟩ = some (.string f) := by
  refine h.1.cell j (sv f) ?_
  rw [hf, List.getElem?_map, List.getD_eq_getElem?_getD, List.getElem?_eq_getElem hj]
  rfl

set_option maxHeartbeats 16000000 in
theorem calReads_walk (n at' : Int) (x : UInt8) (raw : ByteArray) (w : World) (hn : M.I64 n) (hat : M.I64 at') (hD : CDoor w) :
    Calls Tryd.prog 4 #[.int .i64 n, .int .i64 at', bv x, .string raw] w (Tells true w) := by
  have HD := Lib.hid hD
  clear hD
  have cS := some_any n w hn
  have hS := someD_known n
  obtain ⟨x0, hx0⟩ : ∃ x, x = someD n := ⟨_, rfl⟩
  rw [← hx0] at cS hS
  have cT := fun W => refText_any x0 W
  have hml := dtext_len hS
  obtain ⟨m, hm⟩ : ∃ m, m = dtext x0 := ⟨_, rfl⟩
  rw [← hm] at cT hml
  obtain ⟨s, hs⟩ : ∃ s, s = bs m := ⟨_, rfl⟩
  have hms : sb s = m := by rw [hs, sb_bs]
  have hsz : s.size = 10 := by rw [hs, size_bs]; exact hml
  rw [← hs] at cT
  have cA := fun W => around_any at' 10 W hat (small64 _ (by decide) (by decide))
  have lA := around_lt at' 10 (by decide)
  obtain ⟨k, hk⟩ : ∃ k : Nat, (k : Int) = around at' 10 := ⟨(around at' 10).toNat, by omega⟩
  rw [← hk] at cA lA
  have hkl : k < 10 := by omega
  have hkl2 : k < s.size := by omega
  have c1 := fun W => run_upto s k (Nat.le_of_lt hkl2) 9 W
  have c3 := fun W => run_from s (k + 1) hkl2 W
  rw [hms] at c1 c3
  obtain ⟨y, hy⟩ : ∃ y, y = bv x := ⟨_, rfl⟩
  rw [← hy]
  have hw1 : IntKind.i64.wrap ((k : Int) + 1) = ((k + 1 : Nat) : Int) := by rw [i64_in _ (by omega) (by omega)]; omega
  have hw2 : wrap64 ((k : Int) + 1) = ((k + 1 : Nat) : Int) := by rw [IntWalk.wrap64_in _ (by omega)]; omega
  have a0 : m.length ≤ 1000 := by omega
  have a1 : (m.take k).length ≤ 1000 := by rw [List.length_take]; omega
  have a2 : (m.drop (k + 1)).length ≤ 1000 := by rw [List.length_drop]; omega
  have cSh := fun W => shortAt_any 12 raw W (by decide)
  obtain ⟨r12, hr12⟩ : ∃ r, r = shortAt 12 raw := ⟨_, rfl⟩
  simp only [← hr12] at cSh
  obtain ⟨L, hL⟩ : ∃ L, L = dtexts m k x r12 := ⟨_, rfl⟩
  have hl10 := dtexts_len m k x r12
  rw [← hL] at hl10
  obtain ⟨p, hp⟩ : ∃ p, p = m.take k := ⟨_, rfl⟩
  obtain ⟨q1, hq1⟩ : ∃ p, p = m.drop (k + 1) := ⟨_, rfl⟩
  unfold dtexts at hL
  rw [← hp] at c1 a1 hL
  rw [← hq1] at c3 a2 hL
  rw [← hs] at hL
  obtain ⟨t1, ht1⟩ : ∃ t, t = bs ((p ++ [x]) ++ q1) := ⟨_, rfl⟩
  obtain ⟨t2, ht2⟩ : ∃ t, t = bs (p ++ q1) := ⟨_, rfl⟩
  obtain ⟨t3, ht3⟩ : ∃ t, t = bs (m ++ [x]) := ⟨_, rfl⟩
  rw [← ht1, ← ht2, ← ht3] at hL
  have HT := Lib.hid (And.intro ht1 (And.intro ht2 ht3))
  clear ht1 ht2 ht3
  have CS := Lib.hid cS
  have CT := Lib.hid cT
  have CA := Lib.hid cA
  have CSh := Lib.hid cSh
  have C1 := Lib.hid c1
  have C3 := Lib.hid c3
  have HY := Lib.hid hy
  have HS := Lib.hid hs
  have HWR := Lib.hid (And.intro hw1 hw2)
  have AL := Lib.hid (And.intro a1 (And.intro a2 a0))
  have HL := Lib.hid hL
  have HLS := Lib.hid hl10
  have HZ := Lib.hid hsz
  clear cS cT cA cSh c1 c3 hy hs hw1 hw2 a0 a1 a2 hL hl10 hsz hp hq1 hk hkl hkl2 lA hms hml hm hx0 hS hr12 hn hat
  go_enter Tryd.func4, Tryd.ntmps4
  go_wp2_with fail
  refine CS.out.mono ?_
  rintro e v1 ⟨rfl, hb⟩
  have B1 := Lib.hid hb
  clear hb CS
  go_wp2_with fail
  refine (CT.out _).mono ?_
  rintro e v2 ⟨rfl, hb⟩
  have B2 := Lib.hid (B1.out.trans (hb.mono B1.out.size))
  have hsz := HZ.out
  clear hb B1 CT
  go_wp2_with fail
  clear hsz
  refine (CA.out _).mono ?_
  rintro e w' ⟨rfl, rfl⟩
  generalize (k : Int) = kk at *
  generalize ((k + 1 : Nat) : Int) = kk1 at *
  go_wp2_with fail
  refine wp_region_list [24, 25, 26, 27, 28, 29, 30, 31, 32, 33, 34, 35, 36, 37, 38, 39, 40, 41, 42, 43, 44, 45, 46, 47, 48, 49, 50, 51] [.is (.string s), .is (.string s), .is (.int .i64 kk), .is (.string (bs p)), .is (y), .rowB [x], .is (.string (bs [x])), .is (.string (bs (p ++ [x]))), .is (.string s), .is (.int .i64 kk), .is (.int .i64 kk1), .is (.string (bs q1)), .is (.string (bs ((p ++ [x]) ++ q1))), .is (.string s), .is (.int .i64 kk), .is (.string (bs p)), .is (.string s), .is (.int .i64 kk), .is (.int .i64 kk1), .is (.string (bs q1)), .is (.string (bs (p ++ q1))), .is (.string s), .is (y), .rowB [x], .is (.string (bs [x])), .is (.string (bs (m ++ [x]))), .is (.string raw), .is (.string r12)] (by kernel_rfl) (by kernel_rfl) ?_ ?_
  · intro i hi fb w' hb hd hx o ho
    match i, hi with
    | 0, _ =>
      obtain rfl := Option.some.inj ho
      exact ⟨hx 9 rfl, Below.refl _ _⟩
    | 1, _ =>
      obtain rfl := Option.some.inj ho
      exact ⟨hx 9 rfl, Below.refl _ _⟩
    | 2, _ =>
      obtain rfl := Option.some.inj ho
      exact ⟨hx 10 rfl, Below.refl _ _⟩
    | 3, _ =>
      obtain rfl := Option.some.inj ho
      have e0 : fb.tmps.getD 25 undef = .string s := hd 1 (by kernel_rfl) (by decide)
      have e1 : fb.tmps.getD 26 undef = .int .i64 kk := hd 2 (by kernel_rfl) (by decide)
      have hr := C1.out w'
      rw [← e0, ← e1] at hr
      exact runs_value rfl hr ⟨rfl, Below.refl _ _⟩
    | 4, _ =>
      obtain rfl := Option.some.inj ho
      exact ⟨hx 2 rfl, Below.refl _ _⟩
    | 5, _ =>
      obtain rfl := Option.some.inj ho
      have e : fb.tmps.getD 28 undef = y := hd 4 (by kernel_rfl) (by decide)
      rw [HY.out] at e
      have hbs := build_u8 w' x
      refine runs_value (X := Instr.buildSlice 33 1 #[(0, fb.tmps.getD 28 undef)]) (by unfold execOp; simp [Act.eval]) (by rw [e]; exact hbs) ⟨⟨some ⟨w'.heap.size, 0, none⟩, 1, rfl, rd_new w' [bv x] _, by simp, by decide⟩, (Below.refl _ _).alloc (Nat.le_refl _) _⟩
    | 6, _ =>
      obtain rfl := Option.some.inj ho
      obtain ⟨A', c', e, h1, h2, h3⟩ := hd 5 (by kernel_rfl) (by decide)
      have hcv := conv_bytes w' _ A' [x] c' h1
      rw [← show fb.tmps.getD 29 undef = _ from e] at hcv
      exact runs_value rfl hcv ⟨rfl, Below.refl _ _⟩
    | 7, _ =>
      obtain rfl := Option.some.inj ho
      have e1 : fb.tmps.getD 27 undef = .string (bs p) := hd 3 (by kernel_rfl) (by decide)
      have e2 : fb.tmps.getD 30 undef = .string (bs [x]) := hd 6 (by kernel_rfl) (by decide)
      refine runs_value rfl ?_ ⟨rfl, Below.refl _ _⟩
      rw [show fb.eval (.tmp 27) = _ from e1, show fb.eval (.tmp 30) = _ from e2]
      exact run_add_str _ _ w' (p) ([x]) (by have := AL.out.1; omega) (by simp)
    | 8, _ =>
      obtain rfl := Option.some.inj ho
      exact ⟨hx 9 rfl, Below.refl _ _⟩
    | 9, _ =>
      obtain rfl := Option.some.inj ho
      exact ⟨hx 10 rfl, Below.refl _ _⟩
    | 10, _ =>
      obtain rfl := Option.some.inj ho
      have e0 : fb.tmps.getD 33 undef = .int .i64 kk := hd 9 (by kernel_rfl) (by decide)
      obtain ⟨h1, h2⟩ := HWR.out
      refine runs_value rfl ?_ ⟨rfl, Below.refl _ _⟩
      rw [show fb.eval (.tmp 33) = _ from e0]
      clear hd hx HWR C1 C3 HL HLS AL HS CSh CA
      go_simp
    | 11, _ =>
      obtain rfl := Option.some.inj ho
      have e0 : fb.tmps.getD 32 undef = .string s := hd 8 (by kernel_rfl) (by decide)
      have e1 : fb.tmps.getD 34 undef = .int .i64 kk1 := hd 10 (by kernel_rfl) (by decide)
      have hr := C3.out w'
      rw [← e0, ← e1] at hr
      exact runs_value rfl hr ⟨rfl, Below.refl _ _⟩
    | 12, _ =>
      obtain rfl := Option.some.inj ho
      have e1 : fb.tmps.getD 31 undef = .string (bs (p ++ [x])) := hd 7 (by kernel_rfl) (by decide)
      have e2 : fb.tmps.getD 35 undef = .string (bs q1) := hd 11 (by kernel_rfl) (by decide)
      refine runs_value rfl ?_ ⟨rfl, Below.refl _ _⟩
      rw [show fb.eval (.tmp 31) = _ from e1, show fb.eval (.tmp 35) = _ from e2]
      exact run_add_str _ _ w' ((p ++ [x])) (q1) (by have := AL.out.1; simp; omega) (by have := AL.out.2.1; omega)
    | 13, _ =>
      obtain rfl := Option.some.inj ho
      exact ⟨hx 9 rfl, Below.refl _ _⟩
    | 14, _ =>
      obtain rfl := Option.some.inj ho
      exact ⟨hx 10 rfl, Below.refl _ _⟩
    | 15, _ =>
      obtain rfl := Option.some.inj ho
      have e0 : fb.tmps.getD 37 undef = .string s := hd 13 (by kernel_rfl) (by decide)
      have e1 : fb.tmps.getD 38 undef = .int .i64 kk := hd 14 (by kernel_rfl) (by decide)
      have hr := C1.out w'
      rw [← e0, ← e1] at hr
      exact runs_value rfl hr ⟨rfl, Below.refl _ _⟩
    | 16, _ =>
      obtain rfl := Option.some.inj ho
      exact ⟨hx 9 rfl, Below.refl _ _⟩
    | 17, _ =>
      obtain rfl := Option.some.inj ho
      exact ⟨hx 10 rfl, Below.refl _ _⟩
    | 18, _ =>
      obtain rfl := Option.some.inj ho
      have e0 : fb.tmps.getD 41 undef = .int .i64 kk := hd 17 (by kernel_rfl) (by decide)
      obtain ⟨h1, h2⟩ := HWR.out
      refine runs_value rfl ?_ ⟨rfl, Below.refl _ _⟩
      rw [show fb.eval (.tmp 41) = _ from e0]
      clear hd hx HWR C1 C3 HL HLS AL HS CSh CA
      go_simp
    | 19, _ =>
      obtain rfl := Option.some.inj ho
      have e0 : fb.tmps.getD 40 undef = .string s := hd 16 (by kernel_rfl) (by decide)
      have e1 : fb.tmps.getD 42 undef = .int .i64 kk1 := hd 18 (by kernel_rfl) (by decide)
      have hr := C3.out w'
      rw [← e0, ← e1] at hr
      exact runs_value rfl hr ⟨rfl, Below.refl _ _⟩
    | 20, _ =>
      obtain rfl := Option.some.inj ho
      have e1 : fb.tmps.getD 39 undef = .string (bs p) := hd 15 (by kernel_rfl) (by decide)
      have e2 : fb.tmps.getD 43 undef = .string (bs q1) := hd 19 (by kernel_rfl) (by decide)
      refine runs_value rfl ?_ ⟨rfl, Below.refl _ _⟩
      rw [show fb.eval (.tmp 39) = _ from e1, show fb.eval (.tmp 43) = _ from e2]
      exact run_add_str _ _ w' (p) (q1) (by have := AL.out.1; omega) (by have := AL.out.2.1; omega)
    | 21, _ =>
      obtain rfl := Option.some.inj ho
      exact ⟨hx 9 rfl, Below.refl _ _⟩
    | 22, _ =>
      obtain rfl := Option.some.inj ho
      exact ⟨hx 2 rfl, Below.refl _ _⟩
    | 23, _ =>
      obtain rfl := Option.some.inj ho
      have e : fb.tmps.getD 46 undef = y := hd 22 (by kernel_rfl) (by decide)
      rw [HY.out] at e
      have hbs := build_u8 w' x
      refine runs_value (X := Instr.buildSlice 33 1 #[(0, fb.tmps.getD 46 undef)]) (by unfold execOp; simp [Act.eval]) (by rw [e]; exact hbs) ⟨⟨some ⟨w'.heap.size, 0, none⟩, 1, rfl, rd_new w' [bv x] _, by simp, by decide⟩, (Below.refl _ _).alloc (Nat.le_refl _) _⟩
    | 24, _ =>
      obtain rfl := Option.some.inj ho
      obtain ⟨A', c', e, h1, h2, h3⟩ := hd 23 (by kernel_rfl) (by decide)
      have hcv := conv_bytes w' _ A' [x] c' h1
      rw [← show fb.tmps.getD 47 undef = _ from e] at hcv
      exact runs_value rfl hcv ⟨rfl, Below.refl _ _⟩
    | 25, _ =>
      obtain rfl := Option.some.inj ho
      have e1 : fb.tmps.getD 45 undef = .string s := hd 21 (by kernel_rfl) (by decide)
      rw [HS.out] at e1
      have e2 : fb.tmps.getD 48 undef = .string (bs [x]) := hd 24 (by kernel_rfl) (by decide)
      refine runs_value rfl ?_ ⟨rfl, Below.refl _ _⟩
      rw [show fb.eval (.tmp 45) = _ from e1, show fb.eval (.tmp 48) = _ from e2]
      exact run_add_str _ _ w' (m) ([x]) (by have := AL.out.2.2; omega) (by simp)
    | 26, _ =>
      obtain rfl := Option.some.inj ho
      exact ⟨hx 3 rfl, Below.refl _ _⟩
    | 27, _ =>
      obtain rfl := Option.some.inj ho
      have e1 : fb.tmps.getD 50 undef = .string raw := hd 26 (by kernel_rfl) (by decide)
      refine runs_call rfl (fun _ _ => rfl) ?_
      show Calls _ _ #[fb.tmps.getD 50 undef, .int .i64 12] w' _
      rw [e1]
      exact (CSh.out w').mono fun e w'' h => ⟨_, h.1, rfl, by rw [h.2]; exact Below.refl _ _⟩
    | n + 28, h => exact absurd h (by simp)
  · intro vals w' hb hf
    have f0 : vals 0 = .string s := hf 0 (by decide)
    have f4 : vals 27 = .string r12 := hf 27 (by decide)
    have f1 : vals 12 = .string t1 := by rw [HT.out.1]; exact hf 12 (by decide)
    have f2 : vals 20 = .string t2 := by rw [HT.out.2.1]; exact hf 20 (by decide)
    have f3 : vals 25 = .string t3 := by rw [HT.out.2.2]; exact hf 25 (by decide)
    simp only [puts, List.length_cons, List.length_nil, Nat.zero_add, Nat.reduceAdd, List.drop_succ_cons, List.drop_zero, f0, f1, f2, f3, f4]
    have B3 := Lib.hid (B2.out.trans (hb.mono B2.out.size))
    clear f0 f1 f2 f3 f4 hf hb B2 C1 C3 HWR AL HY CSh CA HT
    go_frame
    go_wp2_with fail
    have hL2 : L = [s, t1, t2, t3, r12, ⟨#[50, 48, 48, 48, 45, 49, 45, 48, 49, 49]⟩, ⟨#[43, 50, 48, 48, 45, 48, 49, 45, 48, 49]⟩, ⟨#[50, 48, 48, 48, 45, 48, 50, 45, 51, 48]⟩, ⟨#[49, 53, 57, 57, 45, 49, 50, 45, 51, 49]⟩, ⟨#[50, 48, 48, 48, 45, 43, 49, 45, 48, 49]⟩] := HL.out
    have hS : KeptD w w'.heap.size L (w'.alloc (.cells (([s, t1, t2, t3, r12, ⟨#[50, 48, 48, 48, 45, 49, 45, 48, 49, 49]⟩, ⟨#[43, 50, 48, 48, 45, 48, 49, 45, 48, 49]⟩, ⟨#[50, 48, 48, 48, 45, 48, 50, 45, 51, 48]⟩, ⟨#[49, 53, 57, 57, 45, 49, 50, 45, 51, 49]⟩, ⟨#[50, 48, 48, 48, 45, 43, 49, 45, 48, 49]⟩] : List ByteArray).map sv).toArray 9)) := by
      rw [← hL2]
      exact ⟨Blk.new _ _ _, B3.out.alloc B3.out.size _⟩
    have S0 := Lib.hid hS
    clear hS hL2 HL B3 HS HZ
    generalize w'.heap.size = bb at *
    go_loopw [12] (fun i wr => ∃ n : Nat, n ≤ 10 ∧ i = .int .i64 n ∧ KeptD w bb L wr) (fun i _ => 10 - (intOf i).toNat)
    case atStart => exact ⟨0, by omega, rfl, S0.out⟩
    case round =>
      obtain ⟨j, hj, rfl, hM⟩ := hrel
      have M1 := Lib.hid hM
      clear hM S0
      by_cases hlt : j < 10
      · have i1 : (j : Int) < 10 := by omega
        have i0 : (0 : Int) ≤ j := by omega
        have hcell := fun W (h : KeptD w bb L W) => h.at j (by rw [HLS.out]; exact hlt) (L.getD j ByteArray.empty) rfl
        generalize L.getD j ByteArray.empty = f at *
        have g1 := fun W h => calParse_any f W h
        have g2 := fun W => refParse_any f W
        obtain ⟨a, ha⟩ : ∃ a, a = readV (sb f) := ⟨_, rfl⟩
        obtain ⟨b, hb⟩ : ∃ a, a = readE (sb f) := ⟨_, rfl⟩
        simp only [← ha, ← hb] at g1 g2
        have G1 := Lib.hid g1
        have G2 := Lib.hid g2
        have HC := Lib.hid hcell
        have c0 := HC.out _ M1.out
        clear g1 g2 hcell ha hb
        go_wp2_with fail
        refine (G1.out _ (HD.out.below M1.out.2 (Nat.le_refl _))).mono ?_
        rintro e1 v1 ⟨rfl, hb⟩
        have M2 := Lib.hid (M1.out.step hb)
        clear hb M1 c0
        have c0 := HC.out _ M2.out
        go_wp2_with fail
        refine (G2.out _).mono ?_
        rintro e2 v2 ⟨rfl, hb⟩
        have M4 := Lib.hid (M2.out.step hb)
        clear hb M2 c0
        go_wp2_with fail
        go_roundw
        case rel => exact ⟨j + 1, by omega, by go_num, M4.out⟩
        case measure => simp [intOf]; omega
      · have i1 : ¬ ((j : Int) < 10) := by omega
        go_wp2_with fail
        refine (calLives_any _ (HD.out.below M1.out.2 (Nat.le_refl _))).mono ?_
        rintro e w9 ⟨rfl, hb⟩
        have B9 := Lib.hid (M1.out.2.trans (hb.mono M1.out.2.size))
        clear hb M1
        go_wp2_with fail
        go_ret
        exact ⟨rfl, B9.out⟩
theorem calReads_walk2 (n at' y : Int) (raw : ByteArray) (w : World) (hn : M.I64 n) (hat : M.I64 at') (hy : 0 ≤ y ∧ y ≤ 255) (hD : CDoor w) :
    Calls Tryd.prog 4 #[.int .i64 n, .int .i64 at', .int .u8 y, .string raw] w (Tells true w) := by
  have h := calReads_walk n at' (UInt8.ofNat y.toNat) raw w hn hat hD
  have e : bv (UInt8.ofNat y.toNat) = .int .u8 y := by
    unfold bv
    congr 1
    simp only [UInt8.toNat_ofNat']
    omega
  rwa [e] at h
end Go.Proofs.YtkenfgifhebnpaaDoor
