/- The contracts of dioramaref04.digits and dioramaref04.Text. -/
import Derived.Test.YtbkgigbalnmbkaaDoorRatioRa
namespace Go.Proofs.YtbkgigbalnmbkaaDoor
open Go.RowKit
set_option linter.unusedVariables false
set_option maxRecDepth 100000

theorem run_quo10 (n : Nat) (X Y : Operand) (W : World) (h : n < 9223372036854775808) : (do eqGuard .quo 3 X Y (.int .i64 n) (.int .i64 10); binOp .quo 3 (.int .i64 n) (.int .i64 10) : Sem Value).run Tryd.prog W = .ok (.int .i64 ((n / 10 : Nat) : Int)) W := by
  have e : ((n / 10 : Nat) : Int) = (n : Int).tdiv 10 := by rw [Int.tdiv_eq_ediv_of_nonneg (by omega)]; omega
  have e2 : IntKind.i64.wrap ((n : Int).tdiv 10) = (n : Int).tdiv 10 := i64_in _ (by rw [← e]; omega) (by rw [← e]; omega)
  rw [e]
  clear e h
  generalize (n : Int) = x at *
  go_simp
theorem run_rem10 (n : Nat) (X Y : Operand) (W : World) : (do eqGuard .rem 3 X Y (.int .i64 n) (.int .i64 10); binOp .rem 3 (.int .i64 n) (.int .i64 10) : Sem Value).run Tryd.prog W = .ok (.int .i64 ((n % 10 : Nat) : Int)) W := by
  have e : ((n % 10 : Nat) : Int) = (n : Int).tmod 10 := by rw [Int.tmod_eq_emod_of_nonneg (by omega)]; omega
  rw [e]
  clear e
  generalize (n : Int) = x at *
  go_simp
theorem run_add48 (k : Nat) (X Y : Operand) (W : World) (h : k < 10) : (do eqGuard .add 3 X Y (.int .i64 48) (.int .i64 k); binOp .add 3 (.int .i64 48) (.int .i64 k) : Sem Value).run Tryd.prog W = .ok (.int .i64 (48 + (k : Int))) W := by
  have e2 : IntKind.i64.wrap (48 + (k : Int)) = 48 + (k : Int) := i64_in _ (by omega) (by omega)
  have e3 : wrap64 (48 + (k : Int)) = 48 + (k : Int) := IntWalk.wrap64_in _ (by omega)
  clear h
  generalize (k : Int) = x at *
  go_simp
theorem run_conv8 (k : Nat) (W : World) (h : k < 10) : (convert 3 5 (.int .i64 (48 + (k : Int)))).run Tryd.prog W = .ok (bv (UInt8.ofNat (48 + k))) W := by
  have e : bv (UInt8.ofNat (48 + k)) = .int .u8 (48 + (k : Int)) := by
    unfold bv
    congr 1
    rw [Rt.ofNat_dig h]; omega
  rw [e]
  have h2 : IntKind.u8.wrap (48 + (k : Int)) = 48 + (k : Int) := by rw [IntKind.wrap_u8]; omega
  go_simp
/-- What a slice of bytes reads as. -/
def Fact.bytes (l : List UInt8) : Fact :=
  ⟨fun v w => ∃ A c, v = .slice A l.length c ∧ RdB w w.heap.size A l ∧ l.length ≤ c ∧ c ≤ maxLen, fun _ _ _ ⟨A, c, h1, h2, h3, h4⟩ hb => ⟨A, c, h1, (h2.below hb).more hb.size, h3, h4⟩⟩
theorem run_buildSlice_u8 (w : World) (x : UInt8) : (Instr.buildSlice 38 1 #[(0, bv x)]).run Tryd.prog w = .ok (.slice (some ⟨w.heap.size, 0, none⟩) 1 1) (w.alloc (.cells #[bv x] 5)) := by
  unfold bv
  go_simp
theorem dec_len21 (n : Nat) (h : n < 9223372036854775808) : (Lib.decDigits n).length ≤ 21 := by
  have h1 := Lib.itoa_length_le (n : Int) (by omega) (by omega)
  rw [Rt.itoa_pos (by omega)] at h1
  simpa using h1

set_option maxHeartbeats 4000000 in
theorem digits_any : ∀ (n : Nat) (w : World), n < 9223372036854775808 → Calls Tryd.prog 39 #[.int .i64 n] w (Says (.string (bs (Lib.decDigits n))) w) := by
  intro n
  induction n using Nat.strongRecOn with
  | _ n ih =>
    intro w hn
    obtain ⟨t, ht⟩ : ∃ t, t = Lib.decDigits n := ⟨_, rfl⟩
    rw [← ht]
    rw [Lib.decDigits] at ht
    by_cases h : n < 10
    · rw [dif_pos h] at ht
      have c8 := fun W => run_conv8 n W h
      have hi : (n : Int) < 10 := by omega
      have h0 : (0 : Int) ≤ n := by omega
      have HT := Lib.hid ht
      have h1 : wrap64 (48 + (n : Int)) = 48 + (n : Int) := IntWalk.wrap64_in _ (by omega)
      generalize UInt8.ofNat (48 + n) = x at *
      unfold bv at c8
      have hcv : (convert 38 9 (.slice (some ⟨w.heap.size, 0, none⟩) 1 1)).run Tryd.prog (w.alloc (.cells #[.int .u8 (x.toNat : Int)] 5)) = .ok (.string (bs [x])) (w.alloc (.cells #[.int .u8 (x.toNat : Int)] 5)) :=
        conv_bytes (w.alloc (.cells #[.int .u8 (x.toNat : Int)] 5)) _ (some ⟨w.heap.size, 0, none⟩) [x] 1 (rd_new w [bv x] _)
      clear ih ht
      go_enter Tryd.func39, Tryd.ntmps39
      go_wp2_with fail
      go_ret
      exact ⟨by rw [HT.out]; rfl, (Below.refl _ _).alloc (Nat.le_refl _) _⟩
    · rw [dif_neg h] at ht
      obtain ⟨p, hp⟩ : ∃ p, p = Lib.decDigits (n / 10) := ⟨_, rfl⟩
      have hpl := dec_len21 (n / 10) (by omega)
      have hI := fun W => ih (n / 10) (by omega) W (by omega)
      rw [← hp] at hI hpl ht
      have c8 := fun W => run_conv8 (n % 10) W (Nat.mod_lt _ (by decide))
      obtain ⟨x, hx⟩ : ∃ x, x = UInt8.ofNat (48 + n % 10) := ⟨_, rfl⟩
      rw [← hx] at ht c8
      have hi : ¬ ((n : Int) < 10) := by omega
      have HI := Lib.hid hI
      have HN := Lib.hid hn
      have HP := Lib.hid hpl
      have C8 := Lib.hid c8
      have HT := Lib.hid ht
      clear ih ht hp hpl hI hx hn c8 h
      go_enter Tryd.func39, Tryd.ntmps39
      go_wp2_with fail
      refine wp_region_list [10, 11, 12, 13, 14, 15, 16, 17, 18, 19] [.is (.int .i64 n), .is (.int .i64 ((n / 10 : Nat) : Int)), .is (.string (bs p)), .is (.int .i64 n), .is (.int .i64 ((n % 10 : Nat) : Int)), .is (.int .i64 (48 + ((n % 10 : Nat) : Int))), .is (bv x), .bytes [x], .is (.string (bs [x])), .is (.string (bs (p ++ [x])))] (by kernel_rfl) (by kernel_rfl) ?_ ?_
      · intro i hi fb w' hb hd hx o ho
        match i, hi with
        | 0, _ => obtain rfl := Option.some.inj ho; exact ⟨hx 0 rfl, Below.refl _ _⟩
        | 1, _ =>
          obtain rfl := Option.some.inj ho
          have e : fb.tmps.getD 10 undef = .int .i64 n := hd 0 (by kernel_rfl) (by decide)
          refine runs_value rfl ?_ ⟨rfl, Below.refl _ _⟩
          rw [show fb.eval (.tmp 10) = _ from e]
          exact run_quo10 n _ _ w' HN.out
        | 2, _ =>
          obtain rfl := Option.some.inj ho
          have e : fb.tmps.getD 11 undef = .int .i64 ((n / 10 : Nat) : Int) := hd 1 (by kernel_rfl) (by decide)
          refine runs_call rfl (fun _ _ => rfl) ?_
          show Calls _ _ #[fb.tmps.getD 11 undef] w' _
          rw [e]
          exact (HI.out w').mono fun e w'' h => ⟨_, h.1, rfl, h.2⟩
        | 3, _ => obtain rfl := Option.some.inj ho; exact ⟨hx 0 rfl, Below.refl _ _⟩
        | 4, _ =>
          obtain rfl := Option.some.inj ho
          have e : fb.tmps.getD 13 undef = .int .i64 n := hd 3 (by kernel_rfl) (by decide)
          refine runs_value rfl ?_ ⟨rfl, Below.refl _ _⟩
          rw [show fb.eval (.tmp 13) = _ from e]
          exact run_rem10 n _ _ w'
        | 5, _ =>
          obtain rfl := Option.some.inj ho
          have e : fb.tmps.getD 14 undef = .int .i64 ((n % 10 : Nat) : Int) := hd 4 (by kernel_rfl) (by decide)
          refine runs_value rfl ?_ ⟨rfl, Below.refl _ _⟩
          rw [show fb.eval (.tmp 14) = _ from e]
          exact run_add48 (n % 10) _ _ w' (Nat.mod_lt _ (by decide))
        | 6, _ =>
          obtain rfl := Option.some.inj ho
          have e : fb.tmps.getD 15 undef = .int .i64 (48 + ((n % 10 : Nat) : Int)) := hd 5 (by kernel_rfl) (by decide)
          refine runs_value rfl ?_ ⟨rfl, Below.refl _ _⟩
          rw [show fb.eval (.tmp 15) = _ from e]
          exact C8.out w'
        | 7, _ =>
          obtain rfl := Option.some.inj ho
          have e : fb.tmps.getD 16 undef = bv x := hd 6 (by kernel_rfl) (by decide)
          have hbs := run_buildSlice_u8 w' x
          refine runs_value (X := Instr.buildSlice 38 1 #[(0, fb.tmps.getD 16 undef)]) (by unfold execOp; simp [Act.eval]) (by rw [e]; exact hbs) ⟨⟨some ⟨w'.heap.size, 0, none⟩, 1, rfl, rd_new w' [bv x] _, by simp, by decide⟩, (Below.refl _ _).alloc (Nat.le_refl _) _⟩
        | 8, _ =>
          obtain rfl := Option.some.inj ho
          obtain ⟨A, c, e, h1, h2, h3⟩ := hd 7 (by kernel_rfl) (by decide)
          have hcv := conv_bytes w' _ A [x] c h1
          rw [← show fb.tmps.getD 17 undef = _ from e] at hcv
          exact runs_value rfl hcv ⟨rfl, Below.refl _ _⟩
        | 9, _ =>
          obtain rfl := Option.some.inj ho
          have e1 : fb.tmps.getD 12 undef = .string (bs p) := hd 2 (by kernel_rfl) (by decide)
          have e2 : fb.tmps.getD 18 undef = .string (bs [x]) := hd 8 (by kernel_rfl) (by decide)
          refine runs_value rfl ?_ ⟨rfl, Below.refl _ _⟩
          rw [show fb.eval (.tmp 12) = _ from e1, show fb.eval (.tmp 18) = _ from e2]
          exact run_add_str _ _ w' p [x] (by have := HP.out; omega) (by simp)
      · intro vals w' hb hf
        have e9 : vals 9 = .string (bs (p ++ [x])) := hf 9 (by decide)
        rw [← HT.out] at e9
        simp only [puts, List.length_cons, List.length_nil, Nat.zero_add, Nat.reduceAdd, List.drop_succ_cons, List.drop_zero, e9]
        have B := Lib.hid hb
        clear e9 hf hb HT
        go_frame
        go_wp2_with fail
        go_ret
        exact ⟨rfl, B.out⟩

/-- The absolute value and the sign's text. -/
theorem ref_txt {P Q : Int} (h : Rt.Ok P Q) : Rt.text P Q = (if P < 0 then [45] ++ Lib.decDigits P.natAbs else Lib.decDigits P.natAbs) ++ (if 1 < Rt.den Q then [47] ++ Lib.decDigits Q.natAbs else []) := by
  have p1 := Rt.den_pos Q
  rw [Rt.text_ok h]
  unfold Rt.txt
  congr 1
  · by_cases h0 : P < 0
    · rw [Rt.itoa_below h0, if_pos h0]; rfl
    · rw [Rt.itoa_pos (by omega), if_neg h0, show P.toNat = P.natAbs by omega]
  · by_cases h1 : Rt.den Q = 1
    · rw [if_pos h1, if_neg (by omega)]
    · rw [if_neg h1, if_pos (by omega)]
      have hd : Rt.den Q = Q := by unfold Rt.den at h1 ⊢; split at h1 <;> split <;> omega
      rw [hd, Rt.itoa_pos (by omega), show Q.toNat = Q.natAbs by omega]
      rfl

set_option maxHeartbeats 4000000 in
theorem refText_any (P Q : Int) (w : World) (hp : In64 P) (hq : In64 Q) :
    Calls Tryd.prog 18 #[Rv P Q] w (Says (.string (bs (Rt.text P Q))) w) := by
  have g1 := fun W => refValid_any P Q W hp hq
  have g2 := fun W => den_any P Q W
  obtain ⟨t, ht⟩ : ∃ t, t = Rt.text P Q := ⟨_, rfl⟩
  rw [← ht]
  by_cases hO : Rt.Ok P Q
  · rw [decide_eq_true hO] at g1
    have hb := hO.bounds
    have hdl := hO.den_le
    have hdp := Rt.den_pos Q
    rw [ref_txt hO] at ht
    have l1 := dec_len21 P.natAbs (by omega)
    have l2 := dec_len21 Q.natAbs (by omega)
    have g3 := fun W => digits_any P.natAbs W (by omega)
    have g4 := fun W => digits_any Q.natAbs W (by omega)
    have qn : ((Q.natAbs : Nat) : Int) = Q := by omega
    rw [qn] at g4
    have mx : max P (-P) = (P.natAbs : Int) := by omega
    have mw : wrap64 (-P) = -P := IntWalk.wrap64_in _ (by omega)
    generalize Lib.decDigits P.natAbs = X at *
    generalize Lib.decDigits Q.natAbs = Y at *
    generalize (P.natAbs : Int) = N at *
    generalize Rt.den Q = dq at *
    have G1 := Lib.hid g1
    have G2 := Lib.hid g2
    have G3 := Lib.hid g3
    have G4 := Lib.hid g4
    have HT := Lib.hid ht
    have HX := Lib.hid (And.intro l1 l2)
    clear g1 g2 g3 g4 ht l1 l2 hp hq hO hb hdl qn
    show Calls _ _ #[.agg #[.int .i64 P, .int .i64 Q]] _ _
    go_enter Tryd.func18, Tryd.ntmps18
    go_wp2_with fail
    refine (G1.out _).mono ?_
    rintro e w2 ⟨rfl, hb⟩
    have l2 := (Blk.new w (Rc P Q) 23).below hb (by simp)
    have L := Lib.hid (And.intro l2 (((Below.refl w.heap.size w).alloc (Nat.le_refl _) (.cells (Rc P Q).toArray 23)).trans (hb.mono (by simp))))
    obtain ⟨⟨d0, d1⟩, -, -⟩ := Rc_facts l2
    clear hb l2 G1
    by_cases hP : P < 0
    · by_cases hd : 1 < dq
      · skip
        have c1 : (⟨#[45]⟩ : ByteArray) ++ bs X = bs ([45] ++ X) := bs_add [45] X
        have z1 : (⟨#[45]⟩ : ByteArray).size = 1 := rfl
        have z2 : (bs X).size = X.length := size_bs X
        have z6 : (bs Y).size = Y.length := size_bs Y
        have z3 : (⟨#[47]⟩ : ByteArray).size = 1 := rfl
        have zx := HX.out
        have c2 : bs ([45] ++ X) ++ (⟨#[47]⟩ : ByteArray) = bs (([45] ++ X) ++ [47]) := bs_add ([45] ++ X) [47]
        have c3 : bs (([45] ++ X) ++ [47]) ++ bs Y = bs (([45] ++ X) ++ [47] ++ Y) := bs_add (([45] ++ X) ++ [47]) Y
        have z4 : (bs ([45] ++ X)).size ≤ 22 := by rw [size_bs]; first | omega | (simp; omega)
        have z5 : (bs (([45] ++ X) ++ [47])).size ≤ 23 := by rw [size_bs]; first | omega | (simp; omega)
        obtain ⟨B0, hB0⟩ : ∃ b, b = bs ([45] ++ X) := ⟨_, rfl⟩
        obtain ⟨B1, hB1⟩ : ∃ b, b = bs (([45] ++ X) ++ [47]) := ⟨_, rfl⟩
        obtain ⟨B2, hB2⟩ : ∃ b, b = bs (([45] ++ X) ++ [47] ++ Y) := ⟨_, rfl⟩
        rw [← hB0, ← hB1] at c2
        rw [← hB1, ← hB2] at c3
        rw [← hB0] at z4
        rw [← hB1] at z5
        rw [← hB0] at c1
        have HB := Lib.hid (And.intro hB0 (And.intro hB1 hB2))
        have q1 : ¬ 9223372036854775807 < (⟨#[45]⟩ : ByteArray).size + (bs X).size := by rw [z1, z2]; omega
        have q2 : ¬ 9223372036854775807 < B0.size + (⟨#[47]⟩ : ByteArray).size := by rw [z3]; omega
        have q3 : ¬ 9223372036854775807 < B1.size + (bs Y).size := by rw [z6]; omega
        clear hB0 hB1 hB2 z1 z2 z3 z4 z5 z6 zx HX
        go_wp2_with fail
        refine (G3.out _).mono ?_
        rintro e w3 ⟨rfl, hb⟩
        have l3 := L.out.1.below hb L.out.1.lt
        have L3 := Lib.hid (And.intro l3 (L.out.2.trans (hb.mono L.out.2.size)))
        clear hb L d0 d1
        obtain ⟨⟨d0, d1⟩, -, -⟩ := Rc_facts l3
        clear l3
        go_wp2_with fail
        refine (G2.out _).mono ?_
        rintro e w4 ⟨rfl, hb⟩
        have l4 := L3.out.1.below hb L3.out.1.lt
        have L4 := Lib.hid (And.intro l4 (L3.out.2.trans (hb.mono L3.out.2.size)))
        clear hb L3 d0 d1
        obtain ⟨⟨d0, d1⟩, -, -⟩ := Rc_facts l4
        clear l4
        go_wp2_with fail
        refine (G4.out _).mono ?_
        rintro e w5 ⟨rfl, hb⟩
        have B := Lib.hid (L4.out.2.trans (hb.mono L4.out.2.size))
        clear hb L4 d0 d1
        go_wp2_with fail
        go_ret
        refine ⟨?_, B.out⟩
        rw [HT.out, if_pos hP, if_pos hd, ← List.append_assoc, ← HB.out.2.2]
        rfl
      · skip
        have c1 : (⟨#[45]⟩ : ByteArray) ++ bs X = bs ([45] ++ X) := bs_add [45] X
        have z1 : (⟨#[45]⟩ : ByteArray).size = 1 := rfl
        have z2 : (bs X).size = X.length := size_bs X
        have z6 : (bs Y).size = Y.length := size_bs Y
        have z3 : (⟨#[47]⟩ : ByteArray).size = 1 := rfl
        have zx := HX.out
        have c2 : bs ([45] ++ X) ++ (⟨#[47]⟩ : ByteArray) = bs (([45] ++ X) ++ [47]) := bs_add ([45] ++ X) [47]
        have c3 : bs (([45] ++ X) ++ [47]) ++ bs Y = bs (([45] ++ X) ++ [47] ++ Y) := bs_add (([45] ++ X) ++ [47]) Y
        have z4 : (bs ([45] ++ X)).size ≤ 22 := by rw [size_bs]; first | omega | (simp; omega)
        have z5 : (bs (([45] ++ X) ++ [47])).size ≤ 23 := by rw [size_bs]; first | omega | (simp; omega)
        obtain ⟨B0, hB0⟩ : ∃ b, b = bs ([45] ++ X) := ⟨_, rfl⟩
        obtain ⟨B1, hB1⟩ : ∃ b, b = bs (([45] ++ X) ++ [47]) := ⟨_, rfl⟩
        obtain ⟨B2, hB2⟩ : ∃ b, b = bs (([45] ++ X) ++ [47] ++ Y) := ⟨_, rfl⟩
        rw [← hB0, ← hB1] at c2
        rw [← hB1, ← hB2] at c3
        rw [← hB0] at z4
        rw [← hB1] at z5
        rw [← hB0] at c1
        have HB := Lib.hid (And.intro hB0 (And.intro hB1 hB2))
        have q1 : ¬ 9223372036854775807 < (⟨#[45]⟩ : ByteArray).size + (bs X).size := by rw [z1, z2]; omega
        have q2 : ¬ 9223372036854775807 < B0.size + (⟨#[47]⟩ : ByteArray).size := by rw [z3]; omega
        have q3 : ¬ 9223372036854775807 < B1.size + (bs Y).size := by rw [z6]; omega
        clear hB0 hB1 hB2 z1 z2 z3 z4 z5 z6 zx HX
        go_wp2_with fail
        refine (G3.out _).mono ?_
        rintro e w3 ⟨rfl, hb⟩
        have l3 := L.out.1.below hb L.out.1.lt
        have L3 := Lib.hid (And.intro l3 (L.out.2.trans (hb.mono L.out.2.size)))
        clear hb L d0 d1
        obtain ⟨⟨d0, d1⟩, -, -⟩ := Rc_facts l3
        clear l3
        go_wp2_with fail
        refine (G2.out _).mono ?_
        rintro e w4 ⟨rfl, hb⟩
        have l4 := L3.out.1.below hb L3.out.1.lt
        have L4 := Lib.hid (And.intro l4 (L3.out.2.trans (hb.mono L3.out.2.size)))
        clear hb L3 d0 d1
        obtain ⟨⟨d0, d1⟩, -, -⟩ := Rc_facts l4
        clear l4
        go_wp2_with fail
        go_ret
        refine ⟨?_, L4.out.2⟩
        rw [HT.out, if_pos hP, if_neg (by omega), List.append_nil, ← HB.out.1]
        rfl
    · by_cases hd : 1 < dq
      · skip
        have c1 : (⟨#[45]⟩ : ByteArray) ++ bs X = bs ([45] ++ X) := bs_add [45] X
        have z1 : (⟨#[45]⟩ : ByteArray).size = 1 := rfl
        have z2 : (bs X).size = X.length := size_bs X
        have z6 : (bs Y).size = Y.length := size_bs Y
        have z3 : (⟨#[47]⟩ : ByteArray).size = 1 := rfl
        have zx := HX.out
        have c2 : bs X ++ (⟨#[47]⟩ : ByteArray) = bs (X ++ [47]) := bs_add X [47]
        have c3 : bs (X ++ [47]) ++ bs Y = bs (X ++ [47] ++ Y) := bs_add (X ++ [47]) Y
        have z4 : (bs X).size ≤ 22 := by rw [size_bs]; first | omega | (simp; omega)
        have z5 : (bs (X ++ [47])).size ≤ 23 := by rw [size_bs]; first | omega | (simp; omega)
        obtain ⟨B0, hB0⟩ : ∃ b, b = bs X := ⟨_, rfl⟩
        obtain ⟨B1, hB1⟩ : ∃ b, b = bs (X ++ [47]) := ⟨_, rfl⟩
        obtain ⟨B2, hB2⟩ : ∃ b, b = bs (X ++ [47] ++ Y) := ⟨_, rfl⟩
        rw [← hB0, ← hB1] at c2
        rw [← hB1, ← hB2] at c3
        rw [← hB0] at z4
        rw [← hB1] at z5
        rw [← hB0] at G3 z2
        clear c1
        have HB := Lib.hid (And.intro hB0 (And.intro hB1 hB2))
        have q2 : ¬ 9223372036854775807 < B0.size + (⟨#[47]⟩ : ByteArray).size := by rw [z3]; omega
        have q3 : ¬ 9223372036854775807 < B1.size + (bs Y).size := by rw [z6]; omega
        clear hB0 hB1 hB2 z1 z2 z3 z4 z5 z6 zx HX
        go_wp2_with fail
        refine (G3.out _).mono ?_
        rintro e w3 ⟨rfl, hb⟩
        have l3 := L.out.1.below hb L.out.1.lt
        have L3 := Lib.hid (And.intro l3 (L.out.2.trans (hb.mono L.out.2.size)))
        clear hb L d0 d1
        obtain ⟨⟨d0, d1⟩, -, -⟩ := Rc_facts l3
        clear l3
        go_wp2_with fail
        refine (G2.out _).mono ?_
        rintro e w4 ⟨rfl, hb⟩
        have l4 := L3.out.1.below hb L3.out.1.lt
        have L4 := Lib.hid (And.intro l4 (L3.out.2.trans (hb.mono L3.out.2.size)))
        clear hb L3 d0 d1
        obtain ⟨⟨d0, d1⟩, -, -⟩ := Rc_facts l4
        clear l4
        go_wp2_with fail
        refine (G4.out _).mono ?_
        rintro e w5 ⟨rfl, hb⟩
        have B := Lib.hid (L4.out.2.trans (hb.mono L4.out.2.size))
        clear hb L4 d0 d1
        go_wp2_with fail
        go_ret
        refine ⟨?_, B.out⟩
        rw [HT.out, if_neg (by omega), if_pos hd, ← List.append_assoc, ← HB.out.2.2]
        rfl
      · skip
        have c1 : (⟨#[45]⟩ : ByteArray) ++ bs X = bs ([45] ++ X) := bs_add [45] X
        have z1 : (⟨#[45]⟩ : ByteArray).size = 1 := rfl
        have z2 : (bs X).size = X.length := size_bs X
        have z6 : (bs Y).size = Y.length := size_bs Y
        have z3 : (⟨#[47]⟩ : ByteArray).size = 1 := rfl
        have zx := HX.out
        have c2 : bs X ++ (⟨#[47]⟩ : ByteArray) = bs (X ++ [47]) := bs_add X [47]
        have c3 : bs (X ++ [47]) ++ bs Y = bs (X ++ [47] ++ Y) := bs_add (X ++ [47]) Y
        have z4 : (bs X).size ≤ 22 := by rw [size_bs]; first | omega | (simp; omega)
        have z5 : (bs (X ++ [47])).size ≤ 23 := by rw [size_bs]; first | omega | (simp; omega)
        obtain ⟨B0, hB0⟩ : ∃ b, b = bs X := ⟨_, rfl⟩
        obtain ⟨B1, hB1⟩ : ∃ b, b = bs (X ++ [47]) := ⟨_, rfl⟩
        obtain ⟨B2, hB2⟩ : ∃ b, b = bs (X ++ [47] ++ Y) := ⟨_, rfl⟩
        rw [← hB0, ← hB1] at c2
        rw [← hB1, ← hB2] at c3
        rw [← hB0] at z4
        rw [← hB1] at z5
        rw [← hB0] at G3 z2
        clear c1
        have HB := Lib.hid (And.intro hB0 (And.intro hB1 hB2))
        have q2 : ¬ 9223372036854775807 < B0.size + (⟨#[47]⟩ : ByteArray).size := by rw [z3]; omega
        have q3 : ¬ 9223372036854775807 < B1.size + (bs Y).size := by rw [z6]; omega
        clear hB0 hB1 hB2 z1 z2 z3 z4 z5 z6 zx HX
        go_wp2_with fail
        refine (G3.out _).mono ?_
        rintro e w3 ⟨rfl, hb⟩
        have l3 := L.out.1.below hb L.out.1.lt
        have L3 := Lib.hid (And.intro l3 (L.out.2.trans (hb.mono L.out.2.size)))
        clear hb L d0 d1
        obtain ⟨⟨d0, d1⟩, -, -⟩ := Rc_facts l3
        clear l3
        go_wp2_with fail
        refine (G2.out _).mono ?_
        rintro e w4 ⟨rfl, hb⟩
        have l4 := L3.out.1.below hb L3.out.1.lt
        have L4 := Lib.hid (And.intro l4 (L3.out.2.trans (hb.mono L3.out.2.size)))
        clear hb L3 d0 d1
        obtain ⟨⟨d0, d1⟩, -, -⟩ := Rc_facts l4
        clear l4
        go_wp2_with fail
        go_ret
        refine ⟨?_, L4.out.2⟩
        rw [HT.out, if_neg (by omega), if_neg (by omega), List.append_nil, ← HB.out.1]
        rfl
  · rw [decide_eq_false hO] at g1
    have HT := Lib.hid (show t = [] by rw [ht]; exact if_neg hO)
    have G1 := Lib.hid g1
    clear g1 g2 ht hp hq hO
    show Calls _ _ #[.agg #[.int .i64 P, .int .i64 Q]] _ _
    go_enter Tryd.func18, Tryd.ntmps18
    go_wp2_with fail
    refine (G1.out _).mono ?_
    rintro e w2 ⟨rfl, hb⟩
    have B := Lib.hid (((Below.refl w.heap.size w).alloc (Nat.le_refl _) (.cells (Rc P Q).toArray 23)).trans (hb.mono (by simp)))
    clear hb
    go_wp2_with fail
    go_ret
    exact ⟨by rw [HT.out]; rfl, B.out⟩
end Go.Proofs.YtbkgigbalnmbkaaDoor
