/- The contract of ratio.Text. -/
import Derived.Test.YtbkgigbalnmbkaaDoorRatioDoor
import Derived.Test.YtbkgigbalnmbkaaDoorRatioPi
import Derived.Lib.ItoaLen
namespace Go.Proofs.YtbkgigbalnmbkaaDoor
open Go.RowKit
set_option linter.unusedVariables false
set_option maxRecDepth 100000

theorem below_grow (w : World) (k : Nat) (os : Array Obj) : Below w.heap.size w (Sort.grow (w.drewN k) os) := by
  refine ⟨rfl, rfl, rfl, ?_, fun j hj => ?_⟩
  · simp [Sort.grow]
  · simp [Sort.grow, Array.getElem?_append_left hj]
theorem itoa_any (n : Int) (w : World) (hn : In64 n) (hD : Door w) : Calls Tryd.prog 47 #[.int .i64 n] w (Says (.string (bs (Lib.itoa n))) w) :=
  (Tryd.strconv_Itoa n hn.1 hn.2 w hD.1).mono fun e w' ⟨h1, k, os, h2⟩ => ⟨h1, by rw [h2]; exact below_grow w k os⟩

theorem size_bs (l : List UInt8) : (bs l).size = l.length := by simp [bs, ByteArray.size]
theorem bs_add (x y : List UInt8) : bs x ++ bs y = bs (x ++ y) := ByteArray.mk_append_mk x y
theorem run_add_str (X Y : Operand) (w : World) (x y : List UInt8) (hx : x.length ≤ 8388608) (hy : y.length ≤ 8388608) :
    (do eqGuard .add 9 X Y (.string (bs x)) (.string (bs y)); binOp .add 9 (.string (bs x)) (.string (bs y)) : Sem Value).run Tryd.prog w = .ok (.string (bs (x ++ y))) w := by
  go_simp
  rw [if_neg (by rw [size_bs, size_bs]; omega), bs_add]
theorem run_field0 (W : World) (b : Nat) : (Instr.fieldAt 23 (.pointer (some ⟨b, 0, none⟩)) 0).run Tryd.prog W = .ok (.pointer (some ⟨b, 0, none⟩)) W := by
  go_simp
theorem run_field1 (W : World) (b : Nat) : (Instr.fieldAt 23 (.pointer (some ⟨b, 0, none⟩)) 1).run Tryd.prog W = .ok (.pointer (some ⟨b, 1, none⟩)) W := by
  go_simp
theorem run_load_int (W : World) (b k : Nat) (n : Int) (h : W.cell? ⟨b, k, none⟩ = some (.int .i64 n)) : (Instr.loadAt 3 (.pointer (some ⟨b, k, none⟩))).run Tryd.prog W = .ok (.int .i64 n) W := by
  go_simp

theorem text_reckons {P Q : Int} (h : Rt.Ok P Q) : In64 (Rt.opd P Q) ∧ (Rt.opd P Q = 1 → Rt.text P Q = Lib.itoa P) ∧ (¬ Rt.opd P Q = 1 → Rt.text P Q = Lib.itoa P ++ [47] ++ Lib.itoa (Rt.opd P Q)) ∧ (Lib.itoa P).length ≤ 21 ∧ (Lib.itoa (Rt.opd P Q)).length ≤ 21 := by
  have b1 := h.bounds
  have d1 := h.den_le
  have p1 := Rt.den_pos Q
  rw [Rt.opd_den h, Rt.text_ok h]
  refine ⟨⟨by omega, by omega⟩, fun h1 => ?_, fun h1 => ?_, Lib.itoa_length_le _ (by omega) (by omega), Lib.itoa_length_le _ (by omega) (by omega)⟩
  · unfold Rt.txt; rw [if_pos h1, List.append_nil]
  · unfold Rt.txt; rw [if_neg h1]; simp

set_option maxHeartbeats 4000000 in
theorem text_any (P Q : Int) (w : World) (hp : In64 P) (hq : In64 Q) (hD : Door w) :
    Calls Tryd.prog 29 #[Rv P Q] w (Says (.string (bs (Rt.text P Q))) w) := by
  have h1 := fun W => operand_any P Q W hp hq
  have hre := fun (h : Rt.Ok P Q) => text_reckons h
  obtain ⟨t, ht⟩ : ∃ t, t = Rt.text P Q := ⟨_, rfl⟩
  have hno : ¬ Rt.Ok P Q → t = [] := fun h => by rw [ht]; exact if_neg h
  obtain ⟨q, hqq⟩ : ∃ q, q = Rt.opd P Q := ⟨_, rfl⟩
  rw [← ht]
  rw [← hqq, ← ht] at hre
  rw [← hqq] at h1
  obtain ⟨z, hz⟩ : ∃ z : Bool, z = decide (Rt.Ok P Q) := ⟨_, rfl⟩
  rw [← hz] at h1
  have hre2 : z = true → _ := fun h => hre (by rw [hz] at h; exact of_decide_eq_true h)
  have hno2 : z = false → t = [] := fun h => hno (by rw [hz] at h; exact of_decide_eq_false h)
  have H1 := Lib.hid h1
  have HR := Lib.hid hre2
  have HN := Lib.hid hno2
  have HP := Lib.hid hp
  have HD := Lib.hid hD
  clear hz hqq ht hno hre hre2 hno2 h1 hp hq hD
  show Calls _ _ #[.agg #[.int .i64 P, .int .i64 Q]] _ _
  go_enter Tryd.func29, Tryd.ntmps29
  go_wp2_with fail
  refine (H1.out _).mono ?_
  rintro e w2 ⟨rfl, hb⟩
  have k0 := Blk.new w (Rc P Q) 23
  have l0 := k0.below hb k0.lt
  have hB2 : Below w.heap.size w w2 := ((Below.refl _ _).alloc (Nat.le_refl _) _).trans (hb.mono (by simp))
  clear k0 hb
  obtain ⟨⟨c00, c01⟩, f00, f01⟩ := Rc_facts l0
  have L := Lib.hid (And.intro (Rc_set l0 P q) (below_set2 (c := w.heap.size) hB2 (Nat.le_refl _) (.int .i64 P) (.int .i64 q)))
  clear l0 hB2
  simp only [Rv_def]
  cases z
  · go_wp2_with fail
    go_ret
    exact ⟨by rw [HN.out trivial]; rfl, L.out.2⟩
  · obtain ⟨r0, r1, r2, r3, r4⟩ := HR.out rfl
    have R := Lib.hid (And.intro r0 (And.intro r1 (And.intro r2 (And.intro r3 r4))))
    clear r0 r1 r2 r3 r4 HR HN H1
    by_cases hq1 : q = 1
    · subst hq1
      go_wp2_with fail
      refine (itoa_any P _ HP.out (HD.out.below L.out.2 (Nat.le_refl _))).mono ?_
      rintro e w5 ⟨rfl, hb⟩
      have hB := L.out.2.trans (hb.mono L.out.2.size)
      have M := Lib.hid hB
      clear hB hb c00 c01 f00 f01
      go_wp2_with fail
      go_ret
      exact ⟨by rw [R.out.2.1 trivial]; rfl, M.out⟩
    · go_wp2_with fail
      refine wp_region_list [19, 20, 21, 22, 23, 24, 25, 26] [.is (.pointer (some ⟨w.heap.size, 0, none⟩)), .is (.int .i64 P), .is (.string (bs (Lib.itoa P))), .is (.string (bs (Lib.itoa P ++ [47]))), .is (.pointer (some ⟨w.heap.size, 1, none⟩)), .is (.int .i64 q), .is (.string (bs (Lib.itoa q))), .is (.string (bs (Lib.itoa P ++ [47] ++ Lib.itoa q)))] (by kernel_rfl) (by kernel_rfl) ?_ ?_
      · intro i hi b w' hb hd hx o ho
        have hD : Door w' := HD.out.below (L.out.2.trans (hb.mono L.out.2.size)) (Nat.le_refl _)
        have hk := L.out.1.below hb L.out.1.lt
        match i, hi with
        | 0, _ =>
          obtain rfl := Option.some.inj ho
          have e : b.tmps.getD 1 undef = .pointer (some ⟨w.heap.size, 0, none⟩) := hx 1 rfl
          have hr := run_field0 w' w.heap.size
          rw [← e] at hr
          exact runs_value rfl hr ⟨e, Below.refl _ _⟩
        | 1, _ =>
          obtain rfl := Option.some.inj ho
          have e : b.tmps.getD 19 undef = .pointer (some ⟨w.heap.size, 0, none⟩) := hd 0 (by kernel_rfl) (by decide)
          have hr := run_load_int w' w.heap.size 0 P (hk.cell 0 _ rfl)
          rw [← e] at hr
          exact runs_value rfl hr ⟨rfl, Below.refl _ _⟩
        | 2, _ =>
          obtain rfl := Option.some.inj ho
          have e : b.tmps.getD 20 undef = .int .i64 P := hd 1 (by kernel_rfl) (by decide)
          refine runs_call rfl (fun _ _ => rfl) ?_
          show Calls _ _ #[b.tmps.getD 20 undef] w' _
          rw [e]
          exact (itoa_any P w' HP.out hD).mono fun e w'' h => ⟨_, h.1, rfl, h.2⟩
        | 3, _ =>
          obtain rfl := Option.some.inj ho
          have e : b.tmps.getD 21 undef = .string (bs (Lib.itoa P)) := hd 2 (by kernel_rfl) (by decide)
          have hr := run_add_str (.tmp 21) (.const (.string (bs [47]))) w' (Lib.itoa P) [47] (by have := R.out.2.2.2.1; omega) (by decide)
          rw [← e] at hr
          exact runs_value rfl hr ⟨rfl, Below.refl _ _⟩
        | 4, _ =>
          obtain rfl := Option.some.inj ho
          have e : b.tmps.getD 1 undef = .pointer (some ⟨w.heap.size, 0, none⟩) := hx 1 rfl
          have hr := run_field1 w' w.heap.size
          rw [← e] at hr
          exact runs_value rfl hr ⟨rfl, Below.refl _ _⟩
        | 5, _ =>
          obtain rfl := Option.some.inj ho
          have e : b.tmps.getD 23 undef = .pointer (some ⟨w.heap.size, 1, none⟩) := hd 4 (by kernel_rfl) (by decide)
          have hr := run_load_int w' w.heap.size 1 q (hk.cell 1 _ rfl)
          rw [← e] at hr
          exact runs_value rfl hr ⟨rfl, Below.refl _ _⟩
        | 6, _ =>
          obtain rfl := Option.some.inj ho
          have e : b.tmps.getD 24 undef = .int .i64 q := hd 5 (by kernel_rfl) (by decide)
          refine runs_call rfl (fun _ _ => rfl) ?_
          show Calls _ _ #[b.tmps.getD 24 undef] w' _
          rw [e]
          exact (itoa_any q w' R.out.1 hD).mono fun e w'' h => ⟨_, h.1, rfl, h.2⟩
        | 7, _ =>
          obtain rfl := Option.some.inj ho
          have e1 : b.tmps.getD 22 undef = .string (bs (Lib.itoa P ++ [47])) := hd 3 (by kernel_rfl) (by decide)
          have e2 : b.tmps.getD 25 undef = .string (bs (Lib.itoa q)) := hd 6 (by kernel_rfl) (by decide)
          have hr := run_add_str (.tmp 22) (.tmp 25) w' (Lib.itoa P ++ [47]) (Lib.itoa q) (by have := R.out.2.2.2.1; simp; omega) (by have := R.out.2.2.2.2; omega)
          rw [← e1, ← e2] at hr
          exact runs_value rfl hr ⟨rfl, Below.refl _ _⟩
      · intro vals w' hb hf
        have e7 : vals 7 = .string (bs (Lib.itoa P ++ [47] ++ Lib.itoa q)) := hf 7 (by decide)
        rw [← R.out.2.2.1 hq1] at e7
        simp only [puts, List.length_cons, List.length_nil, Nat.zero_add, Nat.reduceAdd, List.drop_succ_cons, List.drop_zero, e7]
        have M := Lib.hid (L.out.2.trans (hb.mono L.out.2.size))
        clear e7 hf hb L R
        go_frame
        go_wp2_with fail
        go_ret
        exact ⟨rfl, M.out⟩
end Go.Proofs.YtbkgigbalnmbkaaDoor
