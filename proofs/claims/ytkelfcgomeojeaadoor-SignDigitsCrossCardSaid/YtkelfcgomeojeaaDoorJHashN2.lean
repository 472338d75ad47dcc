import Derived.ChangeKeysEq
import Derived.Laws.StructEq
import Derived.Test.YtkelfcgomeojeaaDoorJGuards
import Derived.Test.YtkelfcgomeojeaaDoorJHashM
import Derived.Test.YtkelfcgomeojeaaDoorJSignRa
import Derived.Test.YtkelfcgomeojeaaDoorJWireRc0
import Derived.Test.YtkelfcgomeojeaaDoorJWireRd1

section
/- Words on bytes. -/


namespace Go.Proofs.YtkelfcgomeojeaaDoor
open Go.RowKit
set_option linter.unusedVariables false
set_option maxRecDepth 100000

theorem index_sb (s : ByteArray) (kd : IntKind) (n : Nat) (h : n < s.size) (w : World) : (Instr.index 9 (.string s) (.int kd (n : Int))).run Tryd.prog w = .ok (.int .u8 (((sb s).getD n 0).toNat : Int)) w := by
  rw [run_index_string w 9 s kd n Tryd.underlying9, dif_pos ⟨by omega, by omega⟩]
  have e : (sb s).getD n 0 = s[n]'h := by
    unfold sb
    rw [List.getD_eq_getElem?_getD, List.getElem?_eq_getElem (by simpa using h)]
    rfl
  rw [e]
  rfl
theorem bor8 (x y : UInt8) : bits .or .u8 (x.toNat : Int) (y.toNat : Int) = ((x ||| y).toNat : Int) := by
  rw [u8_or_nat _ _ x.toNat_lt y.toNat_lt, UInt8.toNat_or]
theorem diff_zero (d x y : UInt8) : d ||| (x ^^^ y) = 0 ↔ d = 0 ∧ x = y := by
  have : ∀ a b : UInt8, a ||| b = 0 ↔ a = 0 ∧ b = 0 := by
    intro a b
    constructor
    · intro h
      have h1 : a.toBitVec ||| b.toBitVec = 0 := congrArg UInt8.toBitVec h
      have h2 := BitVec.or_eq_zero_iff.1 h1
      exact ⟨UInt8.eq_of_toBitVec_eq h2.1, UInt8.eq_of_toBitVec_eq h2.2⟩
    · rintro ⟨rfl, rfl⟩; rfl
  rw [this]
  refine and_congr_right fun _ => ?_
  constructor
  · intro h
    have h1 : x.toBitVec ^^^ y.toBitVec = 0 := congrArg UInt8.toBitVec h
    exact UInt8.eq_of_toBitVec_eq (BitVec.xor_eq_zero_iff.1 h1)
  · rintro rfl
    exact UInt8.eq_of_toBitVec_eq (by show x.toBitVec ^^^ x.toBitVec = 0; exact BitVec.xor_self)
theorem take_eq_succ (l m : List UInt8) (k : Nat) (h : k < l.length) (h' : k < m.length) : l.take (k + 1) = m.take (k + 1) ↔ l.take k = m.take k ∧ l.getD k 0 = m.getD k 0 := by
  rw [List.take_add_one, List.take_add_one, List.getElem?_eq_getElem h, List.getElem?_eq_getElem h', show l.getD k 0 = l[k] from by simp [h], show m.getD k 0 = m[k] from by simp [h']]
  constructor
  · intro e
    have := List.append_inj e (by simp; omega)
    simpa using this
  · rintro ⟨h1, h2⟩
    rw [h1, h2]

end Go.Proofs.YtkelfcgomeojeaaDoor
end

section
/- The equality of two arrays of bytes. -/



namespace Go.Proofs.YtkelfcgomeojeaaDoor
open Go.RowKit
set_option linter.unusedVariables false
set_option maxRecDepth 100000

theorem part_byte (C : List UInt8) (i : Nat) (hi : i < C.length) (w : World) : (part 5 (C.map bv).toArray i).run Tryd.prog w = .ok (bv C[i]) w := by
  simp [part, hi]
theorem info_u8' : ∃ i, Tryd.prog.info? 5 = some i := ⟨_, rfl⟩
theorem cells_u8 : Tryd.prog.cellsOf 5 = 1 := by kernel_rfl
theorem eqItems_bytes (d : Nat) (C D : List UInt8) (w : World) : ∀ is : List Nat, (∀ i ∈ is, i < C.length ∧ i < D.length) →
    (Op.eqItems (d + 1) 5 1 (C.map bv).toArray (D.map bv).toArray is).run Tryd.prog w = .ok (is.all fun i => C[i]? == D[i]?) w := by
  intro is
  induction is with
  | nil => intro _; simp [Op.eqItems]
  | cons i is ih =>
    intro h
    obtain ⟨h1, h2⟩ := h i (by simp)
    have ih' := ih (fun j hj => h j (by simp [hj]))
    simp only [Op.eqItems, Sem.run_bind, Nat.mul_one, part_byte C i h1, part_byte D i h2, Result.andThen_ok, bv]
    rw [run_equalIn_int w d 5 .u8 .u8 _ _ Tryd.underlying5]
    simp only [Result.andThen_ok, List.all_cons, List.getElem?_eq_getElem h1, List.getElem?_eq_getElem h2]
    by_cases he : C[i] = D[i]
    · simp only [he, beq_self_eq_true, Bool.not_true, Bool.false_eq_true, if_false, Bool.true_and]
      exact ih'
    · have hn : ((C[i].toNat : Int) == (D[i].toNat : Int)) = false := by
        simp
        intro h
        exact he (UInt8.toNat_inj.1 (by omega))
      simp [hn, he]
theorem eq_arr (t : TypeId) (n : Nat) (ht : Tryd.prog.underlying t = some (.array n 5)) (C D : List UInt8) (hC : C.length = n) (hD : D.length = n) (w : World) :
    (Op.equalIn 10000 t (.agg (C.map bv).toArray) (.agg (D.map bv).toArray)).run Tryd.prog w = .ok (decide (C = D)) w := by
  obtain ⟨i, hi⟩ := info_u8'
  rw [show (10000 : Nat) = 9998 + 1 + 1 from rfl, run_equalIn_array w (9998 + 1) _ _ ht hi, cells_u8, eqItems_bytes 9998 C D w _ (fun i h => by have := List.mem_range.1 h; omega)]
  congr 1
  rw [Bool.eq_iff_iff, List.all_eq_true, decide_eq_true_iff]
  constructor
  · intro h
    apply List.ext_getElem?
    intro j
    by_cases hj : j < n
    · have := h j (List.mem_range.2 hj)
      simpa using this
    · rw [List.getElem?_eq_none (by omega), List.getElem?_eq_none (by omega)]
  · intro h i _
    subst h
    simp
theorem eq_sum (C D : List UInt8) (hC : C.length = 32) (hD : D.length = 32) (w : World) :
    (Op.equalIn 10000 85 (.agg (C.map bv).toArray) (.agg (D.map bv).toArray)).run Tryd.prog w = .ok (decide (C = D)) w := eq_arr _ 32 Tryd.underlying85 C D hC hD w
theorem eq_dig (C D : List UInt8) (hC : C.length = 16) (hD : D.length = 16) (w : World) :
    (Op.equalIn 10000 23 (.agg (C.map bv).toArray) (.agg (D.map bv).toArray)).run Tryd.prog w = .ok (decide (C = D)) w := eq_arr _ 16 Tryd.underlying23 C D hC hD w
end Go.Proofs.YtkelfcgomeojeaaDoor
end

section
/- Operations of a guarded region, run by themselves: equality of arrays of bytes, of strings, of Booleans; a pick. -/


namespace Go.Proofs.YtkelfcgomeojeaaDoor
open Go.RowKit
set_option linter.unusedVariables false
set_option maxRecDepth 100000

theorem run_eql_sum (X Y : Operand) (C D : List UInt8) (hC : C.length = 32) (hD : D.length = 32) (w : World) :
    (do eqGuard .eql 85 X Y (.agg (C.map bv).toArray) (.agg (D.map bv).toArray); binOp .eql 85 (.agg (C.map bv).toArray) (.agg (D.map bv).toArray) : Sem Value).run Tryd.prog w = .ok (.bool (decide (C = D))) w := by
  have h := eq_sum C D hC hD w
  have hg : Tryd.prog.eqGuardType Tryd.prog.depth 85 = false := by kernel_rfl
  go_simp
theorem run_eql_dig (X Y : Operand) (C D : List UInt8) (hC : C.length = 16) (hD : D.length = 16) (w : World) :
    (do eqGuard .eql 23 X Y (.agg (C.map bv).toArray) (.agg (D.map bv).toArray); binOp .eql 23 (.agg (C.map bv).toArray) (.agg (D.map bv).toArray) : Sem Value).run Tryd.prog w = .ok (.bool (decide (C = D))) w := by
  have h := eq_dig C D hC hD w
  have hg : Tryd.prog.eqGuardType Tryd.prog.depth 23 = false := by kernel_rfl
  go_simp
theorem run_eql_str (X Y : Operand) (s t : ByteArray) (w : World) :
    (do eqGuard .eql 9 X Y (.string s) (.string t); binOp .eql 9 (.string s) (.string t) : Sem Value).run Tryd.prog w = .ok (.bool (decide (s = t))) w := by
  have h : (s.toList == t.toList) = decide (s = t) := by
    rw [Lib.toList_data, Lib.toList_data, Bool.eq_iff_iff]
    simp only [beq_iff_eq, decide_eq_true_iff]
    constructor
    · intro h; apply ByteArray.ext; exact Array.toList_inj.1 h
    · rintro rfl; rfl
  go_simp
theorem runs_pick {R : Value → World → Prop} {o : Oper} {b : Act} {w : World} {x y z : Operand} (ho : o.op = .pick x y z) (c : Bool) (hc : b.eval x = .bool c) (h : R (if c then b.eval y else b.eval z) w) : Runs Tryd.prog R ((execOp b.eval o).run Tryd.prog w) := by
  unfold execOp
  simp only [ho, hc, Sem.run_bind, Sem.run_pure]
  exact h
end Go.Proofs.YtkelfcgomeojeaaDoor
end

section
/- The contract of the reference's Text. -/

namespace Go.Proofs.YtkelfcgomeojeaaDoor
open Go.RowKit
set_option linter.unusedVariables false
set_option maxRecDepth 100000

set_option maxRecDepth 100000 in
set_option maxHeartbeats 2000000 in
theorem text_any (l : List UInt8) (w : World) (hl : l.length = 16) :
    Calls Tryd.prog 29 #[.agg (l.map bv).toArray] w fun e w' => e = .returned (.string (bs l)) ∧ Below w.heap.size w w' := by
  obtain ⟨i0, hi, hz0, hz1, hz2⟩ := info_parts info_u8
  obtain ⟨X, hX⟩ : ∃ X, X = l.map bv := ⟨_, rfl⟩
  have hXl : X.length = 16 := by rw [hX, List.length_map, hl]
  rw [← hX]
  have hb0 : Blk (w.alloc (.cells X.toArray 23)) w.heap.size X 23 := Blk.new w _ _
  have HB0 := Lib.hid hb0
  have HX := Lib.hid hX
  have HL := Lib.hid hl
  clear hX hXl hb0 hl
  go_enter Tryd.func29, Tryd.ntmps29
  go_wp2_with fail
  go_loopw [4, 3] (fun i v wr => ∃ k : Nat, k ≤ 16 ∧ i = .int .i64 k ∧ wr.ownsRow (w.heap.size + 1) 5 1 v k ((l.take k).map bv) ∧ Blk wr w.heap.size X 23 ∧ Below w.heap.size w wr ∧ w.heap.size + 1 ≤ wr.heap.size) (fun i _ _ => 16 - (intOf i).toNat)
  case atStart => exact ⟨0, by omega, rfl, own_nil _ _ _ _, HB0.out, (Below.refl _ _).alloc (Nat.le_refl _) _, by simp⟩
  case round =>
    clear HB0
    obtain ⟨k, hk, rfl, hown, hB, hbel, hsz⟩ := hrel
    by_cases hlt : k < 16
    · have hl := HL.out
      obtain ⟨x, hx⟩ : ∃ x, x = l.getD k 0 := ⟨_, rfl⟩
      have g1 : wr.cell? ⟨w.heap.size, k, none⟩ = some (.int .u8 (x.toNat : Int)) := hB.cell k (bv x) (by rw [HX.out, List.getElem?_map, getD_at l k 0 (by omega), hx]; rfl)
      have hnext : (l.take (k + 1)).map bv = (l.take k).map bv ++ [.int .u8 (x.toNat : Int)] := by
        rw [List.take_add_one, List.getElem?_eq_getElem (by omega), hx, show l.getD k 0 = l[k]'(by omega) from by simp [hl, hlt]]
        simp only [Option.toList, List.map_append, List.map_cons, List.map_nil]
        rfl
      have Hn := Lib.hid hnext
      have HB := Lib.hid hB
      have ik : (k : Int) < 16 := by omega
      have hmx : k + 1 ≤ maxLen := by unfold maxLen; omega
      clear hx hnext hB hl
      go_wp2_with (at_builtin; refine wpList_append_own _ rfl (.tmp 9) (.tmp 13) 51 rfl (w.heap.size + 1) 5 i0 (.int .u8 0) 1 1 Tryd.underlying51 hi hz0 hz1 hz2 rfl (by decide) _ k ((l.take k).map bv) rfl (hown.alloc _) ⟨wr.heap.size, 0, none⟩ 1 1 [.int .u8 (x.toNat : Int)] rfl rfl (cell_one _ _ _) (by intro u hu; simp at hu; subst hu; rfl) hmx (by omega) (by simp only [World.size_alloc]; omega) ?_; intro v' w1 hown' hgrow _; have hblk1 := (HB.out.alloc (.cells #[.int .u8 (x.toNat : Int)] 5)); have hown0 := hown.alloc (.cells #[.int .u8 (x.toNat : Int)] 5))
      refine ⟨⟨k + 1, by omega, by go_num, by rw [Hn.out]; exact hown', ?_, (hbel.alloc (by omega) _).grown hgrow (by simp only [World.size_alloc]; omega) (fun j hj => by have := (hown.lt j hj).1; omega), by have := hgrow.size; simp only [World.size_alloc] at this; omega⟩, by simp [intOf]; omega⟩
      exact (hgrow.block w.heap.size (by simp only [World.size_alloc]; omega) (fun e => by have := (hown.lt _ e.symm).1; omega)).trans hblk1
    · have hk16 : k = 16 := by omega
      have hge : (16 : Int) ≤ k := by omega
      rw [hk16, List.take_of_length_le (by rw [HL.out]; omega)] at hown
      obtain ⟨A, c, rfl, hr, -, -⟩ := own_rd (B := 0) hown
      have hcv := conv_bytes wr _ A l c hr
      rw [HL.out] at hcv
      clear hk16 hown hr hB
      go_wp2_with fail
      go_ret
      exact ⟨rfl, hbel⟩
end Go.Proofs.YtkelfcgomeojeaaDoor
end

section
/- The reference's ints. -/



namespace Go.Proofs.YtkelfcgomeojeaaDoor
open Go.RowKit
set_option linter.unusedVariables false
set_option maxRecDepth 100000

set_option maxHeartbeats 2000000 in
theorem refInts_text (A : Option Addr) (cap : Nat) (l : List Int) (w : World) (hr : Rd w w.heap.size A (l.map iv)) (hc : l.length ≤ cap) (hm : cap ≤ maxLen) (hs : l.length ≤ 1000000) (hI : ∀ n ∈ l, M.I64 n) :
    Calls Tryd.prog 51 #[.slice A l.length cap] w fun e w' => e = .returned (.string (bs (Sg.ints l))) ∧ Below w.heap.size w w' := by
  have c1 := refInts_any A cap l w hr hc hm (by omega) hI
  obtain ⟨q, hq⟩ : ∃ q, q = M.encL M.encI l := ⟨_, rfl⟩
  have hb : bs (Sg.ints l) = bs q := by rw [hq]; rfl
  rw [← hq] at c1
  rw [hb]
  obtain ⟨n, hn⟩ : ∃ n, n = l.length := ⟨_, rfl⟩
  rw [← hn] at c1 ⊢
  have C1 := Lib.hid c1
  clear hr hc hm hs hI c1 hq hb hn
  go_enter Tryd.func51, Tryd.ntmps51
  go_wp2_with fail
  refine C1.out.mono ?_
  rintro e w1 ⟨v1, rfl, hown, hb1⟩
  obtain ⟨A1, c1, rfl, hr1, -, -⟩ := own_rd (B := 0) hown
  have hcv := conv_bytes w1 _ A1 q c1 hr1
  have hb2 := Lib.hid hb1
  clear hown hr1 hb1
  go_wp2_with fail
  go_ret
  exact ⟨rfl, hb2.out⟩
end Go.Proofs.YtkelfcgomeojeaaDoor
end

section
/- The contract of the reference's Bytes32. -/

namespace Go.Proofs.YtkelfcgomeojeaaDoor
open Go.RowKit
set_option linter.unusedVariables false
set_option maxRecDepth 100000

set_option maxRecDepth 100000 in
set_option maxHeartbeats 2000000 in
theorem bytes32_any (l : List UInt8) (w : World) (hl : l.length = 32) :
    Calls Tryd.prog 66 #[.agg (l.map bv).toArray] w fun e w' => e = .returned (.string (bs l)) ∧ Below w.heap.size w w' := by
  obtain ⟨i0, hi, hz0, hz1, hz2⟩ := info_parts info_u8
  obtain ⟨X, hX⟩ : ∃ X, X = l.map bv := ⟨_, rfl⟩
  have hXl : X.length = 32 := by rw [hX, List.length_map, hl]
  rw [← hX]
  have hb0 : Blk (w.alloc (.cells X.toArray 85)) w.heap.size X 85 := Blk.new w _ _
  have HB0 := Lib.hid hb0
  have HX := Lib.hid hX
  have HL := Lib.hid hl
  clear hX hXl hb0 hl
  go_enter Tryd.func66, Tryd.ntmps66
  go_wp2_with fail
  go_loopw [4, 3] (fun i v wr => ∃ k : Nat, k ≤ 32 ∧ i = .int .i64 k ∧ wr.ownsRow (w.heap.size + 1) 5 1 v k ((l.take k).map bv) ∧ Blk wr w.heap.size X 85 ∧ Below w.heap.size w wr ∧ w.heap.size + 1 ≤ wr.heap.size) (fun i _ _ => 32 - (intOf i).toNat)
  case atStart => exact ⟨0, by omega, rfl, own_nil _ _ _ _, HB0.out, (Below.refl _ _).alloc (Nat.le_refl _) _, by simp⟩
  case round =>
    clear HB0
    obtain ⟨k, hk, rfl, hown, hB, hbel, hsz⟩ := hrel
    by_cases hlt : k < 32
    · have hl := HL.out
      obtain ⟨x, hx⟩ : ∃ x, x = l.getD k 0 := ⟨_, rfl⟩
      have g1 : wr.cell? ⟨w.heap.size, k, none⟩ = some (.int .u8 (x.toNat : Int)) := hB.cell k (bv x) (by rw [HX.out, List.getElem?_map, getD_at l k 0 (by omega), hx]; rfl)
      have hnext : (l.take (k + 1)).map bv = (l.take k).map bv ++ [.int .u8 (x.toNat : Int)] := by
        rw [List.take_add_one, List.getElem?_eq_getElem (by omega), hx, show l.getD k 0 = l[k]'(by omega) from by simp [hl, hlt]]
        simp only [Option.toList, List.map_append, List.map_cons, List.map_nil]
        rfl
      have Hn := Lib.hid hnext
      have HB := Lib.hid hB
      have ik : (k : Int) < 32 := by omega
      have hmx : k + 1 ≤ maxLen := by unfold maxLen; omega
      clear hx hnext hB hl
      go_wp2_with (at_builtin; refine wpList_append_own _ rfl (.tmp 9) (.tmp 13) 51 rfl (w.heap.size + 1) 5 i0 (.int .u8 0) 1 1 Tryd.underlying51 hi hz0 hz1 hz2 rfl (by decide) _ k ((l.take k).map bv) rfl (hown.alloc _) ⟨wr.heap.size, 0, none⟩ 1 1 [.int .u8 (x.toNat : Int)] rfl rfl (cell_one _ _ _) (by intro u hu; simp at hu; subst hu; rfl) hmx (by omega) (by simp only [World.size_alloc]; omega) ?_; intro v' w1 hown' hgrow _; have hblk1 := (HB.out.alloc (.cells #[.int .u8 (x.toNat : Int)] 5)); have hown0 := hown.alloc (.cells #[.int .u8 (x.toNat : Int)] 5))
      refine ⟨⟨k + 1, by omega, by go_num, by rw [Hn.out]; exact hown', ?_, (hbel.alloc (by omega) _).grown hgrow (by simp only [World.size_alloc]; omega) (fun j hj => by have := (hown.lt j hj).1; omega), by have := hgrow.size; simp only [World.size_alloc] at this; omega⟩, by simp [intOf]; omega⟩
      exact (hgrow.block w.heap.size (by simp only [World.size_alloc]; omega) (fun e => by have := (hown.lt _ e.symm).1; omega)).trans hblk1
    · have hk32 : k = 32 := by omega
      have hge : (32 : Int) ≤ k := by omega
      rw [hk32, List.take_of_length_le (by rw [HL.out]; omega)] at hown
      obtain ⟨A, c, rfl, hr, -, -⟩ := own_rd (B := 0) hown
      have hcv := conv_bytes wr _ A l c hr
      rw [HL.out] at hcv
      clear hk32 hown hr hB
      go_wp2_with fail
      go_ret
      exact ⟨rfl, hbel⟩

end Go.Proofs.YtkelfcgomeojeaaDoor
end

