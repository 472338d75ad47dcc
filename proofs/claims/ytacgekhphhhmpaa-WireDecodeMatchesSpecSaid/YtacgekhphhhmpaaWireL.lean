/- The contract of the reference's SameDigests: equality of digests. -/
import Derived.Test.YtacgekhphhhmpaaWireK
import Derived.ChangeKeysEq
import Derived.Laws.StructEq
namespace Go.Proofs.Ytacgekhphhhmpaa
open Go.RowKit
set_option linter.unusedVariables false

theorem part_byte (C : List UInt8) (i : Nat) (hi : i < C.length) (w : World) : (part 5 (C.map bv).toArray i).run Try.prog w = .ok (bv C[i]) w := by
  simp [part, hi]
theorem info_u8' : ∃ i, Try.prog.info? 5 = some i := ⟨_, rfl⟩
theorem cells_u8 : Try.prog.cellsOf 5 = 1 := by kernel_rfl
theorem eqItems_bytes (d : Nat) (C D : List UInt8) (w : World) : ∀ is : List Nat, (∀ i ∈ is, i < C.length ∧ i < D.length) →
    (Op.eqItems (d + 1) 5 1 (C.map bv).toArray (D.map bv).toArray is).run Try.prog w = .ok (is.all fun i => C[i]? == D[i]?) w := by
  intro is
  induction is with
  | nil => intro _; simp [Op.eqItems]
  | cons i is ih =>
    intro h
    obtain ⟨h1, h2⟩ := h i (by simp)
    have ih' := ih (fun j hj => h j (by simp [hj]))
    simp only [Op.eqItems, Sem.run_bind, Nat.mul_one, part_byte C i h1, part_byte D i h2, Result.andThen_ok, bv]
    rw [run_equalIn_int w d 5 .u8 .u8 _ _ Try.underlying5]
    simp only [Result.andThen_ok, List.all_cons, List.getElem?_eq_getElem h1, List.getElem?_eq_getElem h2]
    by_cases he : C[i] = D[i]
    · simp only [he, beq_self_eq_true, Bool.not_true, Bool.false_eq_true, if_false, Bool.true_and]
      exact ih'
    · have hn : ((C[i].toNat : Int) == (D[i].toNat : Int)) = false := by
        simp
        intro h
        exact he (UInt8.toNat_inj.1 (by omega))
      simp [hn, he]
theorem neq_dig (C D : List UInt8) (hC : C.length = 16) (hD : D.length = 16) (w : World) :
    (binOp .neq 57 (.agg (C.map bv).toArray) (.agg (D.map bv).toArray)).run Try.prog w = .ok (.bool (!decide (C = D))) w := by
  obtain ⟨i, hi⟩ := info_u8'
  rw [run_neq_struct, show (10000 : Nat) = 9998 + 1 + 1 from rfl, run_equalIn_array w (9998 + 1) _ _ Try.underlying57 hi, cells_u8, eqItems_bytes 9998 C D w _ (fun i h => by have := List.mem_range.1 h; omega)]
  simp only [Result.andThen_ok]
  congr 3
  rw [Bool.eq_iff_iff, List.all_eq_true, decide_eq_true_iff]
  constructor
  · intro h
    apply List.ext_getElem?
    intro j
    by_cases hj : j < 16
    · have := h j (List.mem_range.2 hj)
      simpa using this
    · rw [List.getElem?_eq_none (by omega), List.getElem?_eq_none (by omega)]
  · intro h i _
    subst h
    simp

theorem eq_dig (C D : List UInt8) (hC : C.length = 16) (hD : D.length = 16) (w : World) :
    (Op.equalIn 10000 57 (.agg (C.map bv).toArray) (.agg (D.map bv).toArray)).run Try.prog w = .ok (decide (C = D)) w := by
  have h := neq_dig C D hC hD w
  rw [run_neq_struct] at h
  cases hr : (Op.equalIn 10000 57 (.agg (C.map bv).toArray) (.agg (D.map bv).toArray)).run Try.prog w with
  | halt x w' => rw [hr] at h; cases h
  | ok b w' =>
    rw [hr] at h
    simp only [Result.andThen_ok, Result.ok.injEq, Value.bool.injEq] at h
    obtain ⟨h1, rfl⟩ := h
    have : b = decide (C = D) := by
      cases b <;> simp_all
    rw [this]

theorem wpQuiet_load {P : Program} {ops : Array Oper} {S : World → Prop} {Q : Act → Prop} {rest : List Oper} {a : Act} {o : Oper} (hg : o.guard = none) (ty : TypeId) (x : Operand) (ho : o.op = .load ty x)
    (p : Value) (hx : a.eval x = p) (v : Value) (hrun : ∀ w, S w → (Instr.loadAt ty p).run P w = .ok v w) (h : wpQuiet P ops S Q rest (a.put o.dst v)) : wpQuiet P ops S Q (o :: rest) a := by
  unfold wpQuiet
  have hw : Region.wanted o (yielded ops a.tmps) = true := by simp [Region.wanted, hg]
  rw [if_pos hw]
  refine ⟨v, fun w hS => ?_, h⟩
  unfold Oper.quietAt execOp
  simp only [ho, hx, Sem.run_bind, Sem.run_pure, hrun w hS, Result.andThen_ok, Oper.quietUpon, and_self]

theorem rng_load (w : World) (b o : Nat) (C : List UInt8) (hC : C.length = 16) (h : w.rangeAt b o (C.map bv)) :
    (Instr.loadAt 57 (.pointer (some ⟨b, o, none⟩))).run Try.prog w = .ok (.agg (C.map bv).toArray) w :=
  run_loadAt_mid w b o 57 (C.map bv) _ h Try.underlying57 rfl (by rw [List.length_map, hC]; kernel_rfl)

set_option maxHeartbeats 2000000 in
theorem sameDigests_any (A A' : Option Addr) (c c' n n' : Nat) (l l' : List UInt8) (w : World) (hr : RdB w w.heap.size A l) (hr' : RdB w w.heap.size A' l') (hln : l.length = 16 * n) (hln' : l'.length = 16 * n') (hm : n ≤ maxLen) (hm' : n' ≤ maxLen) :
    Calls Try.prog 36 #[.slice A n c, .slice A' n' c'] w (Tells (decide (l = l')) w) := by
  unfold maxLen at hm hm'
  by_cases hl : n = n'
  · have hne : ((n : Int) != (n' : Int)) = false := by rw [hl]; simp
    have Hl := Lib.hid hl
    have Hln := Lib.hid hln
    have Hln' := Lib.hid hln'
    have Hr := Lib.hid hr
    have Hr' := Lib.hid hr'
    clear hl hr hr' hln hln'
    go_enter Try.func36, Try.ntmps36
    go_wp2_with fail
    go_loopw [5] (fun i wr => ∃ k : Nat, k ≤ n ∧ i = .int .i64 k ∧ l.take (16 * k) = l'.take (16 * k) ∧ Below w.heap.size w wr) (fun i _ => n - (intOf i).toNat)
    case atStart => exact ⟨0, Nat.zero_le _, rfl, by simp, Below.refl _ _⟩
    case round =>
      obtain ⟨k, hk, rfl, ht, hbel⟩ := hrel
      have Ht := Lib.hid ht
      clear ht
      by_cases hlt : k < n
      · have hlt' : k < n' := by have := Hl.out; omega
        obtain ⟨b, off, rfl, hb, hcell⟩ := Hr.out (by simp [Hln.out]; omega)
        obtain ⟨b', off', rfl, hb', hcell'⟩ := Hr'.out (by simp [Hln'.out]; omega)
        obtain ⟨C, hC⟩ : ∃ C, C = (l.drop (16 * k)).take 16 := ⟨_, rfl⟩
        obtain ⟨C', hC'⟩ : ∃ C', C' = (l'.drop (16 * k)).take 16 := ⟨_, rfl⟩
        have hCl : C.length = 16 := by rw [hC]; simp [Hln.out]; omega
        have hCl' : C'.length = 16 := by rw [hC']; simp [Hln'.out]; omega
        have hg1 : ∀ m, (wr.drewN m).rangeAt b (off + k * 16) (C.map bv) := fun m j u hu => by
          have h0 : (wr.drewN m).cell? ⟨b, off + k * 16 + j, none⟩ = w.cell? ⟨b, off + k * 16 + j, none⟩ := (below_drewN hbel m).cell (p := ⟨b, off + k * 16 + j, none⟩) hb
          rw [h0, show off + k * 16 + j = off + (16 * k + j) from by omega]
          refine hcell _ u ?_
          have hj : j < 16 := by have := (List.getElem?_eq_some_iff.1 hu).1; simpa [hCl] using this
          rw [← hu, hC]
          simp [hj]
        have hg2 : ∀ m, (wr.drewN m).rangeAt b' (off' + k * 16) (C'.map bv) := fun m j u hu => by
          have h0 : (wr.drewN m).cell? ⟨b', off' + k * 16 + j, none⟩ = w.cell? ⟨b', off' + k * 16 + j, none⟩ := (below_drewN hbel m).cell (p := ⟨b', off' + k * 16 + j, none⟩) hb'
          rw [h0, show off' + k * 16 + j = off' + (16 * k + j) from by omega]
          refine hcell' _ u ?_
          have hj : j < 16 := by have := (List.getElem?_eq_some_iff.1 hu).1; simpa [hCl'] using this
          rw [← hu, hC']
          simp [hj]
        have hld1 := fun m => rng_load (wr.drewN m) b (off + k * 16) C hCl (hg1 m)
        have hld2 := fun m => rng_load (wr.drewN m) b' (off' + k * 16) C' hCl' (hg2 m)
        have heq := eq_dig C C' hCl hCl'
        obtain ⟨X, hX⟩ : ∃ X, X = (C.map bv).toArray := ⟨_, rfl⟩
        obtain ⟨Y, hY⟩ : ∃ Y, Y = (C'.map bv).toArray := ⟨_, rfl⟩
        rw [← hX] at hld1 heq
        rw [← hY] at hld2 heq
        have i0 : (0 : Int) ≤ k := by omega
        have i1 : (k : Int) < n := by omega
        have i2 : (k : Int) < n' := by omega
        have HC := Lib.hid hC
        have HC' := Lib.hid hC'
        clear hcell hcell' hX hY hg1 hg2 hCl hCl' hC hC'
        by_cases hxy : C = C'
        · have heq' : ∀ W, (Op.equalIn 10000 57 (.agg X) (.agg Y)).run Try.prog W = .ok true W := fun W => by rw [heq W]; simp [hxy]
          have Hxy := Lib.hid hxy
          clear hxy heq
          have Hld1 := Lib.hid hld1
          have Hld2 := Lib.hid hld2
          clear hld1 hld2
          go_wp2_with fail
          refine wp_region_quiet_lit (by kernel_rfl) (by kernel_rfl) ?_
          repeat (go_big_quiet_step (fail))
          refine wpQuiet_load rfl 57 (.tmp 19) rfl (.pointer (some ⟨b, off + k * 16, none⟩)) rfl (.agg X) (fun w' hw' => by obtain ⟨m, rfl⟩ := hw'; exact Hld1.out m) ?_
          go_simp
          repeat (go_big_quiet_step (fail))
          refine wpQuiet_load rfl 57 (.tmp 23) rfl (.pointer (some ⟨b', off' + k * 16, none⟩)) rfl (.agg Y) (fun w' hw' => by obtain ⟨m, rfl⟩ := hw'; exact Hld2.out m) ?_
          go_simp
          repeat (go_big_quiet_step (fail))
          refine wpQuiet_nil ?_
          intro nq
          go_wp2_with fail
          go_roundw
          case rel => exact ⟨k + 1, by omega, by go_num, by rw [show 16 * (k + 1) = 16 * k + 16 from by omega, List.take_add, List.take_add, Ht.out, ← HC.out, ← HC'.out, Hxy.out], below_drewN hbel _⟩
          case measure => simp [intOf]; omega
        · have heq' : ∀ W, (Op.equalIn 10000 57 (.agg X) (.agg Y)).run Try.prog W = .ok false W := fun W => by rw [heq W]; simp [hxy]
          have hd : decide (l = l') = false := by
            simp
            intro h
            apply hxy
            rw [HC.out, HC'.out]
            subst h
            rfl
          have Hd := Lib.hid hd
          clear hxy heq hd
          have Hld1 := Lib.hid hld1
          have Hld2 := Lib.hid hld2
          clear hld1 hld2
          go_wp2_with fail
          refine wp_region_quiet_lit (by kernel_rfl) (by kernel_rfl) ?_
          repeat (go_big_quiet_step (fail))
          refine wpQuiet_load rfl 57 (.tmp 19) rfl (.pointer (some ⟨b, off + k * 16, none⟩)) rfl (.agg X) (fun w' hw' => by obtain ⟨m, rfl⟩ := hw'; exact Hld1.out m) ?_
          go_simp
          repeat (go_big_quiet_step (fail))
          refine wpQuiet_load rfl 57 (.tmp 23) rfl (.pointer (some ⟨b', off' + k * 16, none⟩)) rfl (.agg Y) (fun w' hw' => by obtain ⟨m, rfl⟩ := hw'; exact Hld2.out m) ?_
          go_simp
          repeat (go_big_quiet_step (fail))
          refine wpQuiet_nil ?_
          intro nq
          go_wp2_with fail
          go_ret
          exact ⟨by first | (rw [Hd.out]; done) | (rw [Hd.out]; rfl), below_drewN hbel _⟩
      · obtain rfl : k = n := by omega
        have hd : decide (l = l') = true := by
          have := Ht.out
          rw [← Hln.out, List.take_length, Hln.out, Hl.out, ← Hln'.out, List.take_length] at this
          simp [this]
        have Hd := Lib.hid hd
        clear hd
        go_wp2_with fail
        go_ret
        exact ⟨by first | (rw [Hd.out]; done) | (rw [Hd.out]; rfl), hbel⟩
  · have hne : ((n : Int) != (n' : Int)) = true := by simp; omega
    have hd : decide (l = l') = false := by
      simp
      intro h
      apply hl
      subst h
      omega
    have Hd := Lib.hid hd
    clear hd hl
    go_enter Try.func36, Try.ntmps36
    go_wp2_with fail
    go_ret
    exact ⟨by first | (rw [Hd.out]; done) | (rw [Hd.out]; rfl), Below.refl _ _⟩
end Go.Proofs.Ytacgekhphhhmpaa
