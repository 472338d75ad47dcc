import Derived.Test.YtcejokbbiinbkaaDoorJGuards
import Derived.Test.YtcejokbbiinbkaaDoorJRatioPa

section
/- The contract of ratio.divisor: its closure calls itself through the captured variable. -/


namespace Go.Proofs.YtcejokbbiinbkaaDoor
open Go.RowKit
set_option linter.unusedVariables false
set_option maxRecDepth 100000

theorem run_call_clo {P : Program} {o : Oper} {t : Nat} {f : FuncId} {caps : Array Value} {args : List Operand} {ats : Array TypeId} (ho : o.op = .call { callee := .value (.tmp t), args := args.toArray, argTypes := ats }) (hc : ∀ xs w, (callFunc f xs).run P w = .ok (.enter f xs) w) (b : Act) (w : World)
    (ht : b.tmps.getD t undef = .func (.func f) #[] caps) : (execOp b.eval o).run P w = .ok (.enter f ((args.map b.eval).toArray ++ caps)) w := by
  unfold execOp
  simp only [ho, resolve]
  have e : b.eval (.tmp t) = .func (.func f) #[] caps := ht
  rw [e]
  simp only [Deferred.ofValue, invoke, Sem.run_bind, Sem.run_pure, Result.andThen_ok, List.map_toArray, Array.empty_append, hc]
theorem runs_clo {P : Program} {R : Value → World → Prop} {o : Oper} {t : Nat} {f : FuncId} {caps : Array Value} {args : List Operand} {ats : Array TypeId} {b : Act} {w : World} (ho : o.op = .call { callee := .value (.tmp t), args := args.toArray, argTypes := ats }) (hc : ∀ xs w, (callFunc f xs).run P w = .ok (.enter f xs) w)
    (ht : b.tmps.getD t undef = .func (.func f) #[] caps) (h : Calls P f ((args.map b.eval).toArray ++ caps) w fun e w' => ∃ v, e = .returned v ∧ R v w') : Runs P R ((execOp b.eval o).run P w) := by
  rw [run_call_clo ho hc b w ht]
  exact h

def capsV (V : Nat) : Array Value := #[.pointer (some ⟨V, 0, none⟩)]
theorem append_one (a b : Value) (V : Nat) : #[a, b] ++ capsV V = #[a, b, .pointer (some ⟨V, 0, none⟩)] := rfl
/-- The closure, in the variable that it captures. -/
def restV (V : Nat) : Value := .func (.func 56) #[] (capsV V)
theorem load_rest (W : World) (b : Nat) (v : Value) (h : Blk W b [v] 73) : (Instr.loadAt 73 (.pointer (some ⟨b, 0, none⟩))).run Tryd.prog W = .ok v W := by
  have hc := h.cell 0 v rfl
  go_simp
theorem run_rem (W : World) (m n : Nat) (hn : ¬ (n = 0)) (X Y : Operand) : (do eqGuard .rem 60 X Y (.int .u64 m) (.int .u64 n); binOp .rem 60 (.int .u64 m) (.int .u64 n) : Sem Value).run Tryd.prog W = .ok (.int .u64 ((m % n : Nat) : Int)) W := by
  have e : ((m % n : Nat) : Int) = (m : Int).tmod (n : Int) := by rw [Int.tmod_eq_emod_of_nonneg (by omega)]; omega
  rw [e]
  clear e
  have h : ¬ ((n : Int) = 0) := by omega
  generalize (m : Int) = x
  generalize (n : Int) = y at *
  go_simp

set_option maxHeartbeats 4000000 in
theorem rest_any (V : Nat) : ∀ (n m : Nat) (W : World), Blk W V [restV V] 73 →
    Calls Tryd.prog 56 #[.int .u64 m, .int .u64 n, .pointer (some ⟨V, 0, none⟩)] W (Says (.int .u64 (Nat.gcd m n)) W) := by
  intro n
  induction n using Nat.strongRecOn with
  | _ n ih =>
    intro m W hV
    obtain ⟨g, hg⟩ : ∃ g, g = Nat.gcd m n := ⟨_, rfl⟩
    rw [← hg]
    have hi : ¬ n = 0 → ∀ W, Blk W V [restV V] 73 → Calls Tryd.prog 56 #[.int .u64 n, .int .u64 ((m % n : Nat) : Int), .pointer (some ⟨V, 0, none⟩)] W (Says (.int .u64 g) W) := fun hn W h => by
      have := ih (m % n) (Nat.mod_lt _ (by omega)) n W h
      rwa [Nat.gcd_comm n, ← Nat.gcd_rec, Nat.gcd_comm, ← hg] at this
    have IH := Lib.hid hi
    have HV := Lib.hid hV
    have HG := Lib.hid hg
    clear ih hi hV hg
    by_cases hn : n = 0
    · subst hn
      go_enter Tryd.func56, Tryd.ntmps56
      go_wp2_with fail
      go_ret
      have := HG.out
      rw [Nat.gcd_zero_right] at this
      subst this
      exact ⟨rfl, Below.refl _ _⟩
    · have hn0 : ¬ ((n : Int) = 0) := by omega
      go_enter Tryd.func56, Tryd.ntmps56
      go_wp2_with fail
      try go_frame
      refine wp_region_guarded [9, 10, 11, 12, 13, 14] [.is (restV V), .is (.int .u64 n), .is (.int .u64 m), .is (.int .u64 n), .is (.int .u64 ((m % n : Nat) : Int)), .is (.int .u64 g)] (by kernel_rfl) (by kernel_rfl) ?_ ?_
      · intro i hi b w' hb hd hx o ho
        match i, hi with
        | 0, _ =>
          obtain rfl := Option.some.inj ho
          have e0 : b.tmps.getD 2 undef = .pointer (some ⟨V, 0, none⟩) := hx 2 rfl
          have hr := load_rest w' V (restV V) (HV.out.below hb HV.out.lt)
          rw [← e0] at hr
          exact runs_value rfl hr ⟨rfl, Below.refl _ _⟩
        | 1, _ =>
          obtain rfl := Option.some.inj ho
          exact ⟨hx 1 rfl, Below.refl _ _⟩
        | 2, _ =>
          obtain rfl := Option.some.inj ho
          exact ⟨hx 0 rfl, Below.refl _ _⟩
        | 3, _ =>
          obtain rfl := Option.some.inj ho
          exact ⟨hx 1 rfl, Below.refl _ _⟩
        | 4, _ =>
          obtain rfl := Option.some.inj ho
          have e1 : b.tmps.getD 11 undef = .int .u64 m := hd 2 (by kernel_rfl) (by decide)
          have e2 : b.tmps.getD 12 undef = .int .u64 n := hd 3 (by kernel_rfl) (by decide)
          have hr := run_rem w' m n hn (.tmp 11) (.tmp 12)
          rw [← e1, ← e2] at hr
          exact runs_value rfl hr ⟨rfl, Below.refl _ _⟩
        | 5, _ =>
          obtain rfl := Option.some.inj ho
          have e0 : b.tmps.getD 9 undef = restV V := hd 0 (by kernel_rfl) (by decide)
          have e1 : b.tmps.getD 10 undef = .int .u64 n := hd 1 (by kernel_rfl) (by decide)
          have e2 : b.tmps.getD 13 undef = .int .u64 ((m % n : Nat) : Int) := hd 4 (by kernel_rfl) (by decide)
          refine runs_clo (t := 9) (f := 56) (caps := capsV V) (args := [.tmp 10, .tmp 13]) (ats := #[60, 60]) rfl (fun _ _ => rfl) e0 ?_
          show Calls _ _ (#[b.tmps.getD 10 undef, b.tmps.getD 13 undef] ++ capsV V) w' _
          rw [e1, e2, append_one]
          exact (IH.out hn w' (HV.out.below hb HV.out.lt)).mono fun x w'' h => ⟨_, h.1, rfl, h.2⟩
      · intro vals w1 hb1 hf
        have e5 : vals 5 = .int .u64 g := hf 5 (by decide)
        simp only [puts, List.length_cons, List.length_nil, Nat.zero_add, Nat.reduceAdd, List.drop_succ_cons, List.drop_zero, e5]
        clear e5 hf
        go_frame
        go_wp2_with fail
        go_ret
        exact ⟨rfl, hb1⟩

set_option maxHeartbeats 4000000 in
theorem divisor_any (m n : Nat) (W : World) : Calls Tryd.prog 45 #[.int .u64 m, .int .u64 n] W (Says (.int .u64 (Nat.gcd m n)) W) := by
  obtain ⟨W1, hW1⟩ : ∃ W1, W1 = W.alloc (.cells #[.func (.func 56) #[] #[.pointer (some ⟨W.heap.size, 0, none⟩)]] 73) := ⟨_, rfl⟩
  have hR := rest_any W.heap.size n m W1
  have hb : Below W.heap.size W W1 := by rw [hW1]; exact (Below.refl _ _).alloc (Nat.le_refl _) _
  have hk : Blk W1 W.heap.size [restV W.heap.size] 73 := by rw [hW1]; exact Blk.new W _ _
  obtain ⟨g, hg⟩ : ∃ g, g = Nat.gcd m n := ⟨_, rfl⟩
  rw [← hg] at hR ⊢
  have HR := Lib.hid (hR hk)
  have HB := Lib.hid hb
  have HW := Lib.hid hW1
  clear hg hR hW1 hk hb
  go_enter Tryd.func45, Tryd.ntmps45
  go_wp2_with fail
  rw [← HW.out]
  refine HR.out.mono ?_
  rintro e w2 ⟨rfl, hb2⟩
  go_wp2_with fail
  go_ret
  exact ⟨rfl, HB.out.trans (hb2.mono HB.out.size)⟩
end Go.Proofs.YtcejokbbiinbkaaDoor
end

