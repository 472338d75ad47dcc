import Derived.Test.YtcejokbbiinbkaaDoorJRatioPb

section
/- What Make and its reference have in common. -/

namespace Go.Proofs.YtcejokbbiinbkaaDoor
open Go.RowKit
set_option linter.unusedVariables false
set_option maxRecDepth 100000

theorem size_rat (a b : Value) : (Tryd.prog.info? 47).map (·.size) = some #[a, b].size := by kernel_rfl
theorem results_cell_row_tmp {P : Program} {fn : Func} {p u : Tmp} {ty : TypeId} (h : fn.results = #[.cell p ty, .tmp u]) (tmps : Array Value) (w : World) (g : Nat) (t : TypeId) (cs : Array Value) (fr : Nat × Nat) (d : TypeDesc)
    (hp : tmps.getD p undef = .pointer (some ⟨g, 0, none⟩)) (hg : w.heap[g]? = some (.cells cs t fr))
    (hu : P.underlying ty = some d) (hd : (match d with | .struct _ | .array _ _ => true | _ => false) = true) (hi : (P.info? ty).map (·.size) = some cs.size) :
    (results fn tmps).run P w = .ok (.tuple #[.agg cs, tmps.getD u undef]) w := by
  rw [results_cell_tmp h, hp]
  simp [asAddr, run_loadVar_row w g t ty cs fr d hg hu hd hi]

theorem mk_quo {p q : Int} {a b : Nat} (h0 : ¬ q = 0) (ha : a = p.natAbs / Nat.gcd p.natAbs q.natAbs) (hb : b = q.natAbs / Nat.gcd p.natAbs q.natAbs) :
    Rt.mk p q = if 2147483648 < a ∨ 2147483648 < b then (0, 0, 5) else (if (p < 0 ∧ 0 < q) ∨ (0 < p ∧ q < 0) then -(a : Int) else (a : Int), (b : Int), 0) := by
  unfold Rt.mk
  rw [if_neg h0, ← ha, ← hb]

/-- The quotient of two numbers without a sign. -/
theorem quo_nat (A g : Nat) (h : A < 18446744073709551616) : IntKind.u64.wrap ((A : Int) / (g : Int)) = ((A / g : Nat) : Int) := by
  have : A / g ≤ A := Nat.div_le_self _ _
  rw [show (A : Int) / (g : Int) = ((A / g : Nat) : Int) by rfl, IntKind.wrap_u64]
  generalize A / g = k at *
  omega
theorem t3_eq (x y e : Int) (t : Rt.Tri) (h : t = (x, y, e)) : Ending.returned (.tuple #[.agg #[.int .i64 x, .int .i64 y], .int .i64 e]) = .returned (T3 t) := by subst h; rfl

end Go.Proofs.YtcejokbbiinbkaaDoor
end

section
/- The contract of ratio.Make. -/

namespace Go.Proofs.YtcejokbbiinbkaaDoor
open Go.RowKit
set_option linter.unusedVariables false
set_option maxRecDepth 100000

theorem bcell {B : Nat} {W w1 : World} (hb : Below B W w1) : (∀ b o, b < B → w1.cell? ⟨b, o, none⟩ = W.cell? ⟨b, o, none⟩) ∧ (∀ b o, b < B → w1.frozen? ⟨b, o, none⟩ = W.frozen? ⟨b, o, none⟩) :=
  ⟨fun b o h => hb.cell (p := ⟨b, o, none⟩) h, fun b o h => hb.frozen (p := ⟨b, o, none⟩) h⟩

/-- The end of a function that answers a fraction in memory and an error. -/
theorem rat_end {fn : Func} {p u : Tmp} {tmps : Array Value} {w W : World} {g : Nat} {x y e : Int} {t : Rt.Tri} (hr : fn.results = #[.cell p 47, .tmp u])
    (hp : tmps.getD p undef = .pointer (some ⟨g, 0, none⟩)) (hu : tmps.getD u undef = .int .i64 e) (hk : Blk W g [.int .i64 x, .int .i64 y] 47) (hb : Below w.heap.size w W) (ht : t = (x, y, e)) :
    bodyPost Tryd.prog fn (Says (T3 t) w) .ret { tmps := tmps, defers := [] } W := by
  refine bodyPost_ret (results_cell_row_tmp hr tmps W g 47 #[.int .i64 x, .int .i64 y] (0, 0) _ hp hk Tryd.underlying47 rfl (size_rat _ _)) rfl ⟨?_, hb⟩
  rw [hu]
  exact t3_eq _ _ _ _ ht

set_option maxHeartbeats 4000000 in
theorem make_any (p q : Int) (w : World) (hp : In64 p) (hq : In64 q) :
    Calls Tryd.prog 25 #[.int .i64 p, .int .i64 q] w (Says (T3 (Rt.mk p q)) w) := by
  obtain ⟨p1, p2⟩ := hp
  obtain ⟨q1, q2⟩ := hq
  by_cases h0 : q = 0
  · subst h0
    rw [Rt.mk_zero]
    go_enter Tryd.func25, Tryd.ntmps25
    go_wp2_with fail
    exact bodyPost_ret (results_cell_row_tmp rfl _ _ w.heap.size 47 _ (0, 0) _ rfl (heap_alloc_new w _) Tryd.underlying47 rfl (size_rat _ _)) rfl ⟨rfl, (Below.refl _ _).alloc (Nat.le_refl _) _⟩
  · obtain ⟨a, ha⟩ : ∃ a, a = p.natAbs / Nat.gcd p.natAbs q.natAbs := ⟨_, rfl⟩
    obtain ⟨b, hb⟩ : ∃ b, b = q.natAbs / Nat.gcd p.natAbs q.natAbs := ⟨_, rfl⟩
    have hg0 : ¬ (((Nat.gcd p.natAbs q.natAbs : Nat) : Int) = 0) := by
      have : 0 < Nat.gcd p.natAbs q.natAbs := Nat.gcd_pos_of_pos_right _ (by omega)
      omega
    rw [mk_quo h0 ha hb]
    have ea := quo_nat p.natAbs (Nat.gcd p.natAbs q.natAbs) (by omega)
    have eb := quo_nat q.natAbs (Nat.gcd p.natAbs q.natAbs) (by omega)
    rw [← ha] at ea
    rw [← hb] at eb
    have hz : ¬ p = 0 ∨ a = 0 := by
      by_cases hp0 : p = 0
      · right; rw [ha, hp0]; simp
      · exact Or.inl hp0
    have HZ := Lib.hid hz
    clear ha hb hz
    obtain ⟨t, ht⟩ : ∃ t : Rt.Tri, t = if 2147483648 < a ∨ 2147483648 < b then (0, 0, 5) else (if (p < 0 ∧ 0 < q) ∨ (0 < p ∧ q < 0) then -(a : Int) else (a : Int), (b : Int), 0) := ⟨_, rfl⟩
    rw [← ht]
    have HT := Lib.hid ht
    clear ht
    go_enter Tryd.func25, Tryd.ntmps25
    go_wp2_with (first | (go_at_call 44; refine (rmagnitude_any _ _ ⟨by omega, by omega⟩).mono ?_; rintro e w' ⟨rfl, rfl⟩))
    refine (divisor_any _ _ _).mono ?_
    rintro e w2 ⟨rfl, hb2⟩
    have hk : Blk w2 w.heap.size [.int .i64 0, .int .i64 0] 47 := (Blk.new w _ _).below hb2 (by simp)
    have hB : Below w.heap.size w w2 := ((Below.refl _ _).alloc (Nat.le_refl _) _).trans (hb2.mono (by simp))
    have HK := Lib.hid hk.drew
    have HB := Lib.hid (below_drewN hB 1)
    clear hk hB hb2
    go_wp2_with fail
    go_region
    obtain ⟨w3, hw3⟩ : ∃ w3, w3 = w2.drew := ⟨_, rfl⟩
    have e3 : w2.drewN 1 = w3 := hw3.symm
    rw [← hw3] at HK ⊢
    rw [e3] at HB
    clear hw3 e3
    have hc0 := HK.out.cell 0 _ rfl
    have hc1 := HK.out.cell 1 _ rfl
    have hf0 := HK.out.frozen 0
    have hf1 := HK.out.frozen 1
    have hlt := HK.out.lt
    by_cases hbig : 2147483648 < a ∨ 2147483648 < b
    · go_wp2_with fail
      all_goals exact rat_end rfl rfl rfl ((HK.out.set 0 _).set 1 _) ((HB.out.setCell (Nat.le_refl _) _).setCell (Nat.le_refl _) _) (by rw [HT.out, if_pos hbig])
    · have wa : wrap64 (a : Int) = a := IntWalk.wrap64_in _ (by omega)
      have wb : wrap64 (b : Int) = b := IntWalk.wrap64_in _ (by omega)
      have wn : wrap64 (-(a : Int)) = -(a : Int) := IntWalk.wrap64_in _ (by omega)
      by_cases hp0 : p < 0 <;> by_cases hq0 : q < 0
      all_goals go_wp2_with fail
      all_goals refine rat_end rfl rfl rfl (((HK.out.set 0 _).set 1 _).alloc _) (((HB.out.setCell (Nat.le_refl _) _).setCell (Nat.le_refl _) _).alloc (by rw [size_setCell, size_setCell]; exact Nat.le_of_lt hlt) _) ?_
      all_goals (rw [HT.out, if_neg hbig]; have hz := HZ.out; clear HT; go_light; refine Prod.ext ?_ rfl; show (if _ then _ else _) = _; clear ea eb wa wb wn hc0 hc1 hg0; split <;> first | rfl | omega)
end Go.Proofs.YtcejokbbiinbkaaDoor
end

section
/- The contract of ratio.Valid. -/

namespace Go.Proofs.YtcejokbbiinbkaaDoor
open Go.RowKit
set_option linter.unusedVariables false
set_option maxRecDepth 100000

set_option maxHeartbeats 4000000 in
theorem valid_any (P Q : Int) (w : World) (hp : In64 P) (hq : In64 Q) :
    Calls Tryd.prog 57 #[Rv P Q] w (Says (.bool (decide (Rt.Ok P Q))) w) := by
  obtain ⟨x, y, e, hm⟩ : ∃ x y e, Rt.mk P Q = (x, y, e) := ⟨_, _, _, rfl⟩
  have hv := Rt.valid_iff (P := P) (Q := Q)
  have hM := fun W => make_any P Q W hp hq
  rw [hm] at hM hv
  obtain ⟨z, hz⟩ : ∃ z : Bool, z = decide (Rt.Ok P Q) := ⟨_, rfl⟩
  rw [← hz]
  have HV := Lib.hid (And.intro hv hz)
  clear hp hq hm hv hz
  unfold Rv
  go_enter Tryd.func57, Tryd.ntmps57
  go_wp2_with fail
  refine (hM _).mono ?_
  rintro e' w2 ⟨rfl, hb2⟩
  have hk : Blk w2 w.heap.size [.int .i64 P, .int .i64 Q] 47 := (Blk.new w _ _).below hb2 (by simp)
  have hB : Below w.heap.size w w2 := ((Below.refl _ _).alloc (Nat.le_refl _) _).trans (hb2.mono (by simp))
  have hc0 := hk.cell 0 _ rfl
  have hc1 := hk.cell 1 _ rfl
  have hlt := hk.lt
  have HB := Lib.hid hB
  clear hk hB hb2 hM
  unfold T3 Rv
  go_wp2_with fail
  all_goals (go_ret; refine ⟨congrArg Ending.returned (congrArg Value.bool ?_), HB.out.alloc (Nat.le_of_lt hlt) _⟩; have hv := HV.out; go_light; clear HB HV hc0 hc1 hlt)
  all_goals (rw [hv.2]; first | exact (decide_eq_true (hv.1.1 (by omega))).symm | exact (decide_eq_false (fun k => absurd (hv.1.2 k) (by omega))).symm)
end Go.Proofs.YtcejokbbiinbkaaDoor
end

