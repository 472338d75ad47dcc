/- The contract of ratio.Valid. -/
import Derived.Test.YtbkgigbalnmbkaaDoorRatioPd
namespace Go.Proofs.YtbkgigbalnmbkaaDoor
open Go.RowKit
set_option linter.unusedVariables false
set_option maxRecDepth 100000

set_option maxHeartbeats 4000000 in
theorem valid_any (P Q : Int) (w : World) (hp : In64 P) (hq : In64 Q) :
    Calls Tryd.prog 12 #[Rv P Q] w (Says (.bool (decide (Rt.Ok P Q))) w) := by
  obtain ⟨x, y, e, hm⟩ : ∃ x y e, Rt.mk P Q = (x, y, e) := ⟨_, _, _, rfl⟩
  have hv := Rt.valid_iff (P := P) (Q := Q)
  have hM := fun W => make_any P Q W hp hq
  rw [hm] at hM hv
  obtain ⟨z, hz⟩ : ∃ z : Bool, z = decide (Rt.Ok P Q) := ⟨_, rfl⟩
  rw [← hz]
  have HV := Lib.hid (And.intro hv hz)
  clear hp hq hm hv hz
  unfold Rv
  go_enter Tryd.func12, Tryd.ntmps12
  go_wp2_with fail
  refine (hM _).mono ?_
  rintro e' w2 ⟨rfl, hb2⟩
  have hk : Blk w2 w.heap.size [.int .i64 P, .int .i64 Q] 23 := (Blk.new w _ _).below hb2 (by simp)
  have hB : Below w.heap.size w w2 := ((Below.refl _ _).alloc (Nat.le_refl _) _).trans (hb2.mono (by simp))
  have hc0 := hk.cell 0 _ rfl
  have hc1 := hk.cell 1 _ rfl
  have hlt := hk.lt
  have HB := Lib.hid hB
  clear hk hB hb2 hM
  unfold T3 Rv
  go_wp2_with fail
  all_goals (go_ret; refine ⟨congrArg Ending.returned (congrArg Value.bool ?_), HB.out.alloc (Nat.le_of_lt hlt) _⟩; have hv := HV.out; go_light; clear HB HV hc0 hc1 hlt)
  all_goals (rw [hv.2]; first | exact (decide_eq_true (hv.1.1 (by omega))).symm | exact (decide_eq_false (fun k => absurd (hv.1.2 k) (by omega))).symm)
end Go.Proofs.YtbkgigbalnmbkaaDoor
