/- The contracts of calendar's yearBegin and of its closure, and of yearOf's closure. -/
import Derived.Test.YtkenfgifhebnpaaDoorCalPa
import Derived.Deep.QuietTactic
import Derived.BigQuiet
import Derived.IntWalk
namespace Go.Proofs.YtkenfgifhebnpaaDoor
open Go.RowKit
set_option linter.unusedVariables false
set_option maxRecDepth 100000

set_option maxHeartbeats 1000000 in
theorem yearBegin1_any (p b : Nat) (A : Addr) (w : World) (hp : p ≤ 800) (h1 : 1 ≤ b) (h2 : b ≤ 400) (hc : w.cell? A = some (.int .i64 p)) :
    Calls Tryd.prog 59 #[.int .i64 b, .pointer (some A)] w fun e w' => e = .returned (.int .i64 (((p + b - 1) / b : Nat) : Int)) ∧ w' = w := by
  obtain ⟨q, hq⟩ : ∃ q, q = (p + b - 1) / b := ⟨_, rfl⟩
  have hq2 : (((p : Int) + b - 1) / (b : Int)) = (q : Int) := by rw [hq, Int.natCast_ediv, show ((p + b - 1 : Nat) : Int) = (p : Int) + b - 1 by omega]
  rw [← hq]
  have hb1 : (1 : Int) ≤ b := by omega
  have hb2 : (b : Int) ≤ 400 := by omega
  have hb3 : ¬ b = 0 := by omega
  have hp2 : (p : Int) ≤ 800 := by omega
  have HQ := Lib.hid hq2
  clear hq hq2
  go_enter Tryd.func59, Tryd.ntmps59
  go_wp2_with fail
  go_ret
  exact ⟨by rw [← HQ.out]; rfl, rfl⟩

theorem yb_leaps (p : Nat) : (Cal.yb (1600 + p) : Int) = 365 * (p : Int) + ((p + 4 - 1) / 4 : Nat) - ((p + 100 - 1) / 100 : Nat) + ((p + 400 - 1) / 400 : Nat) := by
  have h := Cal.bY_form p
  rw [Cal.yb_of]
  omega
set_option maxHeartbeats 2000000 in
theorem yearBegin_any (y : Nat) (w : World) (h1 : 1600 ≤ y) (h2 : y ≤ 2400) : Calls Tryd.prog 38 #[.int .i64 y] w fun e w' => e = .returned (.int .i64 (-146097 + (Cal.yb y : Int))) ∧ Below w.heap.size w w' := by
  obtain ⟨p, rfl⟩ : ∃ p, y = 1600 + p := ⟨y - 1600, by omega⟩
  have hp : p ≤ 800 := by omega
  have e := yb_leaps p
  obtain ⟨G, hG⟩ : ∃ G : Int → Int, G = fun b => (((p + b.toNat - 1) / b.toNat : Nat) : Int) := ⟨_, rfl⟩
  have c : ∀ (b : Int) (A : Addr) (W : World), 1 ≤ b → b ≤ 400 → W.cell? A = some (.int .i64 p) → Calls Tryd.prog 59 #[.int .i64 b, .pointer (some A)] W fun e w' => e = .returned (.int .i64 (G b)) ∧ w' = W := by
    intro b A W h1 h2 h
    obtain ⟨n, rfl⟩ := Int.eq_ofNat_of_zero_le (show 0 ≤ b by omega)
    rw [hG]
    exact yearBegin1_any p n A W hp (by omega) (by omega) h
  have l4 : 0 ≤ G 4 ∧ G 4 ≤ 800 := by rw [hG]; show (0 : Int) ≤ (((p + 4 - 1) / 4 : Nat) : Int) ∧ (((p + 4 - 1) / 4 : Nat) : Int) ≤ 800; omega
  have l100 : 0 ≤ G 100 ∧ G 100 ≤ 800 := by rw [hG]; show (0 : Int) ≤ (((p + 100 - 1) / 100 : Nat) : Int) ∧ (((p + 100 - 1) / 100 : Nat) : Int) ≤ 800; omega
  have l400 : 0 ≤ G 400 ∧ G 400 ≤ 800 := by rw [hG]; show (0 : Int) ≤ (((p + 400 - 1) / 400 : Nat) : Int) ∧ (((p + 400 - 1) / 400 : Nat) : Int) ≤ 800; omega
  have e : (Cal.yb (1600 + p) : Int) = 365 * (p : Int) + G 4 - G 100 + G 400 := by rw [hG]; exact e
  obtain ⟨R, hR⟩ : ∃ R, R = (-146097 + (Cal.yb (1600 + p) : Int)) := ⟨_, rfl⟩
  rw [← hR]
  have hx : wrap64 (((1600 + p : Nat) : Int) - 1600) = (p : Int) := by unfold wrap64; omega
  obtain ⟨x, hxx⟩ : ∃ x : Int, x = ((1600 + p : Nat) : Int) := ⟨_, rfl⟩
  rw [← hxx] at hx ⊢
  have e1 : wrap64 (365 * (p : Int)) = 365 * (p : Int) := by unfold wrap64; omega
  have e2 : wrap64 (-146097 + 365 * (p : Int)) = -146097 + 365 * (p : Int) := by unfold wrap64; omega
  have e3 : wrap64 (-146097 + 365 * (p : Int) + G 4) = -146097 + 365 * (p : Int) + G 4 := by unfold wrap64; omega
  have e4 : wrap64 (-146097 + 365 * (p : Int) + G 4 - G 100) = -146097 + 365 * (p : Int) + G 4 - G 100 := by unfold wrap64; omega
  have e5 : wrap64 (-146097 + 365 * (p : Int) + G 4 - G 100 + G 400) = R := by unfold wrap64; omega
  have C := Lib.hid c
  have hmf : ∀ (fn : Fn) (first cap : Array Value) (w : World), (Instr.makeFunc fn first cap).run Tryd.prog w = .ok (.func fn first cap) w := fun _ _ _ _ => rfl
  have E := Lib.hid (And.intro e1 (And.intro e2 (And.intro e3 (And.intro e4 e5))))
  clear c e l4 l100 l400 hG hR hxx h1 h2 hp e1 e2 e3 e4 e5
  go_enter Tryd.func38, Tryd.ntmps38
  go_wp2_with fail
  obtain ⟨W0, hW0⟩ : ∃ W0, W0 = w.alloc (.cells #[.int .i64 (p : Int)] 3) := ⟨_, rfl⟩
  have hk : Blk W0 w.heap.size [.int .i64 (p : Int)] 3 := by rw [hW0]; exact Blk.new w _ _
  have hb : Below w.heap.size w W0 := by rw [hW0]; exact (Below.refl _ _).alloc (Nat.le_refl _) _
  have HB := Lib.hid hb
  have cQ : ∀ q : BelT W0.heap.size W0, q.at.cell? ⟨w.heap.size, 0, none⟩ = some (.int .i64 (p : Int)) := fun q => (hk.below q.out hk.lt).cell 0 _ rfl
  have CQ := Lib.hid cQ
  rw [← hW0]
  clear hb hk hW0
  obtain ⟨e1, e2, e3, e4, e5⟩ := E.out
  refine wp_region_below W0.heap.size (by kernel_rfl) (by kernel_rfl) ?_
  repeat (go_big_quiet_step (exact (C.out _ _ _ (by decide) (by decide) (CQ.out _)).mono fun e w' h => ⟨h.1, _, h.2⟩))
  refine wpQuiet_nil ?_
  intro w' hw'
  obtain ⟨q, rfl⟩ := hw'
  have hb4 := HB.out.trans (q.out.mono HB.out.size)
  have B4 := Lib.hid hb4
  clear cQ hb4 C CQ HB e1 e2 e3 e4 e5
  go_wp2_with fail
  go_ret
  exact ⟨by show Ending.returned (.int .i64 (wrap64 (-146097 + 365 * (p : Int) + G 4 - G 100 + G 400))) = _; rw [E.out.2.2.2.2], B4.out⟩
end Go.Proofs.YtkenfgifhebnpaaDoor
