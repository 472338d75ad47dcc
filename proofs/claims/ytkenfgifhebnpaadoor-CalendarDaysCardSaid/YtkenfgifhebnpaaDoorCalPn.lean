/- The contract of calendar.Moments. -/
import Derived.Test.YtkenfgifhebnpaaDoorCalPj
import Derived.Test.YtkenfgifhebnpaaDoorCalPm
import Derived.Test.YtkenfgifhebnpaaDoorCalMm
namespace Go.Proofs.YtkenfgifhebnpaaDoor
open Go.RowKit
set_option linter.unusedVariables false
set_option maxRecDepth 100000

/-- The two moments that come into question. -/
def cands (a b : Int) : List Int := if a = b then [a] else [a, b]
theorem cands_len (a b : Int) : 1 ≤ (cands a b).length ∧ (cands a b).length ≤ 2 := by unfold cands; split <;> simp
theorem compactC (a b : Int) (g : Nat) (w : World) (hk : Blk w g [.int .i64 a, .int .i64 b] 3) :
    Calls Tryd.prog 54 #[.slice (some ⟨g, 0, none⟩) 2 2] w fun e w' => e = .returned (.slice (some ⟨g, 0, none⟩) (cands a b).length 2) ∧ Below g w w' ∧ ∀ k x, (cands a b)[k]? = some x → w'.cell? ⟨g, k, none⟩ = some (.int .i64 x) := by
  refine (compact2_any a b g w hk).mono ?_
  intro e w' h
  rcases h with ⟨hn, rfl, hb, hkk⟩ | ⟨rfl, rfl, hb, hkk⟩
  · have e2 : cands a b = [a, b] := if_neg hn
    rw [e2]
    refine ⟨rfl, hb, ?_⟩
    intro k x hx
    match k, hx with
    | 0, hx => obtain rfl := Option.some.inj hx; exact hkk.cell 0 _ rfl
    | 1, hx => obtain rfl := Option.some.inj hx; exact hkk.cell 1 _ rfl
    | n + 2, hx => simp at hx
  · have e2 : cands a a = [a] := if_pos rfl
    rw [e2]
    refine ⟨rfl, hb, ?_⟩
    intro k x hx
    match k, hx with
    | 0, hx => obtain rfl := Option.some.inj hx; exact hkk.cell 0 _ rfl
    | n + 1, hx => simp at hx
/-- A moment has this local time. -/
def hitm (d u o s f t m : Int) : Prop := localE m o s f t = 0 ∧ localD m o s f t = d ∧ localM m o s f t = u
noncomputable instance (d u o s f t m : Int) : Decidable (hitm d u o s f t m) := by unfold hitm; exact inferInstance
noncomputable def outUp (d u o s f t : Int) (C : List Int) (k : Nat) : List Int := (C.take k).flatMap fun m => if hitm d u o s f t m then [m] else []
theorem outUp_hit {d u o s f t m : Int} {C : List Int} {k : Nat} (hm : C[k]? = some m) (h : hitm d u o s f t m) : outUp d u o s f t C (k + 1) = outUp d u o s f t C k ++ [m] := by
  unfold outUp
  rw [List.take_add_one, hm]
  simp [h]
theorem outUp_miss {d u o s f t m : Int} {C : List Int} {k : Nat} (hm : C[k]? = some m) (h : ¬ hitm d u o s f t m) : outUp d u o s f t C (k + 1) = outUp d u o s f t C k := by
  unfold outUp
  rw [List.take_add_one, hm]
  simp [h]
theorem outUp_len (d u o s f t : Int) (C : List Int) (k : Nat) : (outUp d u o s f t C k).length ≤ C.length := by
  unfold outUp
  have h : ∀ l : List Int, (l.flatMap fun m => if hitm d u o s f t m then [m] else []).length ≤ l.length := by
    intro l
    induction l with
    | nil => simp
    | cons a l ih =>
      rw [List.flatMap_cons, List.length_append, List.length_cons]
      split
      · simp only [List.length_singleton]; omega
      · simp only [List.length_nil]; omega
  exact Nat.le_trans (h _) (by simp only [List.length_take]; omega)
theorem momUp_two {d u o s f t : Int} (hp : proper o s f t) : momUp d u o s f t 121 = outUp d u o s f t (cands (1440 * d + u - o - s) (1440 * d + u - o)) (cands (1440 * d + u - o - s) (1440 * d + u - o)).length := by
  have hs := hp.2.1
  obtain ⟨a, ha⟩ : ∃ a : Nat, (a : Int) = 120 - s := ⟨(120 - s).toNat, by omega⟩
  have e120 : momN d u o 120 = 1440 * d + u - o := by show 1440 * d + u - o - 120 + ((120 : Nat) : Int) = _; omega
  have ea : momN d u o a = 1440 * d + u - o - s := by show 1440 * d + u - o - 120 + (a : Int) = _; omega
  rw [← ea, ← e120]
  have z : momUp d u o s f t a = [] := by
    rw [momUp_flat 0 a (Nat.zero_le _) (fun j _ h2 hj => by have := hit_where hj; omega)]
    rfl
  have hh : ∀ k, hit d u o s f t k ↔ hitm d u o s f t (momN d u o k) := fun k => Iff.rfl
  by_cases s0 : s = 0
  · have ea2 : a = 120 := by omega
    subst ea2
    have ec : cands (momN d u o 120) (momN d u o 120) = [momN d u o 120] := if_pos rfl
    rw [ec]
    by_cases h : hit d u o s f t 120
    · rw [momUp_hit h, z]
      unfold outUp
      simp [(hh 120).1 h]
    · rw [momUp_miss h, z]
      unfold outUp
      simp [show ¬ hitm d u o s f t (momN d u o 120) from fun x => h ((hh 120).2 x)]
  · have ec : cands (momN d u o a) (momN d u o 120) = [momN d u o a, momN d u o 120] := if_neg (by rw [e120, ea]; omega)
    rw [ec]
    have hmid : momUp d u o s f t 120 = momUp d u o s f t (a + 1) := momUp_flat (a + 1) 120 (by omega) (fun j h1 h2 hj => by have := hit_where hj; omega)
    unfold outUp
    by_cases h1 : hit d u o s f t a
    · by_cases h2 : hit d u o s f t 120
      · rw [momUp_hit h2, hmid, momUp_hit h1, z]
        simp [(hh a).1 h1, (hh 120).1 h2]
      · rw [momUp_miss h2, hmid, momUp_hit h1, z]
        simp [(hh a).1 h1, show ¬ hitm d u o s f t (momN d u o 120) from fun x => h2 ((hh 120).2 x)]
    · by_cases h2 : hit d u o s f t 120
      · rw [momUp_hit h2, hmid, momUp_miss h1, z]
        simp [show ¬ hitm d u o s f t (momN d u o a) from fun x => h1 ((hh a).2 x), (hh 120).1 h2]
      · rw [momUp_miss h2, hmid, momUp_miss h1, z]
        simp [show ¬ hitm d u o s f t (momN d u o a) from fun x => h1 ((hh a).2 x), show ¬ hitm d u o s f t (momN d u o 120) from fun x => h2 ((hh 120).2 x)]
end Go.Proofs.YtkenfgifhebnpaaDoor
