import Derived.Test.YtkgddcemocfgfaaGreatDoorJZSmGc

section
/- The reference of schemas: isField (gen_isfield.py writes it). -/

namespace Go.Proofs.YtkgddcemocfgfaaGreatDoor
open Go.RowKit
set_option linter.unusedVariables false
set_option linter.unusedSimpArgs false
set_option maxRecDepth 100000

theorem sizeE (s : ByteArray) : (s.size = 0) = (s.toList = []) := by
 apply propext
 rw [ByteArray.toList_eq]
 constructor
 ·intro h
  have h2 : s.data.size = 0 := h
  rw [Array.eq_empty_of_size_eq_zero h2]
 ·intro h
  have h2 : s.data.toList.length = 0 := by rw [h]; rfl
  rw [Array.length_toList] at h2
  exact h2

set_option maxHeartbeats 4000000 in
theorem smIsField_0 (f : Sm.Fd) (Aw : Option Addr) (cw : Nat) (Ag : Option Addr) (cg : Nat) (w : World) (hw : Rd w w.heap.size Aw (f.words.map sv)) (hg : Rd w w.heap.size Ag (f.weights.map iv)) (hl : f.weights.length ≤ 1000000000) (hlw : f.words.length ≤ 1000000000) (hk : f.kind = 0) :
  Calls Tryz.prog 98 #[fdV f Aw cw Ag cg] w fun e w' => e = .returned (.bool (Sm.isField f)) ∧ Below w.heap.size w w' := by
 have cI := fun W => smIsName_any f.name W
 have cO := fun W => smIsName_any f.of W
 have cP := fun W => smIsName_any f.up W
 have cU := fun W => smUses_any f.kind W
 have cF := fun W => smWithin_any f.lo (-1048576) 1048576 W
 unfold fdV
 obtain ⟨z, hz⟩ : ∃ z, z = Sm.isField f := ⟨_, rfl⟩
 rw [← hz]
 obtain ⟨name, of, up, kind, lo, hi, words, weights⟩ := f
 dsimp only at hw hg hl hlw hk cI cO cP cU cF ⊢
 subst hk
 obtain ⟨N, hN⟩ : ∃ N, N = weights.length := ⟨_, rfl⟩
 obtain ⟨M, hM⟩ : ∃ M, M = words.length := ⟨_, rfl⟩
 have hNM : ¬ (M : Int) + N > 0 → M = 0 ∧ N = 0 := fun h => by omega
 have hMN : wrap64 ((M : Int) + N) = M + N := by unfold wrap64; omega
 simp only [Sm.isField, Sm.plainField, Sm.leads, Sm.fits, Sm.usesOf, Sm.usesUp, Sm.usesLo, Sm.usesHi, Sm.usesWords, sizeE, ← hN, ← hM] at hz
 have HZ := Lib.hid hz
 have HN := Lib.hid (And.intro hN (And.intro hM hNM))
 rw [← hN] at hl ⊢
 rw [← hM] at hlw ⊢
 have CF := Lib.hid cF
 have CI := Lib.hid cI
 have CO := Lib.hid cO
 have CP := Lib.hid cP
 have CU := Lib.hid cU
 clear hz hN hM hNM hw hg cI cO cP cU cF
 go_enter Tryz.func98, Tryz.ntmps98
 go_wp2_with fail
 refine (CU.out _).mono ?_
 rintro e w1 ⟨rfl, rfl⟩
 rw [show usesV 0 = .tuple #[.bool false, .bool false, .bool true, .bool false, .bool false] from rfl]
 go_wp2_with fail
 refine (CI.out _).mono ?_
 rintro e w1 ⟨rfl, rfl⟩
 go_wp2_with fail
 all_goals first | (show bodyPost _ _ _ _ _ _; (obtain rfl : z = false := by (rw [HZ.out]; (try simp only [Bool.not_eq_true', Bool.not_eq_false'] at *); first | ((have m0 : M = 0 := by omega); (have n0 : N = 0 := by omega); simp [m0, n0, *]; done) | (simp [*] <;> (try (intros; omega))))); go_ret; exact ⟨rfl, (Below.refl _ _).alloc (Nat.le_refl _) _⟩) | skip
 all_goals (refine (CF.out _).mono ?_; rintro e w1 ⟨rfl, rfl⟩; go_wp2_with fail; (obtain rfl : z = Sm.within lo (-1048576) 1048576 := by (rw [HZ.out]; (try simp only [Bool.not_eq_true', Bool.not_eq_false'] at *); first | ((have m0 : M = 0 := by omega); (have n0 : N = 0 := by omega); simp [m0, n0, *]; done) | (simp [*] <;> (try (intros; omega))))); go_ret; exact ⟨rfl, (Below.refl _ _).alloc (Nat.le_refl _) _⟩)

set_option maxHeartbeats 4000000 in
theorem smIsField_1 (f : Sm.Fd) (Aw : Option Addr) (cw : Nat) (Ag : Option Addr) (cg : Nat) (w : World) (hw : Rd w w.heap.size Aw (f.words.map sv)) (hg : Rd w w.heap.size Ag (f.weights.map iv)) (hl : f.weights.length ≤ 1000000000) (hlw : f.words.length ≤ 1000000000) (hk : f.kind = 1) :
  Calls Tryz.prog 98 #[fdV f Aw cw Ag cg] w fun e w' => e = .returned (.bool (Sm.isField f)) ∧ Below w.heap.size w w' := by
 have cI := fun W => smIsName_any f.name W
 have cO := fun W => smIsName_any f.of W
 have cP := fun W => smIsName_any f.up W
 have cU := fun W => smUses_any f.kind W
 have cF := fun W => smSpan_any f.lo f.hi 0 65536 W
 unfold fdV
 obtain ⟨z, hz⟩ : ∃ z, z = Sm.isField f := ⟨_, rfl⟩
 rw [← hz]
 obtain ⟨name, of, up, kind, lo, hi, words, weights⟩ := f
 dsimp only at hw hg hl hlw hk cI cO cP cU cF ⊢
 subst hk
 obtain ⟨N, hN⟩ : ∃ N, N = weights.length := ⟨_, rfl⟩
 obtain ⟨M, hM⟩ : ∃ M, M = words.length := ⟨_, rfl⟩
 have hNM : ¬ (M : Int) + N > 0 → M = 0 ∧ N = 0 := fun h => by omega
 have hMN : wrap64 ((M : Int) + N) = M + N := by unfold wrap64; omega
 simp only [Sm.isField, Sm.plainField, Sm.leads, Sm.fits, Sm.usesOf, Sm.usesUp, Sm.usesLo, Sm.usesHi, Sm.usesWords, sizeE, ← hN, ← hM] at hz
 have HZ := Lib.hid hz
 have HN := Lib.hid (And.intro hN (And.intro hM hNM))
 rw [← hN] at hl ⊢
 rw [← hM] at hlw ⊢
 have CF := Lib.hid cF
 have CI := Lib.hid cI
 have CO := Lib.hid cO
 have CP := Lib.hid cP
 have CU := Lib.hid cU
 clear hz hN hM hNM hw hg cI cO cP cU cF
 go_enter Tryz.func98, Tryz.ntmps98
 go_wp2_with fail
 refine (CU.out _).mono ?_
 rintro e w1 ⟨rfl, rfl⟩
 rw [show usesV 1 = .tuple #[.bool true, .bool false, .bool true, .bool true, .bool false] from rfl]
 go_wp2_with fail
 refine (CI.out _).mono ?_
 rintro e w1 ⟨rfl, rfl⟩
 go_wp2_with fail
 all_goals first | (show bodyPost _ _ _ _ _ _; (obtain rfl : z = false := by (rw [HZ.out]; (try simp only [Bool.not_eq_true', Bool.not_eq_false'] at *); first | ((have m0 : M = 0 := by omega); (have n0 : N = 0 := by omega); simp [m0, n0, *]; done) | (simp [*] <;> (try (intros; omega))))); go_ret; exact ⟨rfl, (Below.refl _ _).alloc (Nat.le_refl _) _⟩) | skip
 all_goals (refine (CO.out _).mono ?_; rintro e w1 ⟨rfl, rfl⟩; go_wp2_with fail)
 all_goals first | (show bodyPost _ _ _ _ _ _; (obtain rfl : z = false := by (rw [HZ.out]; (try simp only [Bool.not_eq_true', Bool.not_eq_false'] at *); first | ((have m0 : M = 0 := by omega); (have n0 : N = 0 := by omega); simp [m0, n0, *]; done) | (simp [*] <;> (try (intros; omega))))); go_ret; exact ⟨rfl, (Below.refl _ _).alloc (Nat.le_refl _) _⟩) | skip
 all_goals (refine (CF.out _).mono ?_; rintro e w1 ⟨rfl, rfl⟩; go_wp2_with fail; (obtain rfl : z = Sm.span lo hi 0 65536 := by (rw [HZ.out]; (try simp only [Bool.not_eq_true', Bool.not_eq_false'] at *); first | ((have m0 : M = 0 := by omega); (have n0 : N = 0 := by omega); simp [m0, n0, *]; done) | (simp [*] <;> (try (intros; omega))))); go_ret; exact ⟨rfl, (Below.refl _ _).alloc (Nat.le_refl _) _⟩)

set_option maxHeartbeats 4000000 in
theorem smIsField_2 (f : Sm.Fd) (Aw : Option Addr) (cw : Nat) (Ag : Option Addr) (cg : Nat) (w : World) (hw : Rd w w.heap.size Aw (f.words.map sv)) (hg : Rd w w.heap.size Ag (f.weights.map iv)) (hl : f.weights.length ≤ 1000000000) (hlw : f.words.length ≤ 1000000000) (hk : f.kind = 2) :
  Calls Tryz.prog 98 #[fdV f Aw cw Ag cg] w fun e w' => e = .returned (.bool (Sm.isField f)) ∧ Below w.heap.size w w' := by
 have cI := fun W => smIsName_any f.name W
 have cO := fun W => smIsName_any f.of W
 have cP := fun W => smIsName_any f.up W
 have cU := fun W => smUses_any f.kind W
 have cF := fun W => smSpan_any f.lo f.hi (-1048576) 1048576 W
 unfold fdV
 obtain ⟨z, hz⟩ : ∃ z, z = Sm.isField f := ⟨_, rfl⟩
 rw [← hz]
 obtain ⟨name, of, up, kind, lo, hi, words, weights⟩ := f
 dsimp only at hw hg hl hlw hk cI cO cP cU cF ⊢
 subst hk
 obtain ⟨N, hN⟩ : ∃ N, N = weights.length := ⟨_, rfl⟩
 obtain ⟨M, hM⟩ : ∃ M, M = words.length := ⟨_, rfl⟩
 have hNM : ¬ (M : Int) + N > 0 → M = 0 ∧ N = 0 := fun h => by omega
 have hMN : wrap64 ((M : Int) + N) = M + N := by unfold wrap64; omega
 simp only [Sm.isField, Sm.plainField, Sm.leads, Sm.fits, Sm.usesOf, Sm.usesUp, Sm.usesLo, Sm.usesHi, Sm.usesWords, sizeE, ← hN, ← hM] at hz
 have HZ := Lib.hid hz
 have HN := Lib.hid (And.intro hN (And.intro hM hNM))
 rw [← hN] at hl ⊢
 rw [← hM] at hlw ⊢
 have CF := Lib.hid cF
 have CI := Lib.hid cI
 have CO := Lib.hid cO
 have CP := Lib.hid cP
 have CU := Lib.hid cU
 clear hz hN hM hNM hw hg cI cO cP cU cF
 go_enter Tryz.func98, Tryz.ntmps98
 go_wp2_with fail
 refine (CU.out _).mono ?_
 rintro e w1 ⟨rfl, rfl⟩
 rw [show usesV 2 = .tuple #[.bool false, .bool false, .bool true, .bool true, .bool false] from rfl]
 go_wp2_with fail
 refine (CI.out _).mono ?_
 rintro e w1 ⟨rfl, rfl⟩
 go_wp2_with fail
 all_goals first | (show bodyPost _ _ _ _ _ _; (obtain rfl : z = false := by (rw [HZ.out]; (try simp only [Bool.not_eq_true', Bool.not_eq_false'] at *); first | ((have m0 : M = 0 := by omega); (have n0 : N = 0 := by omega); simp [m0, n0, *]; done) | (simp [*] <;> (try (intros; omega))))); go_ret; exact ⟨rfl, (Below.refl _ _).alloc (Nat.le_refl _) _⟩) | skip
 all_goals (refine (CF.out _).mono ?_; rintro e w1 ⟨rfl, rfl⟩; go_wp2_with fail; (obtain rfl : z = Sm.span lo hi (-1048576) 1048576 := by (rw [HZ.out]; (try simp only [Bool.not_eq_true', Bool.not_eq_false'] at *); first | ((have m0 : M = 0 := by omega); (have n0 : N = 0 := by omega); simp [m0, n0, *]; done) | (simp [*] <;> (try (intros; omega))))); go_ret; exact ⟨rfl, (Below.refl _ _).alloc (Nat.le_refl _) _⟩)

set_option maxHeartbeats 4000000 in
theorem smIsField_3 (f : Sm.Fd) (Aw : Option Addr) (cw : Nat) (Ag : Option Addr) (cg : Nat) (w : World) (hw : Rd w w.heap.size Aw (f.words.map sv)) (hg : Rd w w.heap.size Ag (f.weights.map iv)) (hl : f.weights.length ≤ 1000000000) (hlw : f.words.length ≤ 1000000000) (hk : f.kind = 3) :
  Calls Tryz.prog 98 #[fdV f Aw cw Ag cg] w fun e w' => e = .returned (.bool (Sm.isField f)) ∧ Below w.heap.size w w' := by
 have cI := fun W => smIsName_any f.name W
 have cO := fun W => smIsName_any f.of W
 have cP := fun W => smIsName_any f.up W
 have cU := fun W => smUses_any f.kind W
 have cF := fun W (hb : Below w.heap.size w W) => smIsPick_any f Aw cw Ag cg W ((hw.below hb).more hb.size) ((hg.below hb).more hb.size) hl hlw
 unfold fdV at cF
 unfold fdV
 obtain ⟨z, hz⟩ : ∃ z, z = Sm.isField f := ⟨_, rfl⟩
 rw [← hz]
 obtain ⟨name, of, up, kind, lo, hi, words, weights⟩ := f
 dsimp only at hw hg hl hlw hk cI cO cP cU cF ⊢
 subst hk
 obtain ⟨P, hP⟩ : ∃ P, P = Sm.isPick ⟨name, of, up, 3, lo, hi, words, weights⟩ := ⟨_, rfl⟩
 rw [← hP] at cF
 obtain ⟨N, hN⟩ : ∃ N, N = weights.length := ⟨_, rfl⟩
 obtain ⟨M, hM⟩ : ∃ M, M = words.length := ⟨_, rfl⟩
 have hNM : ¬ (M : Int) + N > 0 → M = 0 ∧ N = 0 := fun h => by omega
 have hMN : wrap64 ((M : Int) + N) = M + N := by unfold wrap64; omega
 rw [← hN, ← hM] at cF
 simp only [Sm.isField, Sm.plainField, Sm.leads, Sm.fits, Sm.usesOf, Sm.usesUp, Sm.usesLo, Sm.usesHi, Sm.usesWords, sizeE, ← hN, ← hM] at hz
 have HZ := Lib.hid hz
 have HN := Lib.hid (And.intro hN (And.intro hM hNM))
 rw [← hN] at hl ⊢
 rw [← hM] at hlw ⊢
 have HP := Lib.hid hP
 have CF := Lib.hid cF
 have CI := Lib.hid cI
 have CO := Lib.hid cO
 have CP := Lib.hid cP
 have CU := Lib.hid cU
 clear hz hN hM hNM hw hg cI cO cP cU cF hP
 go_enter Tryz.func98, Tryz.ntmps98
 go_wp2_with fail
 refine (CU.out _).mono ?_
 rintro e w1 ⟨rfl, rfl⟩
 rw [show usesV 3 = .tuple #[.bool false, .bool false, .bool false, .bool false, .bool true] from rfl]
 go_wp2_with fail
 refine (CI.out _).mono ?_
 rintro e w1 ⟨rfl, rfl⟩
 go_wp2_with fail
 all_goals first | (show bodyPost _ _ _ _ _ _; (obtain rfl : z = false := by (rw [HZ.out]; (try simp only [Bool.not_eq_true', Bool.not_eq_false'] at *); first | ((have m0 : M = 0 := by omega); (have n0 : N = 0 := by omega); simp [m0, n0, *]; done) | (simp [*] <;> (try (intros; omega))))); go_ret; exact ⟨rfl, (Below.refl _ _).alloc (Nat.le_refl _) _⟩) | skip
 all_goals ((obtain rfl : lo = 0 := by assumption); (obtain rfl : hi = 0 := by assumption); refine (CF.out _ ((Below.refl _ _).alloc (Nat.le_refl _) _)).mono ?_; rintro e w1 ⟨rfl, hb⟩; go_wp2_with fail; (obtain rfl : z = P := by (rw [HZ.out, HP.out]; (try simp only [Bool.not_eq_true', Bool.not_eq_false'] at *); simp [*] <;> (try (intros; omega)))); go_ret; exact ⟨rfl, ((Below.refl _ _).alloc (Nat.le_refl _) _).trans (hb.mono (by simp))⟩)

set_option maxHeartbeats 4000000 in
theorem smIsField_4 (f : Sm.Fd) (Aw : Option Addr) (cw : Nat) (Ag : Option Addr) (cg : Nat) (w : World) (hw : Rd w w.heap.size Aw (f.words.map sv)) (hg : Rd w w.heap.size Ag (f.weights.map iv)) (hl : f.weights.length ≤ 1000000000) (hlw : f.words.length ≤ 1000000000) (hk : f.kind = 4) :
  Calls Tryz.prog 98 #[fdV f Aw cw Ag cg] w fun e w' => e = .returned (.bool (Sm.isField f)) ∧ Below w.heap.size w w' := by
 have cI := fun W => smIsName_any f.name W
 have cO := fun W => smIsName_any f.of W
 have cP := fun W => smIsName_any f.up W
 have cU := fun W => smUses_any f.kind W
 have cF := fun W => smSpan_any f.lo f.hi (-1048576) 1048576 W
 unfold fdV
 obtain ⟨z, hz⟩ : ∃ z, z = Sm.isField f := ⟨_, rfl⟩
 rw [← hz]
 obtain ⟨name, of, up, kind, lo, hi, words, weights⟩ := f
 dsimp only at hw hg hl hlw hk cI cO cP cU cF ⊢
 subst hk
 obtain ⟨N, hN⟩ : ∃ N, N = weights.length := ⟨_, rfl⟩
 obtain ⟨M, hM⟩ : ∃ M, M = words.length := ⟨_, rfl⟩
 have hNM : ¬ (M : Int) + N > 0 → M = 0 ∧ N = 0 := fun h => by omega
 have hMN : wrap64 ((M : Int) + N) = M + N := by unfold wrap64; omega
 simp only [Sm.isField, Sm.plainField, Sm.leads, Sm.fits, Sm.usesOf, Sm.usesUp, Sm.usesLo, Sm.usesHi, Sm.usesWords, sizeE, ← hN, ← hM] at hz
 have HZ := Lib.hid hz
 have HN := Lib.hid (And.intro hN (And.intro hM hNM))
 rw [← hN] at hl ⊢
 rw [← hM] at hlw ⊢
 have CF := Lib.hid cF
 have CI := Lib.hid cI
 have CO := Lib.hid cO
 have CP := Lib.hid cP
 have CU := Lib.hid cU
 clear hz hN hM hNM hw hg cI cO cP cU cF
 go_enter Tryz.func98, Tryz.ntmps98
 go_wp2_with fail
 refine (CU.out _).mono ?_
 rintro e w1 ⟨rfl, rfl⟩
 rw [show usesV 4 = .tuple #[.bool true, .bool false, .bool true, .bool true, .bool false] from rfl]
 go_wp2_with fail
 refine (CI.out _).mono ?_
 rintro e w1 ⟨rfl, rfl⟩
 go_wp2_with fail
 all_goals first | (show bodyPost _ _ _ _ _ _; (obtain rfl : z = false := by (rw [HZ.out]; (try simp only [Bool.not_eq_true', Bool.not_eq_false'] at *); first | ((have m0 : M = 0 := by omega); (have n0 : N = 0 := by omega); simp [m0, n0, *]; done) | (simp [*] <;> (try (intros; omega))))); go_ret; exact ⟨rfl, (Below.refl _ _).alloc (Nat.le_refl _) _⟩) | skip
 all_goals (refine (CO.out _).mono ?_; rintro e w1 ⟨rfl, rfl⟩; go_wp2_with fail)
 all_goals first | (show bodyPost _ _ _ _ _ _; (obtain rfl : z = false := by (rw [HZ.out]; (try simp only [Bool.not_eq_true', Bool.not_eq_false'] at *); first | ((have m0 : M = 0 := by omega); (have n0 : N = 0 := by omega); simp [m0, n0, *]; done) | (simp [*] <;> (try (intros; omega))))); go_ret; exact ⟨rfl, (Below.refl _ _).alloc (Nat.le_refl _) _⟩) | skip
 all_goals (refine (CF.out _).mono ?_; rintro e w1 ⟨rfl, rfl⟩; go_wp2_with fail; (obtain rfl : z = Sm.span lo hi (-1048576) 1048576 := by (rw [HZ.out]; (try simp only [Bool.not_eq_true', Bool.not_eq_false'] at *); first | ((have m0 : M = 0 := by omega); (have n0 : N = 0 := by omega); simp [m0, n0, *]; done) | (simp [*] <;> (try (intros; omega))))); go_ret; exact ⟨rfl, (Below.refl _ _).alloc (Nat.le_refl _) _⟩)

set_option maxHeartbeats 4000000 in
theorem smIsField_5 (f : Sm.Fd) (Aw : Option Addr) (cw : Nat) (Ag : Option Addr) (cg : Nat) (w : World) (hw : Rd w w.heap.size Aw (f.words.map sv)) (hg : Rd w w.heap.size Ag (f.weights.map iv)) (hl : f.weights.length ≤ 1000000000) (hlw : f.words.length ≤ 1000000000) (hk : f.kind = 5) :
  Calls Tryz.prog 98 #[fdV f Aw cw Ag cg] w fun e w' => e = .returned (.bool (Sm.isField f)) ∧ Below w.heap.size w w' := by
 have cI := fun W => smIsName_any f.name W
 have cO := fun W => smIsName_any f.of W
 have cP := fun W => smIsName_any f.up W
 have cU := fun W => smUses_any f.kind W
 have cF := fun W => smSpan_any f.lo f.hi 0 32 W
 unfold fdV
 obtain ⟨z, hz⟩ : ∃ z, z = Sm.isField f := ⟨_, rfl⟩
 rw [← hz]
 obtain ⟨name, of, up, kind, lo, hi, words, weights⟩ := f
 dsimp only at hw hg hl hlw hk cI cO cP cU cF ⊢
 subst hk
 obtain ⟨N, hN⟩ : ∃ N, N = weights.length := ⟨_, rfl⟩
 obtain ⟨M, hM⟩ : ∃ M, M = words.length := ⟨_, rfl⟩
 have hNM : ¬ (M : Int) + N > 0 → M = 0 ∧ N = 0 := fun h => by omega
 have hMN : wrap64 ((M : Int) + N) = M + N := by unfold wrap64; omega
 simp only [Sm.isField, Sm.plainField, Sm.leads, Sm.fits, Sm.usesOf, Sm.usesUp, Sm.usesLo, Sm.usesHi, Sm.usesWords, sizeE, ← hN, ← hM] at hz
 have HZ := Lib.hid hz
 have HN := Lib.hid (And.intro hN (And.intro hM hNM))
 rw [← hN] at hl ⊢
 rw [← hM] at hlw ⊢
 have CF := Lib.hid cF
 have CI := Lib.hid cI
 have CO := Lib.hid cO
 have CP := Lib.hid cP
 have CU := Lib.hid cU
 clear hz hN hM hNM hw hg cI cO cP cU cF
 go_enter Tryz.func98, Tryz.ntmps98
 go_wp2_with fail
 refine (CU.out _).mono ?_
 rintro e w1 ⟨rfl, rfl⟩
 rw [show usesV 5 = .tuple #[.bool true, .bool false, .bool true, .bool true, .bool false] from rfl]
 go_wp2_with fail
 refine (CI.out _).mono ?_
 rintro e w1 ⟨rfl, rfl⟩
 go_wp2_with fail
 all_goals first | (show bodyPost _ _ _ _ _ _; (obtain rfl : z = false := by (rw [HZ.out]; (try simp only [Bool.not_eq_true', Bool.not_eq_false'] at *); first | ((have m0 : M = 0 := by omega); (have n0 : N = 0 := by omega); simp [m0, n0, *]; done) | (simp [*] <;> (try (intros; omega))))); go_ret; exact ⟨rfl, (Below.refl _ _).alloc (Nat.le_refl _) _⟩) | skip
 all_goals (refine (CO.out _).mono ?_; rintro e w1 ⟨rfl, rfl⟩; go_wp2_with fail)
 all_goals first | (show bodyPost _ _ _ _ _ _; (obtain rfl : z = false := by (rw [HZ.out]; (try simp only [Bool.not_eq_true', Bool.not_eq_false'] at *); first | ((have m0 : M = 0 := by omega); (have n0 : N = 0 := by omega); simp [m0, n0, *]; done) | (simp [*] <;> (try (intros; omega))))); go_ret; exact ⟨rfl, (Below.refl _ _).alloc (Nat.le_refl _) _⟩) | skip
 all_goals (refine (CF.out _).mono ?_; rintro e w1 ⟨rfl, rfl⟩; go_wp2_with fail; (obtain rfl : z = Sm.span lo hi 0 32 := by (rw [HZ.out]; (try simp only [Bool.not_eq_true', Bool.not_eq_false'] at *); first | ((have m0 : M = 0 := by omega); (have n0 : N = 0 := by omega); simp [m0, n0, *]; done) | (simp [*] <;> (try (intros; omega))))); go_ret; exact ⟨rfl, (Below.refl _ _).alloc (Nat.le_refl _) _⟩)

set_option maxHeartbeats 4000000 in
theorem smIsField_6 (f : Sm.Fd) (Aw : Option Addr) (cw : Nat) (Ag : Option Addr) (cg : Nat) (w : World) (hw : Rd w w.heap.size Aw (f.words.map sv)) (hg : Rd w w.heap.size Ag (f.weights.map iv)) (hl : f.weights.length ≤ 1000000000) (hlw : f.words.length ≤ 1000000000) (hk : f.kind = 6) :
  Calls Tryz.prog 98 #[fdV f Aw cw Ag cg] w fun e w' => e = .returned (.bool (Sm.isField f)) ∧ Below w.heap.size w w' := by
 have cI := fun W => smIsName_any f.name W
 have cO := fun W => smIsName_any f.of W
 have cP := fun W => smIsName_any f.up W
 have cU := fun W => smUses_any f.kind W
 unfold fdV
 obtain ⟨z, hz⟩ : ∃ z, z = Sm.isField f := ⟨_, rfl⟩
 rw [← hz]
 obtain ⟨name, of, up, kind, lo, hi, words, weights⟩ := f
 dsimp only at hw hg hl hlw hk cI cO cP cU ⊢
 subst hk
 obtain ⟨N, hN⟩ : ∃ N, N = weights.length := ⟨_, rfl⟩
 obtain ⟨M, hM⟩ : ∃ M, M = words.length := ⟨_, rfl⟩
 have hNM : ¬ (M : Int) + N > 0 → M = 0 ∧ N = 0 := fun h => by omega
 have hMN : wrap64 ((M : Int) + N) = M + N := by unfold wrap64; omega
 simp only [Sm.isField, Sm.plainField, Sm.leads, Sm.fits, Sm.usesOf, Sm.usesUp, Sm.usesLo, Sm.usesHi, Sm.usesWords, sizeE, ← hN, ← hM] at hz
 have HZ := Lib.hid hz
 have HN := Lib.hid (And.intro hN (And.intro hM hNM))
 rw [← hN] at hl ⊢
 rw [← hM] at hlw ⊢
 have CI := Lib.hid cI
 have CO := Lib.hid cO
 have CP := Lib.hid cP
 have CU := Lib.hid cU
 clear hz hN hM hNM hw hg cI cO cP cU
 go_enter Tryz.func98, Tryz.ntmps98
 go_wp2_with fail
 refine (CU.out _).mono ?_
 rintro e w1 ⟨rfl, rfl⟩
 rw [show usesV 6 = .tuple #[.bool true, .bool false, .bool false, .bool false, .bool false] from rfl]
 go_wp2_with fail
 refine (CI.out _).mono ?_
 rintro e w1 ⟨rfl, rfl⟩
 go_wp2_with fail
 all_goals first | (show bodyPost _ _ _ _ _ _; (obtain rfl : z = false := by (rw [HZ.out]; (try simp only [Bool.not_eq_true', Bool.not_eq_false'] at *); first | ((have m0 : M = 0 := by omega); (have n0 : N = 0 := by omega); simp [m0, n0, *]; done) | (simp [*] <;> (try (intros; omega))))); go_ret; exact ⟨rfl, (Below.refl _ _).alloc (Nat.le_refl _) _⟩) | skip
 all_goals (refine (CO.out _).mono ?_; rintro e w1 ⟨rfl, rfl⟩; go_wp2_with fail)
 all_goals first | (show bodyPost _ _ _ _ _ _; (obtain rfl : z = false := by (rw [HZ.out]; (try simp only [Bool.not_eq_true', Bool.not_eq_false'] at *); first | ((have m0 : M = 0 := by omega); (have n0 : N = 0 := by omega); simp [m0, n0, *]; done) | (simp [*] <;> (try (intros; omega))))); go_ret; exact ⟨rfl, (Below.refl _ _).alloc (Nat.le_refl _) _⟩) | skip
 all_goals ((obtain rfl : z = true := by (rw [HZ.out]; (try simp only [Bool.not_eq_true', Bool.not_eq_false'] at *); first | ((have m0 : M = 0 := by omega); (have n0 : N = 0 := by omega); simp [m0, n0, *]; done) | (simp [*] <;> (try (intros; omega))))); go_ret; exact ⟨rfl, (Below.refl _ _).alloc (Nat.le_refl _) _⟩)

set_option maxHeartbeats 4000000 in
theorem smIsField_7 (f : Sm.Fd) (Aw : Option Addr) (cw : Nat) (Ag : Option Addr) (cg : Nat) (w : World) (hw : Rd w w.heap.size Aw (f.words.map sv)) (hg : Rd w w.heap.size Ag (f.weights.map iv)) (hl : f.weights.length ≤ 1000000000) (hlw : f.words.length ≤ 1000000000) (hk : f.kind = 7) :
  Calls Tryz.prog 98 #[fdV f Aw cw Ag cg] w fun e w' => e = .returned (.bool (Sm.isField f)) ∧ Below w.heap.size w w' := by
 have cI := fun W => smIsName_any f.name W
 have cO := fun W => smIsName_any f.of W
 have cP := fun W => smIsName_any f.up W
 have cU := fun W => smUses_any f.kind W
 have cF := fun W => smSpan_any f.lo f.hi 0 1048576 W
 unfold fdV
 obtain ⟨z, hz⟩ : ∃ z, z = Sm.isField f := ⟨_, rfl⟩
 rw [← hz]
 obtain ⟨name, of, up, kind, lo, hi, words, weights⟩ := f
 dsimp only at hw hg hl hlw hk cI cO cP cU cF ⊢
 subst hk
 obtain ⟨N, hN⟩ : ∃ N, N = weights.length := ⟨_, rfl⟩
 obtain ⟨M, hM⟩ : ∃ M, M = words.length := ⟨_, rfl⟩
 have hNM : ¬ (M : Int) + N > 0 → M = 0 ∧ N = 0 := fun h => by omega
 have hMN : wrap64 ((M : Int) + N) = M + N := by unfold wrap64; omega
 simp only [Sm.isField, Sm.plainField, Sm.leads, Sm.fits, Sm.usesOf, Sm.usesUp, Sm.usesLo, Sm.usesHi, Sm.usesWords, sizeE, ← hN, ← hM] at hz
 have HZ := Lib.hid hz
 have HN := Lib.hid (And.intro hN (And.intro hM hNM))
 rw [← hN] at hl ⊢
 rw [← hM] at hlw ⊢
 have CF := Lib.hid cF
 have CI := Lib.hid cI
 have CO := Lib.hid cO
 have CP := Lib.hid cP
 have CU := Lib.hid cU
 clear hz hN hM hNM hw hg cI cO cP cU cF
 go_enter Tryz.func98, Tryz.ntmps98
 go_wp2_with fail
 refine (CU.out _).mono ?_
 rintro e w1 ⟨rfl, rfl⟩
 rw [show usesV 7 = .tuple #[.bool true, .bool true, .bool true, .bool true, .bool false] from rfl]
 go_wp2_with fail
 refine (CI.out _).mono ?_
 rintro e w1 ⟨rfl, rfl⟩
 go_wp2_with fail
 all_goals first | (show bodyPost _ _ _ _ _ _; (obtain rfl : z = false := by (rw [HZ.out]; (try simp only [Bool.not_eq_true', Bool.not_eq_false'] at *); first | ((have m0 : M = 0 := by omega); (have n0 : N = 0 := by omega); simp [m0, n0, *]; done) | (simp [*] <;> (try (intros; omega))))); go_ret; exact ⟨rfl, (Below.refl _ _).alloc (Nat.le_refl _) _⟩) | skip
 all_goals (refine (CO.out _).mono ?_; rintro e w1 ⟨rfl, rfl⟩; go_wp2_with fail)
 all_goals first | (show bodyPost _ _ _ _ _ _; (obtain rfl : z = false := by (rw [HZ.out]; (try simp only [Bool.not_eq_true', Bool.not_eq_false'] at *); first | ((have m0 : M = 0 := by omega); (have n0 : N = 0 := by omega); simp [m0, n0, *]; done) | (simp [*] <;> (try (intros; omega))))); go_ret; exact ⟨rfl, (Below.refl _ _).alloc (Nat.le_refl _) _⟩) | skip
 all_goals (refine (CP.out _).mono ?_; rintro e w1 ⟨rfl, rfl⟩; go_wp2_with fail)
 all_goals first | (show bodyPost _ _ _ _ _ _; (obtain rfl : z = false := by (rw [HZ.out]; (try simp only [Bool.not_eq_true', Bool.not_eq_false'] at *); first | ((have m0 : M = 0 := by omega); (have n0 : N = 0 := by omega); simp [m0, n0, *]; done) | (simp [*] <;> (try (intros; omega))))); go_ret; exact ⟨rfl, (Below.refl _ _).alloc (Nat.le_refl _) _⟩) | skip
 all_goals (refine (CF.out _).mono ?_; rintro e w1 ⟨rfl, rfl⟩; go_wp2_with fail; (obtain rfl : z = Sm.span lo hi 0 1048576 := by (rw [HZ.out]; (try simp only [Bool.not_eq_true', Bool.not_eq_false'] at *); first | ((have m0 : M = 0 := by omega); (have n0 : N = 0 := by omega); simp [m0, n0, *]; done) | (simp [*] <;> (try (intros; omega))))); go_ret; exact ⟨rfl, (Below.refl _ _).alloc (Nat.le_refl _) _⟩)

set_option maxHeartbeats 4000000 in
theorem smIsField_8 (f : Sm.Fd) (Aw : Option Addr) (cw : Nat) (Ag : Option Addr) (cg : Nat) (w : World) (hw : Rd w w.heap.size Aw (f.words.map sv)) (hg : Rd w w.heap.size Ag (f.weights.map iv)) (hl : f.weights.length ≤ 1000000000) (hlw : f.words.length ≤ 1000000000) (hk : f.kind = 8) :
  Calls Tryz.prog 98 #[fdV f Aw cw Ag cg] w fun e w' => e = .returned (.bool (Sm.isField f)) ∧ Below w.heap.size w w' := by
 have cI := fun W => smIsName_any f.name W
 have cO := fun W => smIsName_any f.of W
 have cP := fun W => smIsName_any f.up W
 have cU := fun W => smUses_any f.kind W
 unfold fdV
 obtain ⟨z, hz⟩ : ∃ z, z = Sm.isField f := ⟨_, rfl⟩
 rw [← hz]
 obtain ⟨name, of, up, kind, lo, hi, words, weights⟩ := f
 dsimp only at hw hg hl hlw hk cI cO cP cU ⊢
 subst hk
 obtain ⟨N, hN⟩ : ∃ N, N = weights.length := ⟨_, rfl⟩
 obtain ⟨M, hM⟩ : ∃ M, M = words.length := ⟨_, rfl⟩
 have hNM : ¬ (M : Int) + N > 0 → M = 0 ∧ N = 0 := fun h => by omega
 have hMN : wrap64 ((M : Int) + N) = M + N := by unfold wrap64; omega
 simp only [Sm.isField, Sm.plainField, Sm.leads, Sm.fits, Sm.usesOf, Sm.usesUp, Sm.usesLo, Sm.usesHi, Sm.usesWords, sizeE, ← hN, ← hM] at hz
 have HZ := Lib.hid hz
 have HN := Lib.hid (And.intro hN (And.intro hM hNM))
 rw [← hN] at hl ⊢
 rw [← hM] at hlw ⊢
 have CI := Lib.hid cI
 have CO := Lib.hid cO
 have CP := Lib.hid cP
 have CU := Lib.hid cU
 clear hz hN hM hNM hw hg cI cO cP cU
 go_enter Tryz.func98, Tryz.ntmps98
 go_wp2_with fail
 refine (CU.out _).mono ?_
 rintro e w1 ⟨rfl, rfl⟩
 rw [show usesV 8 = .tuple #[.bool true, .bool true, .bool false, .bool false, .bool false] from rfl]
 go_wp2_with fail
 refine (CI.out _).mono ?_
 rintro e w1 ⟨rfl, rfl⟩
 go_wp2_with fail
 all_goals first | (show bodyPost _ _ _ _ _ _; (obtain rfl : z = false := by (rw [HZ.out]; (try simp only [Bool.not_eq_true', Bool.not_eq_false'] at *); first | ((have m0 : M = 0 := by omega); (have n0 : N = 0 := by omega); simp [m0, n0, *]; done) | (simp [*] <;> (try (intros; omega))))); go_ret; exact ⟨rfl, (Below.refl _ _).alloc (Nat.le_refl _) _⟩) | skip
 all_goals (refine (CO.out _).mono ?_; rintro e w1 ⟨rfl, rfl⟩; go_wp2_with fail)
 all_goals first | (show bodyPost _ _ _ _ _ _; (obtain rfl : z = false := by (rw [HZ.out]; (try simp only [Bool.not_eq_true', Bool.not_eq_false'] at *); first | ((have m0 : M = 0 := by omega); (have n0 : N = 0 := by omega); simp [m0, n0, *]; done) | (simp [*] <;> (try (intros; omega))))); go_ret; exact ⟨rfl, (Below.refl _ _).alloc (Nat.le_refl _) _⟩) | skip
 all_goals (refine (CP.out _).mono ?_; rintro e w1 ⟨rfl, rfl⟩; go_wp2_with fail)
 all_goals first | (show bodyPost _ _ _ _ _ _; (obtain rfl : z = false := by (rw [HZ.out]; (try simp only [Bool.not_eq_true', Bool.not_eq_false'] at *); first | ((have m0 : M = 0 := by omega); (have n0 : N = 0 := by omega); simp [m0, n0, *]; done) | (simp [*] <;> (try (intros; omega))))); go_ret; exact ⟨rfl, (Below.refl _ _).alloc (Nat.le_refl _) _⟩) | skip
 all_goals ((obtain rfl : z = true := by (rw [HZ.out]; (try simp only [Bool.not_eq_true', Bool.not_eq_false'] at *); first | ((have m0 : M = 0 := by omega); (have n0 : N = 0 := by omega); simp [m0, n0, *]; done) | (simp [*] <;> (try (intros; omega))))); go_ret; exact ⟨rfl, (Below.refl _ _).alloc (Nat.le_refl _) _⟩)

set_option maxHeartbeats 4000000 in
theorem smIsField_out (f : Sm.Fd) (Aw : Option Addr) (cw : Nat) (Ag : Option Addr) (cg : Nat) (w : World) (hk : f.kind < 0 ∨ 9 ≤ f.kind) :
  Calls Tryz.prog 98 #[fdV f Aw cw Ag cg] w fun e w' => e = .returned (.bool (Sm.isField f)) ∧ Below w.heap.size w w' := by
 have hz : Sm.isField f = false := by
  unfold Sm.isField Sm.plainField
  rw [decide_eq_false (by omega)]
  rfl
 rw [hz]
 have cU := fun W => smUses_any f.kind W
 have hu : usesV f.kind = .tuple #[.bool false, .bool false, .bool false, .bool false, .bool false] := by
  unfold usesV Sm.usesLo Sm.usesOf Sm.usesUp Sm.usesHi Sm.usesWords
  rw [decide_eq_false (by omega), decide_eq_false (by omega), decide_eq_false (by omega), decide_eq_false (by omega), decide_eq_false (by omega)]
  rfl
 rw [hu] at cU
 unfold fdV
 obtain ⟨name, of, up, kind, lo, hi, words, weights⟩ := f
 dsimp only at hk cU ⊢
 obtain ⟨N, hN⟩ : ∃ N, N = weights.length := ⟨_, rfl⟩
 obtain ⟨M, hM⟩ : ∃ M, M = words.length := ⟨_, rfl⟩
 rw [← hN, ← hM]
 have CU := Lib.hid cU
 clear cU hN hM hu hz
 rcases hk with hk | hk
 ·go_enter Tryz.func98, Tryz.ntmps98
  go_wp2_with fail
  refine (CU.out _).mono ?_
  rintro e w1 ⟨rfl, rfl⟩
  go_wp2_with fail
  go_ret
  exact ⟨rfl, (Below.refl _ _).alloc (Nat.le_refl _) _⟩
 ·have h2 : ¬ kind < 0 := by omega
  have h3 : kind ≥ 9 := by omega
  go_enter Tryz.func98, Tryz.ntmps98
  go_wp2_with fail
  refine (CU.out _).mono ?_
  rintro e w1 ⟨rfl, rfl⟩
  go_wp2_with fail
  go_ret
  exact ⟨rfl, (Below.refl _ _).alloc (Nat.le_refl _) _⟩
theorem smIsField_any (f : Sm.Fd) (Aw : Option Addr) (cw : Nat) (Ag : Option Addr) (cg : Nat) (w : World) (hw : Rd w w.heap.size Aw (f.words.map sv)) (hg : Rd w w.heap.size Ag (f.weights.map iv)) (hl : f.weights.length ≤ 1000000000) (hlw : f.words.length ≤ 1000000000) :
  Calls Tryz.prog 98 #[fdV f Aw cw Ag cg] w fun e w' => e = .returned (.bool (Sm.isField f)) ∧ Below w.heap.size w w' := by
 by_cases h : f.kind < 0 ∨ 9 ≤ f.kind
 ·exact smIsField_out f Aw cw Ag cg w h
 ·have hk : f.kind = 0 ∨ f.kind = 1 ∨ f.kind = 2 ∨ f.kind = 3 ∨ f.kind = 4 ∨ f.kind = 5 ∨ f.kind = 6 ∨ f.kind = 7 ∨ f.kind = 8 := by omega
  rcases hk with h | h | h | h | h | h | h | h | h
  ·exact smIsField_0 f Aw cw Ag cg w hw hg hl hlw h
  ·exact smIsField_1 f Aw cw Ag cg w hw hg hl hlw h
  ·exact smIsField_2 f Aw cw Ag cg w hw hg hl hlw h
  ·exact smIsField_3 f Aw cw Ag cg w hw hg hl hlw h
  ·exact smIsField_4 f Aw cw Ag cg w hw hg hl hlw h
  ·exact smIsField_5 f Aw cw Ag cg w hw hg hl hlw h
  ·exact smIsField_6 f Aw cw Ag cg w hw hg hl hlw h
  ·exact smIsField_7 f Aw cw Ag cg w hw hg hl hlw h
  ·exact smIsField_8 f Aw cw Ag cg w hw hg hl hlw h
end Go.Proofs.YtkgddcemocfgfaaGreatDoor
end

