/- The walk of the statement WireOrder. -/
import Derived.Test.YtacgekhphhhmpaaWireT
import Derived.Test.YtacgekhphhhmpaaWireMathE
import Derived.Deep.RegionWith
import Derived.WalkLawsBesides
import Derived.Deep.QuietTactic
import Derived.BigQuiet
namespace Go.Proofs.Ytacgekhphhhmpaa
open Go.RowKit
set_option linter.unusedVariables false

/-- The worlds that are as w below block B. -/
def BelT (B : Nat) (w : World) : Type := { w' : World // Below B w w' }
def BelT.at {B : Nat} {w : World} (x : BelT B w) : World := x.val
theorem BelT.out {B : Nat} {w : World} (x : BelT B w) : Below B w x.at := x.property
theorem BelT.of {B : Nat} {w w' : World} (h : Below B w w') : ∃ x : BelT B w, w' = x.at := ⟨⟨w', h⟩, rfl⟩
instance {B : Nat} {w : World} : Nonempty (BelT B w) := ⟨⟨w, Below.refl _ _⟩⟩
/-- A region that draws its order, where every operation yields one value in every world that is as it was below B; a callee may make memory. -/
theorem wp_region_below {P : Program} {id : Nat} {Q : Exit → Act → World → Prop} {a : Act} {w : World} {l : List Oper} (B : Nat) (hm : P.follows .mixedOrders = true) (hB : Region.lexB .any l.toArray = true)
    (h : wpQuiet P l.toArray (fun w' => ∃ x : BelT B w, w' = x.at) (fun a' => ∀ w', (∃ x : BelT B w, w' = x.at) → Q .normal a' w') l a) : (Code.region id l.toArray true).wp P Q a w :=
  wp_region_quiet (C := fun w' => ∃ x : BelT B w, w' = x.at) hm hB (BelT.of ⟨rfl, rfl, rfl, Nat.le_refl _, fun _ _ => rfl⟩) (by simpa using h)

set_option maxHeartbeats 4000000 in
set_option maxRecDepth 100000 in
theorem order_walk (m n : Int) (w : World) (hm0 : (Lit.int .i64 m).wf = true) (hn0 : (Lit.int .i64 n).wf = true) :
    Calls Try.prog 5 #[.int .i64 m, .int .i64 n] w (Tells true w) := by
  have hm := int_I64 hm0
  have hn := int_I64 hn0
  clear hm0 hn0
  obtain ⟨E, hE⟩ : ∃ E, E = M.encI m := ⟨_, rfl⟩
  obtain ⟨F, hF⟩ : ∃ F, F = M.encI n := ⟨_, rfl⟩
  have qm := fun W => sInt m E W hm hE.symm
  have qn := fun W => sInt n F W hn hF.symm
  have Qm := Lib.hid qm
  have Qn := Lib.hid qn
  have HE := Lib.hid hE
  have HF := Lib.hid hF
  clear qm qn hE hF
  go_enter Try.func5, Try.ntmps5
  go_upto_region 1 with fail
  go_cut [5, 6] (fun s5 s6 wx => s5 = .string (bs E) ∧ s6 = .string (bs F) ∧ Below w.heap.size w wx)
  case first =>
    go_region_with (first
      | (go_at_call_of 14 (Value.int IntKind.i64 m); refine (Qm.out _).mono ?_; rintro e w1 ⟨A1, c1, rfl, hr1, hc1, hm1, hb1⟩; have hcv1 := conv_bytes w1 _ A1 E c1 hr1)
      | (go_at_call_of 14 (Value.int IntKind.i64 n); refine (Qn.out _).mono ?_; rintro e w2 ⟨A2, c2, rfl, hr2, hc2, hm2, hb2⟩; have hcv2 := conv_bytes w2 _ A2 F c2 hr2; have hcv1' := conv_bytes w2 _ A1 E c1 (hr1.below hb2)))
    all_goals
      go_wp2_with fail
      go_meet
      case rel => exact ⟨rfl, rfl, ((Below.refl _ _).drew.trans hb1).trans (hb2.mono hb1.size)⟩
  case rest =>
    obtain ⟨rfl, rfl, hbc⟩ := hcut
    clear Qm Qn
    have tE : (bs E).toList = E := by rw [Lib.toList_data]; simp [bs]
    have tF : (bs F).toList = F := by rw [Lib.toList_data]; simp [bs]
    have zE : (bs E).size = E.length := by simp [bs, ByteArray.size]
    have zF : (bs F).size = F.length := by simp [bs, ByteArray.size]
    have h1 : (decide (m < n) == Op.bytesLess (bs E).toList (bs F).toList) = true := by rw [tE, tF, HE.out, HF.out, M.encI_less m n hm hn]; simp
    have h2 : ((m == n) == ((bs E).toList == (bs F).toList)) = true := by
      rw [tE, tF, HE.out, HF.out]
      by_cases h : m = n
      · subst h; simp
      · have hne : M.encI m ≠ M.encI n := fun e => h (M.encI_inj m n hm hn [] [] (by rw [e]))
        rw [beq_eq_false_iff_ne.2 h, beq_eq_false_iff_ne.2 hne]; rfl
    obtain ⟨K, hKe⟩ : ∃ K : Nat, K = min E.length F.length := ⟨_, rfl⟩
    have hK : min ((bs E).size : Int) ((bs F).size : Int) = K := by omega
    have hk1 : (K : Int) ≤ (bs E).size := by omega
    have hk2 : (K : Int) ≤ (bs F).size := by omega
    have xE : ((bs E).extract 0 K).toList = E.take K := by rw [Lib.toList_data, Lib.extract_data]; simp [bs]
    have xF : ((bs F).extract 0 K).toList = F.take K := by rw [Lib.toList_data, Lib.extract_data]; simp [bs]
    have h3 : ((((bs E).extract 0 K).toList == ((bs F).extract 0 K).toList) == (m == n)) = true := by
      rw [xE, xF, HE.out, HF.out]
      by_cases h : m = n
      · subst h; simp
      · have hne : (M.encI m).take K ≠ (M.encI n).take K := fun e => h (M.encI_take m n hm hn K (by rw [hKe, HE.out, HF.out]) e)
        rw [beq_eq_false_iff_ne.2 h, beq_eq_false_iff_ne.2 hne]; rfl
    clear tE tF zE zF xE xF hKe HE HF
    generalize bs E = sa at *
    generalize bs F = sbb at *
    go_wp2_with fail
    refine wp_region_below w.heap.size (by kernel_rfl) (by kernel_rfl) ?_
    repeat (go_big_quiet_step (exact (sanity_any _).mono fun e w' h => ⟨h.1, BelT.of ((BelT.out _).trans (h.2.mono (Nat.le_trans hbc.size (BelT.out _).size)))⟩))
    refine wpQuiet_nil ?_
    intro w' hw'
    obtain ⟨x, rfl⟩ := hw'
    go_wp2_with fail
    go_ret
    exact ⟨rfl, hbc.trans x.out⟩
end Go.Proofs.Ytacgekhphhhmpaa
