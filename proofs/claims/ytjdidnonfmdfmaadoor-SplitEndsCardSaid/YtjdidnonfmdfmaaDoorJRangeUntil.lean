import Derived.RangeFuncNested
import Derived.RangeFuncBound
import Derived.RangeFuncCalls
import Derived.RangeFuncLeaves
import Derived.RangeFuncFrom

section
/- A range over a function that would never stop by itself: the caller's invariant bounds the rounds. Stated with the rounds' number alone. -/





namespace Go.Proofs.YtjdidnonfmdfmaaDoor
open Go.RowKit
set_option linter.unusedVariables false
variable {F : Fence} {n : Nat} {P : Program}

/-- How the body of round t may be left. -/
def leftAt (J : Nat → World → Prop) (X : Code → World → Prop) (t : Nat) (W : World) : Exit → Act → World → Prop
  | .normal, _, W' => KeepsOthers W W' ∧ J (t + 1) W'
  | .exit id, _, W' => KeepsOthers W W' ∧ X (.exit id) W'
  | _, _, _ => False

/-- The iterator's contract: whatever rounds it is handed, if their invariant J holds no more than k times, they end it. -/
def Untils (F : Fence) (n : Nat) (P : Program) (g : Nat) (k : Nat) : Prop :=
  ∀ (l : Nat) (J : Nat → World → Prop) (X : World → Prop) (W : World), (∀ t W, J t W → t ≤ k) →
    (∀ t W1, J t W1 → YieldAt F (n - 1) P l #[.int .i64 (t : Int)] W1 fun e W' => (e = .returned (.bool true) ∧ J (t + 1) W') ∨ (e = .returned (.bool false) ∧ X W')) →
    J 0 W → CallsIn F n P g #[.func (.yield l) #[] #[]] W fun e W' => (∃ v, e = .returned v) ∧ X W'

theorem wpIn_rangeFunc_until {g : Operand} {ps : Array Tmp} {assign body : Code} {Q : Exit → Act → World → Prop} {a : Act} {w : World} {gf k : Nat}
    (hro : F.round = none) (h1 : 1 ≤ n) (hg : a.eval g = .func (.func gf) #[] #[]) (hFg : F.fn gf) (eg : ∀ args w, (callFunc gf args).run P w = .ok (.enter gf args) w)
    (hit : Untils F (n - 1) P gf k) (hps : ps.size = 1) (J : Nat → World → Prop) (X : Code → World → Prop) (hJ : OwnFrom w.heap.size J) (hX : OwnFrom w.heap.size X) (hk : ∀ t W, J t W → t ≤ k) (h0 : J 0 w) (a₁ : Nat → Act)
    (hassign : ∀ (l t : Nat) (W : World) (K : Act → World → Prop), K (a₁ t) W →
      assign.wpIn (F.inRound l) (n - 1 - 1) P (Exit.then K (fun _ _ _ => False)) { tmps := (ps.zip #[.int .i64 (t : Int)]).foldl (fun t (p, v) => t.setIfInBounds p v) a.tmps, defers := [] } W)
    (hbody : ∀ (l t : Nat) (W : World), J t W → body.wpIn (F.inRound l) (n - 1 - 1) P (leftAt J X t W) (a₁ t) W)
    (hstop : ∀ (D : Nat) (c : Code) (W : World), w.heap.size ≤ D → X c W → W.heap[D]? = some (.deferred (some [])) → c.wpIn F n P Q { a with defers := { target := .collected D, args := #[] } :: a.defers } W) :
    (Code.rangeFunc g ps assign body).wpIn F n P Q a w := by
  refine wpIn_rangeFunc fun fn hfn => ?_
  rw [hro]
  obtain ⟨D, hD⟩ : ∃ D, D = w.heap.size := ⟨_, rfl⟩
  obtain ⟨rc, hrc⟩ : ∃ rc : LoopState → Option Code → Loop, rc = fun st pe => { state := st, pending := pe, fn, tmps := a.tmps, params := ps, assign, body, defers := D } := ⟨_, rfl⟩
  obtain ⟨W1, hW1⟩ : ∃ W1, W1 = (w.alloc (.deferred (some []))).alloc (.loop (rc .ready none)) := ⟨_, rfl⟩
  -- what the book-keeping holds, by the record's state
  obtain ⟨Bk, hBk⟩ : ∃ Bk : Loop → World → Prop, Bk = fun r W => W.heap[D + 1]? = some (.loop r) ∧ W.heap[D]? = some (.deferred (some [])) := ⟨_, rfl⟩
  have bk1 : Bk (rc .ready none) W1 := by
    rw [hBk, hW1, hD]
    refine ⟨?_, (Below.heap_alloc _ _ _ (by simp)).trans (World.alloc_heap_new w _)⟩
    have h := World.alloc_heap_new (w.alloc (.deferred (some []))) (.loop (rc .ready none))
    rwa [World.size_alloc] at h
  have bkPut : ∀ {r r' : Loop} {W : World}, Bk r W → Bk r' (W.putObj (D + 1) (.loop r')) := by
    intro r r' W h
    rw [hBk] at h ⊢
    exact ⟨World.putObj_heap_same (Array.getElem?_eq_some_iff.1 h.1).1, (World.putObj_heap_other (by omega)).trans h.2⟩
  have bkKeep : ∀ {r : Loop} {W W' : World}, Bk r W → KeepsOthers W W' → Bk r W' := by
    intro r W W' h hk
    rw [hBk] at h ⊢
    exact ⟨hk.same _ _ h.1 rfl, hk.same _ _ h.2 rfl⟩
  have jPut : ∀ {t : Nat} {r r' : Loop} {W : World}, J t W → Bk r W → J t (W.putObj (D + 1) (.loop r')) := by
    intro t r r' W h hb
    rw [hBk] at hb
    exact hJ.putObj _ h (by omega) hb.1 rfl
  have xPut : ∀ {c : Code} {r r' : Loop} {W : World}, X c W → Bk r W → X c (W.putObj (D + 1) (.loop r')) := by
    intro c r r' W h hb
    rw [hBk] at hb
    exact hX.putObj _ h (by omega) hb.1 rfl
  refine ⟨D + 1, [{ target := .collected D, args := #[] }], W1, { target := .fn (.func gf) #[], args := #[.func (.yield (D + 1)) #[] #[]] }, W1, gf, #[.func (.yield (D + 1)) #[] #[]], W1, ?_, ?_, ?_, ?_, fun _ => h1, ?_⟩
  · rw [hW1, hrc, hD]; exact run_enterLoop_outer _ _ _ _ _
  · simp only [resolve, hg]
    simp [go_sem]
  · intro f' hf'
    simp [Target.leads] at hf'
    subst hf'
    exact hFg
  · simp [invoke, go_sem, eg]
  · refine (hit (D + 1) (fun t W => J t W ∧ Bk (rc .ready none) W) (fun W => ∃ c, X c W ∧ Bk (rc .done (some c)) W) W1 (fun t W h => hk t W h.1) ?_ ⟨by rw [hW1]; exact hJ.alloc _ (hJ.alloc _ h0), bk1⟩).mono ?_
    · rintro t W ⟨hj, hb⟩
      have hl := hb
      rw [hBk] at hl
      have hy := run_yield (P := P) (args := #[.int .i64 (t : Int)]) hl.1 (by rw [hrc]; exact hps.symm)
      rw [hrc] at hy
      refine ⟨fn, _, assign, body, hy, roundIn_of_wpIn hfn (hassign _ t W _ ⟨_, run_beginRound hl.1 (by rw [hrc]), ?_⟩)⟩
      refine wpIn_mono (hbody _ t _ (jPut hj hb)) ?_
      have hb2 : Bk { rc .ready none with state := .busy } (W.putObj (D + 1) (.loop { rc .ready none with state := .busy })) := bkPut hb
      rintro e a3 W3 hp
      cases e with
      | normal =>
        have hb3 := bkKeep hb2 hp.1
        have hl3 := hb3
        rw [hBk] at hl3
        have hr := run_endRound (P := P) none hl3.1
        rw [hrc] at hr
        refine ⟨_, _, hr, .inl ⟨rfl, jPut hp.2 hb3, ?_⟩⟩
        have := bkPut (r' := rc .ready none) hb3
        rw [hrc] at this ⊢
        exact this
      | exit id =>
        have hb3 := bkKeep hb2 hp.1
        have hl3 := hb3
        rw [hBk] at hl3
        have hr := run_endRound (P := P) (some (.exit id)) hl3.1
        rw [hrc] at hr
        refine ⟨_, _, hr, .inr ⟨rfl, .exit id, xPut hp.2 hb3, ?_⟩⟩
        have := bkPut (r' := rc .done (some (.exit id))) hb3
        rw [hrc] at this ⊢
        exact this
      | ret => exact hp.elim
      | goto t => exact hp.elim
      | panic ch => exact hp.elim
      | outgrown => exact hp.elim
    · rintro e W2 ⟨⟨v, rfl⟩, c, hx, hb⟩
      have hl := hb
      rw [hBk] at hl
      have he := run_endLoop (P := P) hl.1 (by rw [hrc]; simp)
      rw [hrc] at he
      refine ⟨some c, _, he, hstop D c _ (by omega) (xPut hx hb) ?_⟩
      have := bkPut (r' := { rc .done (some c) with state := .exhausted }) hb
      rw [hBk] at this
      have h2 := this.2
      rw [hrc] at h2
      exact h2
end Go.Proofs.YtjdidnonfmdfmaaDoor
end

