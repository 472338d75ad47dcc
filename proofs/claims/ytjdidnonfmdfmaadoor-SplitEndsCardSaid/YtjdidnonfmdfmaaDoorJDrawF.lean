import Derived.Defers
import Derived.Test.YtjdidnonfmdfmaaDoorJDrawE

section
/- The contract of draw.Num: where the first accepted word is that of try k, or an error. -/


namespace Go.Proofs.YtjdidnonfmdfmaaDoor
open Go.RowKit
set_option linter.unusedVariables false
set_option maxRecDepth 100000

/-- What the deferred function leaves. -/
def erred (v i : Bool) (e : Nat) (w : World) : World := if v = false then w.setCell ⟨e, 0, none⟩ (.int .i64 1) else if i = false then w.setCell ⟨e, 0, none⟩ (.int .i64 5) else w
set_option maxHeartbeats 2000000 in
/-- The deferred function: it sets the error. -/
theorem num_deferred (v i e : Nat) (bv bi : Bool) (x : Int) (u : FrameMode) (w : World) (hv : w.cell? ⟨v, 0, none⟩ = some (.bool bv)) (hi : w.cell? ⟨i, 0, none⟩ = some (.bool bi)) (he : Blk w e [.int .i64 x] 30) :
    CallsD Tryd.prog 44 #[.pointer (some ⟨v, 0, none⟩), .pointer (some ⟨e, 0, none⟩), .pointer (some ⟨i, 0, none⟩)] u w fun e' u' w' => u' = u ∧ e' = .returned (.tuple #[]) ∧ w' = erred bv bi e w := by
  have ce := he.cell 0 _ rfl
  have fe := he.frozen 0
  cases bv
  · go_enter_d Tryd.func44, Tryd.ntmps44
    go_wp2
    all_goals go_end0
    all_goals exact ⟨rfl, rfl⟩
  · cases bi
    · go_enter_d Tryd.func44, Tryd.ntmps44
      go_wp2
      all_goals go_end0
      all_goals exact ⟨rfl, rfl⟩
    · go_enter_d Tryd.func44, Tryd.ntmps44
      go_wp2
      all_goals go_end0
      all_goals exact ⟨rfl, rfl⟩

/-- Is the draw valid. -/
def okDraw (s : ByteArray) (p : List Int) : Bool := decide (s.size ≤ 32 ∧ p.length ≤ 8)
def okN (n : Int) : Bool := decide (1 ≤ n ∧ n ≤ 1099511627776)

theorem results_tmp_cell {fn : Func} {p u : Tmp} {ty : TypeId} (h : fn.results = #[.tmp u, .cell p ty]) (tmps : Array Value) (P : Program) (w : World) :
    (results fn tmps).run P w =
      ((asAddr (tmps.getD p undef)).run P w).andThen fun a w₁ => ((loadVar ty a).run P w₁).andThen fun v w₂ => .ok (.tuple #[tmps.getD u undef, v]) w₂ := by
  simp only [results, h]
  simp [Sem.run_bind, Result.andThen]
theorem load_errno (W : World) (b : Nat) (z : Int) (h : W.cell? ⟨b, 0, none⟩ = some (.int .i64 z)) : (loadVar 30 ⟨b, 0, none⟩).run Tryd.prog W = .ok (.int .i64 z) W := by
  go_simp

/-- The error of Num. -/
def errOf (v i : Bool) : Int := if v = false then 1 else if i = false then 5 else 0
theorem erred_cell (v i : Bool) (b : Nat) (W : World) (he : Blk W b [.int .i64 0] 30) : (erred v i b W).cell? ⟨b, 0, none⟩ = some (.int .i64 (errOf v i)) := by
  unfold erred errOf
  cases v
  · exact (he.set 0 _).cell 0 _ rfl
  · cases i
    · exact (he.set 0 _).cell 0 _ rfl
    · exact he.cell 0 _ rfl
theorem erred_below {B : Nat} {w W : World} (v i : Bool) (b : Nat) (h : Below B w W) (hb : B ≤ b) : Below B w (erred v i b W) := by
  unfold erred
  split
  · exact h.setCell hb _
  · split
    · exact h.setCell hb _
    · exact h
/-- Num's door: the deferred function runs, and the results are read. -/
theorem num_door (v i : Bool) (z : Int) (b : Nat) (w W : World) (tmps : Array Value) (N : Value) (hz : errOf v i = z) (h6 : tmps.getD 6 undef = N) (h7 : tmps.getD 7 undef = .pointer (some ⟨b, 0, none⟩))
    (he : Blk W b [.int .i64 0] 30) (hv : Blk W (b + 1) [.bool v] 4) (hi : Blk W (b + 2) [.bool i] 4) (hB : Below b w W) :
    bodyPostD Tryd.prog Tryd.f36 (fun e w' => e = .returned (.tuple #[N, .int .i64 z]) ∧ Below b w w') .ret
      { tmps := tmps, defers := [{ target := .fn (.func 44) #[.pointer (some ⟨b + 1, 0, none⟩), .pointer (some ⟨b, 0, none⟩), .pointer (some ⟨b + 1 + 1, 0, none⟩)], args := #[] }] } W := by
  subst hz
  refine leaves_cons (f := 44) (args := #[.pointer (some ⟨b + 1, 0, none⟩), .pointer (some ⟨b, 0, none⟩), .pointer (some ⟨b + 1 + 1, 0, none⟩)]) (by simp) (by simp [go_sem]) ?_
  refine (num_deferred (b + 1) (b + 2) b v i 0 .returning W (hv.cell 0 _ rfl) (hi.cell 0 _ rfl) he).mono ?_
  rintro e u' w'' ⟨rfl, rfl, rfl⟩
  refine ⟨_, ?_, rfl, erred_below v i b hB (Nat.le_refl _)⟩
  rw [results_tmp_cell rfl, h7, h6]
  have hc := erred_cell v i b W he
  simp [asAddr, load_errno _ _ _ hc, Result.andThen]

theorem three_vars (w : World) (x : Int) (v i : Bool) :
    Blk (((w.alloc (.cells #[.int .i64 x] 30)).alloc (.cells #[.bool v] 4)).alloc (.cells #[.bool i] 4)) w.heap.size [.int .i64 x] 30 ∧
    Blk (((w.alloc (.cells #[.int .i64 x] 30)).alloc (.cells #[.bool v] 4)).alloc (.cells #[.bool i] 4)) (w.heap.size + 1) [.bool v] 4 ∧
    Blk (((w.alloc (.cells #[.int .i64 x] 30)).alloc (.cells #[.bool v] 4)).alloc (.cells #[.bool i] 4)) (w.heap.size + 2) [.bool i] 4 ∧
    Below w.heap.size w (((w.alloc (.cells #[.int .i64 x] 30)).alloc (.cells #[.bool v] 4)).alloc (.cells #[.bool i] 4)) := by
  have k0 := Blk.new w [.int .i64 x] 30
  have k1 := Blk.new (w.alloc (.cells #[.int .i64 x] 30)) [.bool v] 4
  have k2 := Blk.new ((w.alloc (.cells #[.int .i64 x] 30)).alloc (.cells #[.bool v] 4)) [.bool i] 4
  simp only [World.size_alloc] at k1 k2
  exact ⟨(k0.alloc _).alloc _, k1.alloc _, k2, (((Below.refl _ _).alloc (Nat.le_refl _) _).alloc (by simp) _).alloc (by simp; omega) _⟩

set_option maxHeartbeats 4000000 in
theorem num_bad (s : ByteArray) (A : Option Addr) (cap : Nat) (p : List Int) (n : Int) (w : World) (hs : s.size ≤ 1000000000) (hn : p.length ≤ 1000000000) (hb : okDraw s p = false ∨ okN n = false) :
    Calls Tryd.prog 36 #[.string s, .slice A p.length cap, .int .i64 n] w fun e w' => e = .returned (.tuple #[.int .i64 0, .int .i64 (errOf (okDraw s p) (okN n))]) ∧ Below w.heap.size w w' := by
  have hmf : ∀ (fn : Fn) (first cap : Array Value) (w : World), (Instr.makeFunc fn first cap).run Tryd.prog w = .ok (.func fn first cap) w := fun _ _ _ _ => rfl
  obtain ⟨z, hz⟩ : ∃ z, z = errOf (okDraw s p) (okN n) := ⟨_, rfl⟩
  obtain ⟨L, hL⟩ : ∃ L, L = p.length := ⟨_, rfl⟩
  obtain ⟨S, hS⟩ : ∃ S, S = s.size := ⟨_, rfl⟩
  have hv : okDraw s p = decide (S ≤ 32 ∧ L ≤ 8) := by rw [hS, hL]; rfl
  have hi : okN n = decide (1 ≤ n ∧ n ≤ 1099511627776) := rfl
  have hK := fun v i => three_vars w 0 v i
  rw [← hz, ← hL]
  have HZ := Lib.hid (And.intro hz (And.intro hv (And.intro hi hb)))
  have HS := Lib.hid hS
  rw [← hL] at hn
  rw [← hS] at hs
  clear hz hv hi hb hL hS
  have e0 : ∀ x, ¬ (S ≤ 32 ∧ L ≤ 8) → errOf false x = z := fun x h => by rw [HZ.out.1, HZ.out.2.1, decide_eq_false h]; rfl
  have e1 : S ≤ 32 → L ≤ 8 → ¬ (1 ≤ n ∧ n ≤ 1099511627776) → errOf true false = z := fun h1 h2 h => by rw [HZ.out.1, HZ.out.2.1, HZ.out.2.2.1, decide_eq_false h, decide_eq_true ⟨h1, h2⟩]
  have e2 : S ≤ 32 → L ≤ 8 → 1 ≤ n → n ≤ 1099511627776 → False := fun h1 h2 h3 h4 => by
    rcases HZ.out.2.2.2 with h | h
    · rw [HZ.out.2.1, decide_eq_true ⟨h1, h2⟩] at h; cases h
    · rw [HZ.out.2.2.1, decide_eq_true ⟨h3, h4⟩] at h; cases h
  have E := Lib.hid (And.intro e0 (And.intro e1 e2))
  have K := Lib.hid hK
  clear e0 e1 e2 hK
  obtain ⟨S2, hS2⟩ : ∃ S2, S2 = s.size := ⟨_, rfl⟩
  by_cases c1 : S ≤ 32
  · by_cases c2 : L ≤ 8
    · by_cases c3 : 1 ≤ n
      · by_cases c4 : n ≤ 1099511627776
        · exact (E.out.2.2 c1 c2 c3 c4).elim
        · have c1' : s.size ≤ 32 := by rw [← HS.out]; exact c1
          go_enter_defers Tryd.func36, Tryd.ntmps36
          go_wp2_with fail
          all_goals exact num_door true false z w.heap.size w _ _ _ (E.out.2.1 c1 c2 (by omega)) rfl rfl (K.out _ _).1 (K.out _ _).2.1 (K.out _ _).2.2.1 (K.out _ _).2.2.2
      · have c1' : s.size ≤ 32 := by rw [← HS.out]; exact c1
        go_enter_defers Tryd.func36, Tryd.ntmps36
        go_wp2_with fail
        all_goals exact num_door true false z w.heap.size w _ _ _ (E.out.2.1 c1 c2 (by omega)) rfl rfl (K.out _ _).1 (K.out _ _).2.1 (K.out _ _).2.2.1 (K.out _ _).2.2.2
    · have c1' : s.size ≤ 32 := by rw [← HS.out]; exact c1
      go_enter_defers Tryd.func36, Tryd.ntmps36
      go_wp2_with fail
      all_goals exact num_door false _ z w.heap.size w _ _ _ (E.out.1 _ (fun h => c2 h.2)) rfl rfl (K.out _ _).1 (K.out _ _).2.1 (K.out _ _).2.2.1 (K.out _ _).2.2.2
  · have c1' : ¬ s.size ≤ 32 := by rw [← HS.out]; exact c1
    go_enter_defers Tryd.func36, Tryd.ntmps36
    go_wp2_with fail
    all_goals exact num_door false _ z w.heap.size w _ _ _ (E.out.1 _ (fun h => c1 h.1)) rfl rfl (K.out _ _).1 (K.out _ _).2.1 (K.out _ _).2.2.1 (K.out _ _).2.2.2

set_option maxHeartbeats 4000000 in
theorem num_at (s : ByteArray) (A : Option Addr) (cap : Nat) (p : List Int) (n k : Nat) (w : World) (hr : Rd w w.heap.size A (p.map iv)) (hc : p.length ≤ cap) (hm : cap ≤ maxLen) (hs : s.size ≤ 32) (hn : p.length ≤ 8)
    (hI : ∀ n ∈ p, M.I64 n) (hT : HTab w) (h1 : 1 ≤ n) (h2 : n ≤ 1099511627776) (hk : k ≤ 1000000000) (hF : First s p n k) :
    Calls Tryd.prog 36 #[.string s, .slice A p.length cap, .int .i64 n] w fun e w' => e = .returned (.tuple #[.int .i64 ((wordN s p k % n : Nat) : Int), .int .i64 0]) ∧ Below w.heap.size w w' := by
  have hmf : ∀ (fn : Fn) (first cap : Array Value) (w : World), (Instr.makeFunc fn first cap).run Tryd.prog w = .ok (.func fn first cap) w := fun _ _ _ _ => rfl
  have hK := three_vars w 0 true true
  obtain ⟨W3, hW3⟩ : ∃ W3, W3 = ((w.alloc (.cells #[.int .i64 0] 30)).alloc (.cells #[.bool true] 4)).alloc (.cells #[.bool true] 4) := ⟨_, rfl⟩
  rw [← hW3] at hK
  have cB := below_at s A cap p n k W3 ((hr.below hK.2.2.2).more hK.2.2.2.size) hc hm (by omega) (by omega) hI (hT.below hK.2.2.2 (Nat.le_refl _)) h1 h2 hk hF
  obtain ⟨y, hy⟩ : ∃ y : Nat, y = wordN s p k % n := ⟨_, rfl⟩
  obtain ⟨L, hL⟩ : ∃ L, L = p.length := ⟨_, rfl⟩
  rw [← hy, ← hL] at cB
  rw [← hy, ← hL]
  rw [← hL] at hn
  have CB := Lib.hid cB
  have K := Lib.hid (And.intro hK hW3)
  clear cB hK hW3 hy hL hr hc hm hI hT hk hF
  go_enter_defers Tryd.func36, Tryd.ntmps36
  go_wp2_with fail
  rw [← K.out.2]
  refine CB.out.mono ?_
  rintro e w4 ⟨rfl, hb⟩
  have k0 := K.out.1.1.below hb K.out.1.1.lt
  have c0 := k0.cell 0 _ rfl
  have f0 := k0.frozen 0
  have hB := Lib.hid hb
  clear k0 hb
  go_wp2_with fail
  have k0 := K.out.1.1.below hB.out K.out.1.1.lt
  have k1 := K.out.1.2.1.below hB.out K.out.1.2.1.lt
  have k2 := K.out.1.2.2.1.below hB.out K.out.1.2.2.1.lt
  have b4 := K.out.1.2.2.2.trans (hB.out.mono K.out.1.2.2.2.size)
  exact num_door true true 0 w.heap.size w _ _ _ rfl rfl rfl (k0.set 0 _) (k1.other _ _ (by show w.heap.size + 1 ≠ w.heap.size; omega)) (k2.other _ _ (by show w.heap.size + 2 ≠ w.heap.size; omega)) (b4.setCell (Nat.le_refl _) _)
end Go.Proofs.YtjdidnonfmdfmaaDoor
end

