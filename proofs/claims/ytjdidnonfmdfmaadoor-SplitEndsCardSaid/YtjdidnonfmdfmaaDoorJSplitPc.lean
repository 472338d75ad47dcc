import Derived.RangeFuncNested
import Derived.RangeFuncBound
import Derived.RangeFuncCalls
import Derived.RangeFuncLeaves
import Derived.RangeFuncFrom
import Derived.RangeFuncKeeps
import Derived.Shelf.Abstract
import Derived.Shelf.RegionOpen
import Derived.WalkKit
import Derived.OwnWalkIn
import Derived.TacticsInMore
import Derived.LoopNIn
import Derived.LoopIn
import Derived.Test.YtjdidnonfmdfmaaDoorJSplitPb

section
/- split: partsOf, parts: the iterator over all parts, where all totals lie at an end. -/














namespace Go.Proofs.YtjdidnonfmdfmaaDoor
open Go.RowKit Go.Shelf
set_option linter.unusedVariables false
set_option maxRecDepth 100000
attribute [local go_sem] Oper.semAt_some

theorem room_none {F : Fence} (hd : F.depth = none) (k : Nat) : F.room k := fun d h => by rw [hd] at h; cases h
theorem round_anyDepth {F : Fence} (hd : F.depth = none) {m m' : Nat} {P : Program} {l : Nat} {f : FuncId} {tmps : Array Value} {assign body : Code} {w : World} {R : Ending → World → Prop}
    (h : RoundIn F m P l f tmps assign body w R) : RoundIn F m' P l f tmps assign body w R := ⟨h.1, fun c cs _ => h.2 c cs (room_none hd _)⟩
theorem yield_anyDepth {F : Fence} (hd : F.depth = none) {m : Nat} (m' : Nat) {P : Program} {l : Nat} {args : Array Value} {W : World} {R : Ending → World → Prop} (h : YieldAt F m P l args W R) : YieldAt F m' P l args W R := by
  obtain ⟨fn, tmps, assign, body, hy, hR⟩ := h
  exact ⟨fn, tmps, assign, body, hy, round_anyDepth hd hR⟩

/-- What lay below X, and the variables and rows from block B on, lie as they lay. -/
structure KAp (X B : Nat) (W W' : World) : Prop where
  size : W.heap.size ≤ W'.heap.size
  low : ∀ k, k < X → W'.heap[k]? = W.heap[k]?
  same : ∀ (k : Nat) (o : Obj), B ≤ k → W.heap[k]? = some o → o.isCells = true → W'.heap[k]? = some o
theorem KAp.refl (X B : Nat) (W : World) : KAp X B W W := ⟨Nat.le_refl _, fun _ _ => rfl, fun _ _ _ h _ => h⟩
theorem KAp.trans {X B : Nat} {W V U : World} (h : KAp X B W V) (k : KAp X B V U) : KAp X B W U := ⟨Nat.le_trans h.size k.size, fun i hi => (k.low i hi).trans (h.low i hi), fun i o hB hi ho => k.same i o hB (h.same i o hB hi ho) ho⟩
theorem KAp.put {X B : Nat} (W : World) (l : Nat) (o o' : Obj) (hl : X ≤ l) (h : W.heap[l]? = some o) (hc : o.isCells = false) : KAp X B W (W.putObj l o') :=
  ⟨by simp, fun k hk => World.putObj_heap_other (by omega), fun k o'' _ hk ho => by
    by_cases e : k = l
    · subst e; rw [h] at hk; cases hk; rw [hc] at ho; cases ho
    · exact (World.putObj_heap_other e).trans hk⟩
theorem KAp.of {X B : Nat} {W W' : World} (h : Below W.heap.size W W') (hX : X ≤ W.heap.size) : KAp X B W W' := ⟨h.size, fun k hk => h.block k (by omega), fun k o _ hk _ => (h.block k (Array.getElem?_eq_some_iff.1 hk).1).trans hk⟩
theorem Blk.kap {X B b : Nat} {vs : List Value} {t : TypeId} {W W' : World} (h : Blk W b vs t) (hu : KAp X B W W') (hb : B ≤ b) : Blk W' b vs t := hu.same b _ hb h rfl
theorem KAp.cell {X B : Nat} {W W' : World} (h : KAp X B W W') {p : Addr} (hp : p.block < X) : W'.cell? p = W.cell? p := by unfold World.cell?; rw [h.low _ hp]
theorem grown_below {W W' : World} (h : Below W.heap.size W W') : W.grownBy W' none := ⟨h.os, h.tape, h.output, h.size, fun k hk _ => h.block k hk⟩

/-- The path and the table of constants, as they lie below X. -/
structure PathAt (s : ByteArray) (A : Option Addr) (cap : Nat) (P : List Int) (X : Nat) (W : World) : Prop where
  rd : Rd W X A (P.map iv)
  tab : HTab W
  lt : 0 < X
  le : X ≤ W.heap.size
theorem PathAt.below {s : ByteArray} {A : Option Addr} {cap : Nat} {P : List Int} {X : Nat} {W W' : World} (h : PathAt s A cap P X W) (hb : Below W.heap.size W W') : PathAt s A cap P X W' :=
  ⟨h.rd.below (hb.mono h.le), h.tab.next hb, h.lt, Nat.le_trans h.le hb.size⟩
theorem PathAt.kap {s : ByteArray} {A : Option Addr} {cap : Nat} {P : List Int} {X B : Nat} {W W' : World} (h : PathAt s A cap P X W) (hb : KAp X B W W') : PathAt s A cap P X W' :=
  ⟨h.rd.keep fun _ hp => hb.cell hp, fun k hk => (hb.cell h.lt).trans (h.tab k hk), h.lt, Nat.le_trans h.le hb.size⟩

/-- What a split is, for its walks. -/
structure Bounds (s : ByteArray) (cap : Nat) (P : List Int) (lo hi : Int) : Prop where
  seed : s.size ≤ 32
  path : P.length ≤ 6
  len : P.length ≤ cap
  cap : cap ≤ maxLen
  nums : ∀ x ∈ P, M.I64 x
  blo : -1048576 ≤ lo
  ble : lo ≤ hi
  bhi : hi ≤ 1048576
theorem drawn_one {s : ByteArray} {cap : Nat} {P : List Int} {lo hi : Int} (h : Bounds s cap P lo hi) {f n x : Int} {w : World} (hT : HTab w) (hf : 0 ≤ f ∧ f ≤ 65536) (hn : 0 ≤ n ∧ n ≤ 65536) (hx0 : -1099511627776 ≤ x) (hx1 : x ≤ 1099511627776) :
    Drawn s (P ++ [f, n]) x x x w := fun W B c hb hr hc hcm =>
  between_one s B c (P ++ [f, n]) x W hr hc hcm h.seed (by have := h.path; rw [List.length_append]; simp; omega) (by
    intro y hy
    rcases List.mem_append.1 hy with hy | hy
    · exact h.nums y hy
    · simp at hy
      rcases hy with rfl | rfl <;> (unfold M.I64; omega)) (hT.next hb) hx0 hx1
theorem ends_draw {l r k lo hi v t : Int} (hk : l + r = k) (hl : 0 ≤ l) (hr : 0 ≤ r) (hlh : lo ≤ hi) (ht : t = k * v) (hv : v = lo ∨ v = hi) :
    max (l * lo) (t - r * hi) = l * v ∧ min (l * hi) (t - r * lo) = l * v ∧ t - l * v = r * v := by
  have a := Int.mul_le_mul_of_nonneg_left hlh hl
  have b := Int.mul_le_mul_of_nonneg_left hlh hr
  have e : t = l * v + r * v := by rw [ht, ← hk, Int.add_mul]
  subst e
  rcases hv with rfl | rfl
  all_goals (
    refine ⟨?_, ?_, by omega⟩
    · rw [Int.max_def]; split <;> omega
    · rw [Int.min_def]; split <;> omega)

set_option maxHeartbeats 8000000 in
theorem partsOf_in (s : ByteArray) (A : Option Addr) (cap : Nat) (P : List Int) (T N lo hi v : Int) (X B l M : Nat) (J Jx : List Int → World → Prop) (hB : Bounds s cap P lo hi)
    (hJ : ∀ pre W W', J pre W → Below W.heap.size W W' → J pre W')
    (hY : ∀ m pre x W, J pre W → pre.length < M → YieldAt Fence.wide m Tryd.prog l #[.int .i64 x] W fun e W' => (e = .returned (.bool true) ∧ J (pre ++ [x]) W' ∧ KAp X B W W') ∨ (e = .returned (.bool false) ∧ Jx (pre ++ [x]) W')) (hv0 : -1048576 ≤ v) (hv1 : v ≤ 1048576) :
    ∀ (k : Nat), 1 ≤ k → ∀ (m : Nat) (f b t : Int) (pre : List Int) (W : World), B ≤ W.heap.size → X ≤ B → t = k * v → (k = 1 ∨ v = lo ∨ v = hi) → 0 ≤ f → f + k ≤ 65536 → -1048576 * f ≤ b → b ≤ 1048576 * f → PathAt s A cap P X W → J pre W → pre.length + k ≤ M →
      CallsIn Fence.wide m Tryd.prog 39 #[spl s A P.length cap T N lo hi, nd f k b t, .func (.yield l) #[] #[]] W fun e W' =>
        (e = .returned (.bool true) ∧ J (pre ++ List.replicate k v) W' ∧ KAp X B W W') ∨ (e = .returned (.bool false) ∧ ∃ q, Jx q W') := by
  intro k
  induction k using Nat.strongRecOn with
  | _ k ih =>
  intro hk m f b t pre W hBW hXB ht hv hf0 hf1 hb0 hb1 hp hj hM
  have hL : P.length ≤ 6 := hB.path
  obtain ⟨L, hLe⟩ : ∃ L, L = P.length := ⟨_, rfl⟩
  rw [← hLe]
  rw [← hLe] at hL
  rw [spl_def, nd_def]
  by_cases h1 : k = 1
  · subst h1
    obtain rfl : t = v := by rw [ht]; simp
    have hj2 : J pre ((W.alloc (.cells (Sc s A L cap T N lo hi).toArray 28)).alloc (.cells (Nc f 1 b t).toArray 59)) := hJ _ _ _ hj (((Below.refl _ _).alloc (Nat.le_refl _) _).alloc (by simp) _)
    obtain ⟨fn, tmps, assign, body, hy, hR⟩ := hY (m - 1) pre t _ hj2 (by omega)
    have hkp : KAp X B W ((W.alloc (.cells (Sc s A L cap T N lo hi).toArray 28)).alloc (.cells (Nc f 1 b t).toArray 59)) := KAp.of (((Below.refl _ _).alloc (Nat.le_refl _) _).alloc (by simp) _) (by omega)
    have HK := Lib.hid hkp
    unfold Sc Nc at hy hR
    rw [show ((1 : Nat) : Int) = 1 from rfl]
    clear hLe hkp hj2 hJ hY ih hp ht hv hb0 hb1 hf0 hf1 hv0 hv1 hk hM hBW hXB hB
    refine callsIn_of_wp Tryd.func39 rfl trivial ?_ rfl
    simp only [Tryd.ntmps39, List.size_toArray, List.length_cons, List.length_nil, Nat.reduceAdd, Nat.reduceSub, Array.replicate_succ, Array.replicate_zero, List.push_toArray, List.append_toArray, List.nil_append, List.cons_append]
    gi_wp2
    refine ⟨fun h => (by cases h), hR.mono ?_⟩
    rintro e W3 (⟨rfl, hJ3, hK3⟩ | ⟨rfl, hX3⟩)
    · have HJ := Lib.hid (And.intro hJ3 (HK.out.trans hK3))
      clear hJ3 hK3 hy hR
      gi_wp2
      go_ret
      exact .inl ⟨rfl, HJ.out.1, HJ.out.2⟩
    · gi_wp2
      go_ret
      exact .inr ⟨rfl, _, hX3⟩
  · obtain ⟨a, ha⟩ : ∃ a : Nat, a = k / 2 := ⟨_, rfl⟩
    obtain ⟨r, hr⟩ : ∃ r : Nat, r = k - k / 2 := ⟨_, rfl⟩
    have hv' : v = lo ∨ v = hi := by rcases hv with h | h; exact absurd h h1; exact h
    have hl1 := hB.blo
    have hl2 := hB.ble
    have hl3 := hB.bhi
    obtain ⟨d1, d2, d3⟩ := ends_draw (l := a) (r := r) (k := k) (by omega) (by omega) (by omega) hB.ble ht hv'
    have m1 := mul_in (l := a) (v := v) (by omega) (by omega) (by omega) (by omega)
    have m2 := mul_in (l := k) (v := v) (by omega) (by omega) (by omega) (by omega)
    have m3 : (a : Int) * -1048576 ≤ a * v := Int.mul_le_mul_of_nonneg_left hv0 (by omega)
    have m4 : (a : Int) * v ≤ a * 1048576 := Int.mul_le_mul_of_nonneg_left hv1 (by omega)
    obtain ⟨x, hx⟩ : ∃ x, x = (a : Int) * v := ⟨_, rfl⟩
    rw [← hx] at m3 m4
    rw [← hx] at d1 d2 d3 m1
    rw [← ht] at m2
    have hbel : Below W.heap.size W ((W.alloc (.cells (Sc s A L cap T N lo hi).toArray 28)).alloc (.cells (Nc f k b t).toArray 59)) := ((Below.refl _ _).alloc (Nat.le_refl _) _).alloc (by simp) _
    obtain ⟨W2, hW2⟩ : ∃ W2, W2 = (W.alloc (.cells (Sc s A L cap T N lo hi).toArray 28)).alloc (.cells (Nc f k b t).toArray 59) := ⟨_, rfl⟩
    rw [← hW2] at hbel
    have hp2 := hp.below hbel
    have cH := halves_any s A cap P T N lo hi f k b t a r x x x W2 (hp2.rd.more hp2.le) hB.len hB.cap (by omega) (by rw [Int.tdiv_eq_ediv_of_nonneg (by omega), ha]; omega) (by omega) (by omega) (by omega) (by omega) (by omega) (by omega) (by omega) (by omega) (by omega) hf0 (by omega)
      (by omega) (by omega) (by omega) (by omega) (by omega) (by omega) d1 d2 (drawn_one hB hp2.tab ⟨hf0, by omega⟩ ⟨by omega, by omega⟩ (by omega) (by omega))
    rw [d3, ← hLe, spl_def] at cH
    simp only [nd_def] at cH
    have k0 : Blk W2 W.heap.size (Sc s A L cap T N lo hi) 28 := by rw [hW2]; exact (Blk.new W _ _).alloc _
    have HC := Lib.hid cH
    have hk1 : ((k : Int) = 1) = False := by simp; omega
    have hk2 : ¬ (k : Int) = 1 := by omega
    have HH := Lib.hid (And.intro ih (And.intro hJ (And.intro hY (And.intro hbel (And.intro hp2 (And.intro k0 hj))))))
    have HW := Lib.hid (And.intro hBW (And.intro hXB (And.intro ht (And.intro hf1 (And.intro hM (And.intro hx (And.intro hb0 (And.intro hb1 (And.intro m3 (And.intro m4 hv'))))))))))
    have HE := Lib.hid (And.intro hLe (And.intro hW2 (And.intro ha hr)))
    have hk2 := hbel.size
    clear cH ih hJ hY hbel hp2 k0 hj hBW hXB ht hf1 hM hx hLe hW2 ha hr d1 d2 d3 m1 m2 hp hv hv' hb0 hb1 m3 m4
    refine callsIn_of_wp Tryd.func39 rfl trivial ?_ rfl
    simp only [Tryd.ntmps39, List.size_toArray, List.length_cons, List.length_nil, Nat.reduceAdd, Nat.reduceSub, Array.replicate_succ, Array.replicate_zero, List.push_toArray, List.append_toArray, List.nil_append, List.cons_append]
    gi_wp2
    have hW3 : W2 = (W.alloc (.cells #[.string s, .slice A L cap, .int .i64 T, .int .i64 N, .int .i64 lo, .int .i64 hi] 28)).alloc (.cells #[.int .i64 f, .int .i64 k, .int .i64 b, .int .i64 t] 59) := HE.out.2.1
    rw [← hW3]
    refine ⟨trivial, fun h => (by cases h), (callsIn_wide.2 HC.out).mono ?_⟩
    rintro e W3 ⟨rfl, hb3⟩
    have c := HH.out.2.2.2.2.2.1.below hb3 HH.out.2.2.2.2.2.1.lt
    have c0 := c.cell 0 _ rfl
    have c1 := c.cell 1 _ rfl
    have c2 := c.cell 2 _ rfl
    have c3 := c.cell 3 _ rfl
    have c4 := c.cell 4 _ rfl
    have c5 := c.cell 5 _ rfl
    have hs3 := c.lt
    have HB3 := Lib.hid (And.intro hb3 c)
    clear hW3 hb3 c HC
    gi_wp2
    obtain ⟨W5, hW5⟩ : ∃ W5, W5 = (W3.alloc (.cells #[.int .i64 f, .int .i64 a, .int .i64 b, .int .i64 x] 59)).alloc (.cells #[.int .i64 (f + a), .int .i64 r, .int .i64 (b + x), .int .i64 (r * v)] 59) := ⟨_, rfl⟩
    have g8 : Blk W5 (W3.heap.size + 1) (Nc (f + a) r (b + x) (r * v)) 59 := by
      have := Blk.new (W3.alloc (.cells #[.int .i64 f, .int .i64 a, .int .i64 b, .int .i64 x] 59)) (Nc (f + a) r (b + x) (r * v)) 59
      rw [World.size_alloc] at this
      rw [hW5]
      exact this
    have hb5 : Below W3.heap.size W3 W5 := by rw [hW5]; exact ((Below.refl _ _).alloc (Nat.le_refl _) _).alloc (by simp) _
    have g0 := HB3.out.2.below hb5 hs3
    have hB5 : Below W.heap.size W W5 := HH.out.2.2.2.1.trans ((HB3.out.1.mono hk2).trans (hb5.mono (Nat.le_trans hk2 HB3.out.1.size)))
    have hp5 := (HH.out.2.2.2.2.1.below HB3.out.1).below hb5
    have hj5 : J pre W5 := HH.out.2.1 _ _ _ HH.out.2.2.2.2.2.2 hB5
    rw [← hW5]
    have ha1 : 1 ≤ a ∧ a < k ∧ 1 ≤ r ∧ r < k ∧ a + r = k := by have := HE.out.2.2; omega
    have hs5 := hB5.size
    have c1' := HH.out.1 a ha1.2.1 ha1.1 (m - 1) f b x pre W5 (by have := HW.out.1; omega) HW.out.2.1 HW.out.2.2.2.2.2.1 (.inr HW.out.2.2.2.2.2.2.2.2.2.2) hf0 (by have := HW.out.2.2.2.1; omega) HW.out.2.2.2.2.2.2.1 HW.out.2.2.2.2.2.2.2.1 hp5 hj5 (by have := HW.out.2.2.2.2.1; omega)
    rw [← HE.out.1, spl_def, nd_def] at c1'
    have HG := Lib.hid (And.intro g0 (And.intro g8 (And.intro hB5 (And.intro hp5 (And.intro hs5 (And.intro ha1 (Nat.le_trans hk2 HB3.out.1.size)))))))
    clear hW5 g0 g8 hb5 hB5 hp5 hj5 ha1 hs5 HB3 c0 c1 c2 c3 c4 c5
    refine ⟨trivial, fun h => (by cases h), c1'.mono ?_⟩
    clear c1'
    rintro e W6 (⟨rfl, hj6, hk6⟩ | ⟨rfl, q, hq⟩)
    · have hsW := HG.out.2.2.2.2.2.2
      have c := HG.out.1.kap hk6 HW.out.1
      have d := HG.out.2.1.kap hk6 (by have := HW.out.1; omega)
      have hp6 := HG.out.2.2.2.1.kap hk6
      have hs6 := hk6.size
      have c2' := HH.out.1 r HG.out.2.2.2.2.2.1.2.2.2.1 HG.out.2.2.2.2.2.1.2.2.1 (m - 1) (f + a) (b + x) (r * v) (pre ++ List.replicate a v) W6 (by have := HW.out.1; have := HG.out.2.2.2.2.1; omega) HW.out.2.1 rfl (.inr HW.out.2.2.2.2.2.2.2.2.2.2) (by omega)
        (by have := HW.out.2.2.2.1; have := HG.out.2.2.2.2.2.1; omega) (by have := HW.out.2.2.2.2.2.2; omega) (by have := HW.out.2.2.2.2.2.2; omega) hp6 hj6 (by have := HW.out.2.2.2.2.1; have := HG.out.2.2.2.2.2.1; simp; omega)
      rw [← HE.out.1, spl_def, nd_def] at c2'
      have HQ := Lib.hid (And.intro hk6 c2')
      have c0 := c.cell 0 _ rfl
      have c1 := c.cell 1 _ rfl
      have c2 := c.cell 2 _ rfl
      have c3 := c.cell 3 _ rfl
      have c4 := c.cell 4 _ rfl
      have c5 := c.cell 5 _ rfl
      have d0 := d.cell 0 _ rfl
      have d1 := d.cell 1 _ rfl
      have d2 := d.cell 2 _ rfl
      have d3 := d.cell 3 _ rfl
      clear c d hp6 hj6 hk6 c2' hsW
      gi_wp2
      refine ⟨trivial, fun h => (by cases h), HQ.out.2.mono ?_⟩
      rintro e W7 (⟨rfl, hj7, hk7⟩ | ⟨rfl, q, hq⟩)
      · have hA := HG.out.2.2.2.2.2.1.2.2.2.2
        rw [List.append_assoc, List.replicate_append_replicate, hA] at hj7
        have HJ := Lib.hid (And.intro hj7 (((KAp.of HG.out.2.2.1 (by have := HW.out.1; have := HW.out.2.1; omega)).trans HQ.out.1).trans hk7))
        clear hj7 hk7 hA c0 c1 c2 c3 c4 c5 d0 d1 d2 d3
        gi_wp2
        go_ret
        exact .inl ⟨rfl, HJ.out.1, HJ.out.2⟩
      · clear c0 c1 c2 c3 c4 c5 d0 d1 d2 d3
        gi_wp2
        go_ret
        exact .inr ⟨rfl, q, hq⟩
    · gi_wp2
      refine ⟨trivial, ?_⟩
      gi_wp2
      go_ret
      exact .inr ⟨rfl, q, hq⟩
end Go.Proofs.YtjdidnonfmdfmaaDoor
end

