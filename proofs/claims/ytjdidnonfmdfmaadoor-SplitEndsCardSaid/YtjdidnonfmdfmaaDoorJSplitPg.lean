import Derived.Test.YtjdidnonfmdfmaaDoorJSplitPe
import Derived.Test.YtjdidnonfmdfmaaDoorJSplitPf

section
/- split: leafOf, Part, Before, Find; the examples. -/


namespace Go.Proofs.YtjdidnonfmdfmaaDoor
open Go.RowKit
set_option linter.unusedVariables false
set_option maxRecDepth 100000

theorem leaf1_any (k : Int) (f n b t : Int) (g : Nat) (w : World) (hg : Blk w g [.int .i64 k] 3) :
    Calls Tryd.prog 42 #[nd f n b t, .pointer (some ⟨g, 0, none⟩)] w fun e w' => e = .returned (.bool (decide (k ≥ f))) ∧ Below w.heap.size w w' := by
  have c0 := hg.cell 0 _ rfl
  have hlt := hg.lt
  rw [nd_def]
  clear hg
  go_enter Tryd.func42, Tryd.ntmps42
  go_wp2_with fail
  go_ret
  exact ⟨rfl, (Below.refl _ _).alloc (Nat.le_refl _) _⟩
theorem find1_any (x : Int) (f n b t : Int) (g : Nat) (w : World) (hg : Blk w g [.int .i64 x] 3) :
    Calls Tryd.prog 34 #[nd f n b t, .pointer (some ⟨g, 0, none⟩)] w fun e w' => e = .returned (.bool (decide (x ≥ b))) ∧ Below w.heap.size w w' := by
  have c0 := hg.cell 0 _ rfl
  have hlt := hg.lt
  rw [nd_def]
  clear hg
  go_enter Tryd.func34, Tryd.ntmps34
  go_wp2_with fail
  go_ret
  exact ⟨rfl, (Below.refl _ _).alloc (Nat.le_refl _) _⟩

theorem three_new2 (w : World) (X Y Z : List Value) (t u v : TypeId) : Blk (((w.alloc (.cells X.toArray t)).alloc (.cells Y.toArray u)).alloc (.cells Z.toArray v)) w.heap.size X t ∧ Blk (((w.alloc (.cells X.toArray t)).alloc (.cells Y.toArray u)).alloc (.cells Z.toArray v)) (w.heap.size + 1) Y u ∧
    Blk (((w.alloc (.cells X.toArray t)).alloc (.cells Y.toArray u)).alloc (.cells Z.toArray v)) (w.heap.size + 1 + 1) Z v ∧ Below w.heap.size w (((w.alloc (.cells X.toArray t)).alloc (.cells Y.toArray u)).alloc (.cells Z.toArray v)) := by
  obtain ⟨h1, h2, h3⟩ := two_new2 w X Y t u
  have k := Blk.new ((w.alloc (.cells X.toArray t)).alloc (.cells Y.toArray u)) Z v
  simp only [World.size_alloc] at k
  exact ⟨h1.alloc _, h2.alloc _, k, h3.alloc (by simp; omega) _⟩

set_option maxHeartbeats 4000000 in
/-- The leaf of a part, over the way to it. -/
theorem leafOf_any (s : ByteArray) (A : Option Addr) (len cap : Nat) (T N lo hi k : Int) (K : Nat) (q : Nat → NodeQ) (w : World)
    (h0 : q 0 = ⟨0, N, 0, T⟩) (h1 : ∀ i, i < K → 1 < (q i).n) (hK : ¬ 1 < (q K).n)
    (hS : ∀ i, i < K → ∃ (l r : NodeQ), (∀ W, Below w.heap.size w W → Calls Tryd.prog 43 #[spl s A len cap T N lo hi, (q i).v] W fun e w' => e = .returned (.tuple #[l.v, r.v]) ∧ Below W.heap.size W w') ∧ q (i + 1) = if k ≥ r.f then r else l) :
    Calls Tryd.prog 31 #[spl s A len cap T N lo hi, .int .i64 k] w fun e w' => e = .returned (q K).v ∧ Below w.heap.size w w' := by
  have hmf : ∀ (fn : Fn) (first cap : Array Value) (w : World), (Instr.makeFunc fn first cap).run Tryd.prog w = .ok (.func fn first cap) w := fun _ _ _ _ => rfl
  have cD : ∀ (W : World) (g : Nat), Below w.heap.size w W → Blk W g [.int .i64 k] 3 → Calls Tryd.prog 33 #[spl s A len cap T N lo hi, .func (.func 42) #[] #[.pointer (some ⟨g, 0, none⟩)]] W fun e w' => e = .returned (q K).v ∧ Below W.heap.size W w' := fun W g hW hg =>
    down_any s A len cap T N lo hi _ _ K q W (fun _ _ => rfl) h0 h1 hK fun i hi => by
      obtain ⟨l, r, a, b⟩ := hS i hi
      refine ⟨l, r, decide (k ≥ r.f), fun V hV => a V (hW.trans (hV.mono hW.size)), fun V hV => leaf1_any k r.f r.n r.b r.t g V (hg.below hV hg.lt), ?_⟩
      rw [b]
      by_cases h : k ≥ r.f
      · rw [if_pos h, decide_eq_true h, if_pos rfl]
      · rw [if_neg h, decide_eq_false h, if_neg (by decide)]
  obtain ⟨z, hz⟩ : ∃ z, z = q K := ⟨_, rfl⟩
  rw [← hz]
  simp only [← hz] at cD
  clear hz h0 h1 hK hS
  obtain ⟨f, n, b, t⟩ := z
  simp only [NodeQ.v, nd_def, spl_def] at cD ⊢
  have CD := Lib.hid cD
  clear cD
  have g3 := three_new2 w (Sc s A len cap T N lo hi) [.int .i64 k] (Nc 0 0 0 0) 28 3 59
  have HG := Lib.hid g3
  clear g3
  unfold Sc Nc at HG
  go_enter Tryd.func31, Tryd.ntmps31
  go_wp2_with fail
  refine (CD.out _ _ HG.out.2.2.2 HG.out.2.1).mono ?_
  rintro e w2 ⟨rfl, hb⟩
  have k2 := HG.out.2.2.1.below hb HG.out.2.2.1.lt
  have hb2 := HG.out.2.2.2.trans (hb.mono HG.out.2.2.2.size)
  have r0 := k2.cell 0 _ rfl
  have r1 := k2.cell 1 _ rfl
  have r2 := k2.cell 2 _ rfl
  have r3 := k2.cell 3 _ rfl
  have f0 := k2.frozen 0
  have f1 := k2.frozen 1
  have f2 := k2.frozen 2
  have f3 := k2.frozen 3
  have HN := Lib.hid (And.intro (Nc_set k2 rfl (.int .i64 f) (.int .i64 n) (.int .i64 b) (.int .i64 t)) (Nc_below hb2 (show w.heap.size ≤ w.heap.size + 1 + 1 by omega) (.int .i64 f) (.int .i64 n) (.int .i64 b) (.int .i64 t)))
  clear k2 hb2 hb HG CD
  go_wp2_with fail
  exact bodyPost_ret (results_cell_row rfl _ _ (w.heap.size + 1 + 1) 59 #[.int .i64 f, .int .i64 n, .int .i64 b, .int .i64 t] (0, 0) _ rfl HN.out.1 Tryd.underlying59 rfl (by kernel_rfl)) rfl ⟨rfl, HN.out.2⟩

/-- A valid split. -/
structure ValidQ (s : ByteArray) (len : Nat) (t n lo hi : Int) : Prop where
  seed : s.size ≤ 32
  path : len ≤ 6
  n0 : 0 ≤ n
  n1 : n ≤ 65536
  blo : -1048576 ≤ lo
  ble : lo ≤ hi
  bhi : hi ≤ 1048576
  t0 : n * lo ≤ t
  t1 : t ≤ n * hi
theorem ValidQ.ok {s : ByteArray} {len : Nat} {t n lo hi : Int} (h : ValidQ s len t n lo hi) (A : Option Addr) (cap : Nat) (w : World) :
    Calls Tryd.prog 12 #[spl s A len cap t n lo hi] w fun e w' => e = .returned (.int .i64 0) ∧ Below w.heap.size w w' := by
  have := splitValid_in s A len cap t n lo hi w h.seed h.path h.n0 h.n1 h.blo h.ble h.bhi
  rwa [show rangeE t n lo hi = 0 by unfold rangeE; rw [if_neg (by have := h.t0; have := h.t1; omega)]] at this
theorem box_new (w : World) (X : List Value) (t : TypeId) : Blk (w.alloc (.cells X.toArray t)) w.heap.size X t ∧ Below w.heap.size w (w.alloc (.cells X.toArray t)) := ⟨Blk.new w _ _, (Below.refl _ _).alloc (Nat.le_refl _) _⟩

set_option maxHeartbeats 4000000 in
theorem part_ok (s : ByteArray) (A : Option Addr) (len cap : Nat) (T N lo hi k f n b t : Int) (w : World) (hV : ValidQ s len T N lo hi) (h0 : 0 ≤ k) (h1 : k < N)
    (hL : ∀ W, Below w.heap.size w W → Calls Tryd.prog 31 #[spl s A len cap T N lo hi, .int .i64 k] W fun e w' => e = .returned (nd f n b t) ∧ Below W.heap.size W w') :
    Calls Tryd.prog 18 #[spl s A len cap T N lo hi, .int .i64 k] w fun e w' => e = .returned (.tuple #[.int .i64 t, .int .i64 0]) ∧ Below w.heap.size w w' := by
  have cV := fun W => hV.ok A cap W
  have g1 := box_new w (Sc s A len cap T N lo hi) 28
  simp only [spl_def, nd_def] at cV hL ⊢
  have CV := Lib.hid cV
  have CL := Lib.hid hL
  have HG := Lib.hid g1
  have q1 : ¬ k < 0 := by omega
  have q2 : ¬ k ≥ N := by omega
  have hfd : ∀ w : World, (Instr.field 59 (.agg #[.int .i64 f, .int .i64 n, .int .i64 b, .int .i64 t]) 3).run Tryd.prog w = .ok (.int .i64 t) w := fun _ => by kernel_rfl
  clear cV hL g1 hV h0 h1
  unfold Sc at HG
  go_enter Tryd.func18, Tryd.ntmps18
  go_wp2_with fail
  refine (CV.out _).mono ?_
  rintro e w2 ⟨rfl, hb⟩
  have k1 := HG.out.1.below hb HG.out.1.lt
  have hb2 := HG.out.2.trans (hb.mono HG.out.2.size)
  have c0 := k1.cell 0 _ rfl
  have c1 := k1.cell 1 _ rfl
  have c2 := k1.cell 2 _ rfl
  have c3 := k1.cell 3 _ rfl
  have c4 := k1.cell 4 _ rfl
  have c5 := k1.cell 5 _ rfl
  have HB := Lib.hid hb2
  clear k1 hb2 hb HG CV
  go_wp2_with fail
  refine (CL.out _ HB.out).mono ?_
  rintro e w3 ⟨rfl, hb⟩
  have HB3 := Lib.hid (HB.out.trans (hb.mono HB.out.size))
  clear hb CL c0 c1 c2 c3 c4 c5
  go_wp2_with fail
  go_ret2
  exact ⟨rfl, HB3.out⟩

set_option maxHeartbeats 4000000 in
theorem before_end (s : ByteArray) (A : Option Addr) (len cap : Nat) (T N lo hi : Int) (w : World) (hV : ValidQ s len T N lo hi) :
    Calls Tryd.prog 20 #[spl s A len cap T N lo hi, .int .i64 N] w fun e w' => e = .returned (.tuple #[.int .i64 T, .int .i64 0]) ∧ Below w.heap.size w w' := by
  have cV := fun W => hV.ok A cap W
  have g1 := box_new w (Sc s A len cap T N lo hi) 28
  simp only [spl_def] at cV ⊢
  have CV := Lib.hid cV
  have HG := Lib.hid g1
  have q1 : ¬ N < 0 := by have := hV.n0; omega
  have q2 : ¬ N > N := by omega
  clear cV g1 hV
  unfold Sc at HG
  go_enter Tryd.func20, Tryd.ntmps20
  go_wp2_with fail
  refine (CV.out _).mono ?_
  rintro e w2 ⟨rfl, hb⟩
  have k1 := HG.out.1.below hb HG.out.1.lt
  have hb2 := HG.out.2.trans (hb.mono HG.out.2.size)
  have c0 := k1.cell 0 _ rfl
  have c1 := k1.cell 1 _ rfl
  have c2 := k1.cell 2 _ rfl
  have c3 := k1.cell 3 _ rfl
  have c4 := k1.cell 4 _ rfl
  have c5 := k1.cell 5 _ rfl
  have HB := Lib.hid hb2
  clear k1 hb2 hb HG CV
  go_wp2_with fail
  exact bodyPost_ret (results_tmp2 rfl _ _ _) rfl ⟨rfl, HB.out⟩

set_option maxHeartbeats 4000000 in
theorem find_ok (s : ByteArray) (A : Option Addr) (len cap : Nat) (T N lo hi x f n b t : Int) (w : World) (hV : ValidQ s len T N lo hi) (hlo : 0 ≤ lo) (h0 : 0 ≤ x) (h1 : x < T) (hx : wrap64 (x - b) = x - b)
    (hL : ∀ W g, Below w.heap.size w W → Blk W g [.int .i64 x] 3 → Calls Tryd.prog 33 #[spl s A len cap T N lo hi, .func (.func 34) #[] #[.pointer (some ⟨g, 0, none⟩)]] W fun e w' => e = .returned (nd f n b t) ∧ Below W.heap.size W w') :
    Calls Tryd.prog 22 #[spl s A len cap T N lo hi, .int .i64 x] w fun e w' => e = .returned (.tuple #[.int .i64 f, .int .i64 (x - b), .int .i64 0]) ∧ Below w.heap.size w w' := by
  have hmf : ∀ (fn : Fn) (first cap : Array Value) (w : World), (Instr.makeFunc fn first cap).run Tryd.prog w = .ok (.func fn first cap) w := fun _ _ _ _ => rfl
  have cV := fun W => hV.ok A cap W
  have g1 := two_new2 w (Sc s A len cap T N lo hi) [.int .i64 x] 28 3
  simp only [spl_def, nd_def] at cV hL ⊢
  have CV := Lib.hid cV
  have CL := Lib.hid hL
  have HG := Lib.hid g1
  have q1 : ¬ lo < 0 := by omega
  have q2 : ¬ x < 0 := by omega
  have q3 : ¬ x ≥ T := by omega
  clear cV hL g1 hV h0 h1 hlo
  unfold Sc at HG
  go_enter Tryd.func22, Tryd.ntmps22
  go_wp2_with fail
  refine (CV.out _).mono ?_
  rintro e w2 ⟨rfl, hb⟩
  have k1 := HG.out.1.below hb HG.out.1.lt
  have k2 := HG.out.2.1.below hb HG.out.2.1.lt
  have hb2 := HG.out.2.2.trans (hb.mono HG.out.2.2.size)
  have c0 := k1.cell 0 _ rfl
  have c1 := k1.cell 1 _ rfl
  have c2 := k1.cell 2 _ rfl
  have c3 := k1.cell 3 _ rfl
  have c4 := k1.cell 4 _ rfl
  have c5 := k1.cell 5 _ rfl
  have x0 := k2.cell 0 _ rfl
  have HB := Lib.hid (And.intro hb2 k2)
  clear k1 k2 hb2 hb HG CV
  go_wp2_with fail
  refine (CL.out _ _ HB.out.1 HB.out.2).mono ?_
  rintro e w3 ⟨rfl, hb⟩
  have x1 := (HB.out.2.below hb HB.out.2.lt).cell 0 _ rfl
  have hlt := (HB.out.2.below hb HB.out.2.lt).lt
  have hb3 := HB.out.1.trans (hb.mono HB.out.1.size)
  have HB3 := Lib.hid (And.intro hb3 hb3.size)
  clear hb hb3 CL c0 c1 c2 c3 c4 c5 x0
  go_wp2_with fail
  go_region
  go_wp2_with fail
  go_ret3
  refine ⟨?_, (HB3.out.1.alloc HB3.out.2 _).drew⟩
  show Ending.returned (.tuple #[.int .i64 f, .int .i64 (wrap64 (x - b)), .int .i64 0]) = _
  rw [hx]

/-! ### The statement's own uses -/
theorem one_way (s : ByteArray) (A : Option Addr) (len cap : Nat) (T lo hi : Int) (H : FuncId) (d : Value) (w : World) (hcf : ∀ (args : Array Value) (W : World), (callFunc H args).run Tryd.prog W = .ok (.enter H args) W) :
    Calls Tryd.prog 33 #[spl s A len cap T 1 lo hi, .func (.func H) #[] #[d]] w fun e w' => e = .returned (nd 0 1 0 T) ∧ Below w.heap.size w w' :=
  down_any s A len cap T 1 lo hi H d 0 (fun _ => ⟨0, 1, 0, T⟩) w hcf rfl (fun i hi => absurd hi (Nat.not_lt_zero i)) (by simp) (fun i hi => absurd hi (Nat.not_lt_zero i))

theorem partOne_ok : PartOne := fun s A cap p t lo hi w hs hp6 hpc hcm hrd hI hlo hlt hth hhi hT =>
  part_ok s A p.length cap t 1 lo hi 0 0 1 0 t w ⟨hs, hp6, by omega, by omega, hlo, by omega, hhi, by omega, by omega⟩ (by omega) (by omega) fun W hW =>
    leafOf_any s A p.length cap t 1 lo hi 0 0 (fun _ => ⟨0, 1, 0, t⟩) W rfl (fun i hi => absurd hi (Nat.not_lt_zero i)) (by simp) (fun i hi => absurd hi (Nat.not_lt_zero i))

theorem e5_half (W : World) (hT : HTab W) : Calls Tryd.prog 43 #[spl ⟨#[115]⟩ none 0 0 11 2 0 6, nd 0 2 0 11] W fun e w' =>
    e = .returned (.tuple #[nd 0 1 0 (5 + coinAt ⟨#[115]⟩ [0, 2]), nd (0 + 1) 1 (0 + (5 + coinAt ⟨#[115]⟩ [0, 2])) (11 - (5 + coinAt ⟨#[115]⟩ [0, 2]))]) ∧ Below W.heap.size W w' := by
  have hc := coinAt_in ⟨#[115]⟩ [0, 2]
  exact halves_any ⟨#[115]⟩ none 0 [] 11 2 0 6 0 2 0 11 1 1 5 6 (5 + coinAt ⟨#[115]⟩ [0, 2]) W Rd.nil (Nat.le_refl _) (by decide) (by decide) rfl rfl (by decide) (by decide) (by decide) (by decide) (by decide) (by decide) (by decide) (by decide) (by decide) (by decide) (by decide) (by decide) (by decide) (by decide)
    (by omega) (by omega) rfl rfl (fun V B c hV hr hcl hcm => between_two ⟨#[115]⟩ B c [0, 2] 5 6 rfl V hr hcl hcm (by decide) (by decide) (by intro n hn; simp at hn; rcases hn with rfl | rfl <;> (constructor <;> decide)) (hT.next hV) (by decide) (by decide))

theorem splitEx_ok : SplitEx where
  e1 := fun W hT => allEnds_ok ⟨#[]⟩ none 0 [] 3 12 4 9 4 W (by decide) (by decide) (Nat.le_refl _) (by decide) Rd.nil (by simp) (by decide) (by decide) (by decide) (by decide) (.inl ⟨rfl, rfl⟩) hT
  e2 := fun W hT => allEnds_ok ⟨#[]⟩ none 0 [] 1 5 0 9 5 W (by decide) (by decide) (Nat.le_refl _) (by decide) Rd.nil (by simp) (by decide) (by decide) (by decide) (by decide) (.inr (.inr ⟨rfl, rfl, by decide, by decide⟩)) hT
  e3 := fun W hT => before_end ⟨#[]⟩ none 0 0 5 1 0 9 W ⟨by decide, by decide, by decide, by decide, by decide, by decide, by decide, by decide, by decide⟩
  e4 := fun W hT => find_ok ⟨#[]⟩ none 0 0 5 1 0 9 4 0 1 0 5 W ⟨by decide, by decide, by decide, by decide, by decide, by decide, by decide, by decide, by decide⟩ (by decide) (by decide) (by decide) (wrap_id (by decide) (by decide))
    fun V g _ hg => one_way ⟨#[]⟩ none 0 0 5 0 9 _ _ V (fun _ _ => rfl)
  e5 := fun W hT => part_ok ⟨#[115]⟩ none 0 0 11 2 0 6 0 0 1 0 (5 + coinAt ⟨#[115]⟩ [0, 2]) W ⟨by decide, by decide, by decide, by decide, by decide, by decide, by decide, by decide, by decide⟩ (by decide) (by decide) fun V hV =>
    leafOf_any ⟨#[115]⟩ none 0 0 11 2 0 6 0 1 (fun i => if i = 0 then ⟨0, 2, 0, 11⟩ else ⟨0, 1, 0, 5 + coinAt ⟨#[115]⟩ [0, 2]⟩) V rfl (fun i hi => by (obtain rfl : i = 0 := by omega); exact (by decide : (1 : Int) < 2)) (by show ¬ (1 : Int) < 1; decide) fun i hi => by
      obtain rfl : i = 0 := by omega
      exact ⟨⟨0, 1, 0, 5 + coinAt ⟨#[115]⟩ [0, 2]⟩, ⟨0 + 1, 1, 0 + (5 + coinAt ⟨#[115]⟩ [0, 2]), 11 - (5 + coinAt ⟨#[115]⟩ [0, 2])⟩, fun U hU => e5_half U ((hT.next hV).next hU), rfl⟩
  e6 := fun W hT => splitValid_in ⟨#[]⟩ none 0 0 7 0 0 9 W (by decide) (by decide) (by decide) (by decide) (by decide) (by decide) (by decide)

/-- The whole law. -/
theorem ends_all (A : Option Addr) (cap : Nat) (l : List Int) (w : World) (hr : Rd w w.heap.size A (l.map iv)) (hI : ∀ n ∈ l, M.I64 n) (hl : l.length ≤ 9223372036854775807) (hT : HTab w) :
    Calls Tryd.prog 8 #[.slice A l.length cap] w (Tells true w) := splitEnds_walk allEnds_ok partOne_ok splitEx_ok A cap l w hr hI hl hT
end Go.Proofs.YtjdidnonfmdfmaaDoor
end

