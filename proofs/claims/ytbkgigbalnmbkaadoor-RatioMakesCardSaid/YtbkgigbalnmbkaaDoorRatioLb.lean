/- The walk of the statement RatioMakes. -/
import Derived.Test.YtbkgigbalnmbkaaDoorRatioRa
import Derived.Test.YtbkgigbalnmbkaaDoorRatioPm
import Derived.Test.YtbkgigbalnmbkaaDoorFactsV
import Derived.Test.YtbkgigbalnmbkaaDoorGuards
import Derived.Test.YtbkgigbalnmbkaaDoorPick
namespace Go.Proofs.YtbkgigbalnmbkaaDoor
open Go.RowKit
set_option linter.unusedVariables false
set_option maxRecDepth 100000

theorem run_indexAt_ints (b n cap k : Nat) (hk : k < n) (w : World) : (Instr.indexAt 24 (.slice (some ⟨b, 0, none⟩) n cap) (.int .i64 (k : Int))).run Tryd.prog w = .ok (.pointer (some ⟨b, k, none⟩)) w := by
  have h1 : (k : Int) < n := by omega
  have h2 : (0 : Int) ≤ k := by omega
  go_simp
theorem zero_rat (w : World) : (zeroValue 23).run Tryd.prog w = .ok (.agg #[.int .i64 0, .int .i64 0]) w := by kernel_rfl
theorem tmod_in {x : Int} (h : In64 x) : In64 (x.tmod 1000) := by
  have h2 : (x.tmod 1000).natAbs ≤ x.natAbs := by rw [Int.natAbs_tmod]; exact Nat.mod_le _ _
  have h3 := Int.tmod_lt_of_pos x (b := 1000) (by decide)
  unfold In64 at h ⊢
  omega

/-- The rows that the loops read, and the fraction that came in. -/
def Made (w : World) (l m : List Int) (a c : Int) (W : World) : Prop := Blk W w.heap.size (Rc a c) 23 ∧ Blk W (w.heap.size + 1) (l.map iv) 3 ∧ Blk W (w.heap.size + 2) (m.map iv) 3 ∧ Below w.heap.size w W
theorem Made.step {w W W' : World} {l m : List Int} {a c : Int} (h : Made w l m a c W) (hb : Below W.heap.size W W') : Made w l m a c W' := ⟨h.1.below hb h.1.lt, h.2.1.below hb h.2.1.lt, h.2.2.1.below hb h.2.2.1.lt, h.2.2.2.trans (hb.mono h.2.2.2.size)⟩
theorem Made.set2 {w W : World} {l m : List Int} {a c : Int} (h : Made w l m a c W) {b : Nat} (hb : w.heap.size + 2 < b) (u v : Value) : Made w l m a c ((W.setCell ⟨b, 0, none⟩ u).setCell ⟨b, 1, none⟩ v) :=
  ⟨Rc_other h.1 (by omega) u v, (h.2.1.other _ _ (by show w.heap.size + 1 ≠ b; omega)).other _ _ (by show w.heap.size + 1 ≠ b; omega), (h.2.2.1.other _ _ (by show w.heap.size + 2 ≠ b; omega)).other _ _ (by show w.heap.size + 2 ≠ b; omega), below_set2 h.2.2.2 (by omega) u v⟩
/-- What lasts while memory grows and variables from block N on are written. -/
structure Keeps (M : World → Prop) (N : Nat) : Prop where
  step : ∀ W W', M W → Below W.heap.size W W' → M W'
  put : ∀ W b vs, M W → N ≤ b → M (W.setCells b 0 vs)
  size : ∀ W, M W → N ≤ W.heap.size
theorem Made.keeps (w : World) (l m : List Int) (a c : Int) : Keeps (Made w l m a c) (w.heap.size + 3) where
  step := fun W W' h hb => h.step hb
  put := fun W b vs h hb => ⟨Blk.outside vs b 0 W h.1 (by omega), Blk.outside vs b 0 W h.2.1 (by omega), Blk.outside vs b 0 W h.2.2.1 (by omega), below_setCells b (by omega) vs 0 W h.2.2.2⟩
  size := fun W h => h.2.2.1.lt
theorem Keeps.more {M : World → Prop} {N : Nat} (h : Keeps M N) (b : Nat) (x y : Int) (hb : N ≤ b) : Keeps (fun W => M W ∧ Blk W b (Rc x y) 23) (b + 1) where
  step := fun W W' k hb => ⟨h.step W W' k.1 hb, k.2.below hb k.2.lt⟩
  put := fun W b' vs k hb' => ⟨h.put W b' vs k.1 (by omega), Blk.outside vs b' 0 W k.2 (by omega)⟩
  size := fun W k => k.2.lt
/-- A variable that a region makes and fills. -/
def Filled (M : World → Prop) (N : Nat) (x y : Int) (d : Nat → Bool) (vals : Nat → Value) (W : World) : Prop :=
  M W ∧ (d 13 = true → d 12 = true) ∧ (d 12 = true → ∃ b, vals 12 = .pointer (some ⟨b, 0, none⟩) ∧ N ≤ b ∧ Blk W b (if d 13 = true then Rc x y else Rc 0 0) 23)
theorem Filled.step {M : World → Prop} {N : Nat} {x y : Int} {d : Nat → Bool} {vals : Nat → Value} {W W' : World} (hK : Keeps M N) (h : Filled M N x y d vals W) (hb : Below W.heap.size W W') : Filled M N x y d vals W' :=
  ⟨hK.step W W' h.1 hb, h.2.1, fun hd => by obtain ⟨b, h1, h2, h3⟩ := h.2.2 hd; exact ⟨b, h1, h2, h3.below hb h3.lt⟩⟩
theorem int_at {W : World} {b : Nat} {l : List Int} (h : Blk W b (l.map iv) 3) (j : Nat) (hj : j < l.length) : W.cell? ⟨b, j, none⟩ = some (.int .i64 (l.getD j 0)) := by
  have := h.cell j (iv (l.getD j 0)) (by rw [List.getElem?_map, getD_at l j 0 hj]; rfl)
  exact this
theorem getD_in {l : List Int} (h : ∀ x ∈ l, In64 x) (j : Nat) (hj : j < l.length) : In64 (l.getD j 0) := by
  refine h _ ?_
  rw [List.getD_eq_getElem?_getD, List.getElem?_eq_getElem hj]
  simp

set_option maxHeartbeats 8000000 in
theorem makes_walk (p q a c : Int) (w : World) (hp : In64 p) (hq : In64 q) (ha : In64 a) (hc : In64 c) (hD : Door w) :
    Calls Tryd.prog 3 #[.int .i64 p, .int .i64 q, Rv a c] w (Tells true w) := by
  obtain ⟨l, hl⟩ : ∃ l, l = [p, q, p.tmod 1000, 0, 2147483648] := ⟨_, rfl⟩
  obtain ⟨m, hm⟩ : ∃ m, m = [q, p, q.tmod 1000, 1] := ⟨_, rfl⟩
  have l5 : l.length = 5 := by rw [hl]; rfl
  have m4 : m.length = 4 := by rw [hm]; rfl
  have li : ∀ x ∈ l, In64 x := by
    rw [hl]; intro x hx
    simp only [List.mem_cons, List.not_mem_nil, or_false] at hx
    rcases hx with rfl | rfl | rfl | rfl | rfl
    · exact hp
    · exact hq
    · exact tmod_in hp
    · exact ⟨by decide, by decide⟩
    · exact ⟨by decide, by decide⟩
  have mi : ∀ x ∈ m, In64 x := by
    rw [hm]; intro x hx
    simp only [List.mem_cons, List.not_mem_nil, or_false] at hx
    rcases hx with rfl | rfl | rfl | rfl
    · exact hq
    · exact hp
    · exact tmod_in hq
    · exact ⟨by decide, by decide⟩
  have v1 := fun W => valid_any a c W ha hc
  have v2 := fun W => refValid_any a c W ha hc
  have v3 := fun W => valid_any p q W hp hq
  have v4 := fun W => refValid_any p q W hp hq
  have hr1 : wrap64 (p.tmod 1000) = p.tmod 1000 := IntWalk.wrap64_in _ (tmod_in hp)
  have hs1 : wrap64 (q.tmod 1000) = q.tmod 1000 := IntWalk.wrap64_in _ (tmod_in hq)
  generalize decide (Rt.Ok a c) = z1 at *
  generalize decide (Rt.Ok p q) = z2 at *
  have V1 := Lib.hid v1
  have V2 := Lib.hid v2
  have V3 := Lib.hid v3
  have V4 := Lib.hid v4
  have HL := Lib.hid (And.intro hl hm)
  have HM := Lib.hid (And.intro li mi)
  have HE := Lib.hid (And.intro l5 m4)
  have HD := Lib.hid hD
  clear v1 v2 v3 v4 hl hm li mi l5 m4 hD hp hq ha hc
  show Calls _ _ #[_, _, .agg #[.int .i64 a, .int .i64 c]] _ _
  go_enter Tryd.func3, Tryd.ntmps3
  go_wp2_with fail
  have hS : Made w l m a c (((w.alloc (.cells (Rc a c).toArray 23)).alloc (.cells ([p, q, p.tmod 1000, 0, 2147483648].map iv).toArray 3)).alloc (.cells ([q, p, q.tmod 1000, 1].map iv).toArray 3)) := by
    rw [HL.out.1, HL.out.2]
    exact three_new w (Rc a c) ([p, q, p.tmod 1000, 0, 2147483648].map iv) ([q, p, q.tmod 1000, 1].map iv) 23 3 3
  have S0 := Lib.hid hS
  clear hS hr1 hs1
  go_loopw [9] (fun i wr => ∃ n : Nat, n ≤ 5 ∧ i = .int .i64 n ∧ Made w l m a c wr) (fun i _ => 5 - (intOf i).toNat)
  case atStart => exact ⟨0, by omega, rfl, S0.out⟩
  case round =>
    obtain ⟨n, hn, rfl, hM⟩ := hrel
    have M1 := Lib.hid hM
    clear hM S0
    by_cases hlt : n < 5
    · have i1 : (n : Int) < 5 := by omega
      have i0 : (0 : Int) ≤ n := by omega
      obtain ⟨wo, rfl⟩ : ∃ wo : World, wo = wr := ⟨_, rfl⟩
      go_wp2_with fail
      go_loopw [10] (fun i wr => ∃ k : Nat, k ≤ 4 ∧ i = .int .i64 k ∧ Made w l m a c wr) (fun i _ => 4 - (intOf i).toNat)
      case atStart => exact ⟨0, by omega, rfl, M1.out⟩
      case round =>
        obtain ⟨k, hk, rfl, hM⟩ := hrel
        have M2 := Lib.hid hM
        clear hM M1
        by_cases hlk : k < 4
        · have j1 : (k : Int) < 4 := by omega
          have j0 : (0 : Int) ≤ k := by omega
          have in1 := getD_in HM.out.1 n (by rw [HE.out.1]; exact hlt)
          have in2 := getD_in HM.out.2 k (by rw [HE.out.2]; exact hlk)
          obtain ⟨u, hu⟩ : ∃ u, u = l.getD n 0 := ⟨_, rfl⟩
          obtain ⟨v, hv⟩ : ∃ v, v = m.getD k 0 := ⟨_, rfl⟩
          rw [← hu] at in1
          rw [← hv] at in2
          obtain ⟨x, y, e, hm⟩ : ∃ x y e, Rt.mk u v = (x, y, e) := ⟨_, _, _, rfl⟩
          have g1 := fun W => make_any u v W in1 in2
          have g2 := fun W => refMake_any u v W in1 in2
          rw [hm] at g1 g2
          have G1 := Lib.hid g1
          have G2 := Lib.hid g2
          have HU := Lib.hid (And.intro hu hv)
          have HN := Lib.hid (And.intro hlt hlk)
          clear g1 g2 hu hv hm in1 in2
          go_wp2_with fail
          have KM := Lib.hid (Made.keeps w l m a c)
          refine wp_region_listV [38, 39, 40, 41, 42, 43, 44, 45, 46, 37, 47, 48, 11, 1000013] (fun d vals w' => Filled (Made w l m a c) (w.heap.size + 3) x y d vals w') (fun _ _ => True)
            [fun z _ => z = .slice (some ⟨w.heap.size + 1, 0, none⟩) 5 5, fun z _ => z = .int .i64 n, fun z _ => z = .pointer (some ⟨w.heap.size + 1, n, none⟩), fun z _ => z = .int .i64 u, fun z _ => z = .slice (some ⟨w.heap.size + 2, 0, none⟩) 4 4, fun z _ => z = .int .i64 k, fun z _ => z = .pointer (some ⟨w.heap.size + 2, k, none⟩), fun z _ => z = .int .i64 v, fun z _ => z = T3 (x, y, e), fun z _ => z = T3 (x, y, e), fun z _ => z = Rv x y, fun z _ => z = .int .i64 e, fun _ _ => True, fun _ _ => True]
            (by intro f hf v w w' h _; simp only [List.mem_cons, List.not_mem_nil, or_false] at hf; rcases hf with rfl | rfl | rfl | rfl | rfl | rfl | rfl | rfl | rfl | rfl | rfl | rfl | rfl | rfl <;> exact h)
            (fun _ => ⟨KM.out.step _ _ M2.out (below_drewN (Below.refl _ _) 1), fun h => absurd h (by decide), fun h => absurd h (by decide)⟩) (by kernel_rfl) (by kernel_rfl) ?_ ?_
          · intro i hi d vs fb w' hJ hu hv0 hall hx o ho
            have hd : ∀ j, Region.waitsFor .any _ i j = true → j < i → d j = true ∧ (_ → factJ _ j (fb.tmps.getD _ undef) w') := fun j h1 h2 => ⟨(hv0 j h1 h2).1, fun h3 => by rw [(hv0 j h1 h2).2 h3]; exact hall j (by omega) (hv0 j h1 h2).1⟩
            have hM := hJ.1
            match i, hi with
            | 0, _ => obtain rfl := Option.some.inj ho; exact ⟨hx 7 rfl, trivial, hJ⟩
            | 1, _ => obtain rfl := Option.some.inj ho; exact ⟨hx 9 rfl, trivial, hJ⟩
            | 2, _ =>
              obtain rfl := Option.some.inj ho
              have e1 : fb.tmps.getD 38 undef = .slice (some ⟨w.heap.size + 1, 0, none⟩) 5 5 := (hd 0 (by kernel_rfl) (by decide)).2 (by decide)
              have e2 : fb.tmps.getD 39 undef = .int .i64 n := (hd 1 (by kernel_rfl) (by decide)).2 (by decide)
              have hv := run_indexAt_ints (w.heap.size + 1) 5 5 n HN.out.1 w'
              rw [← e1, ← e2] at hv
              exact runs_value rfl hv ⟨rfl, trivial, hJ⟩
            | 3, _ =>
              obtain rfl := Option.some.inj ho
              have e1 : fb.tmps.getD 40 undef = .pointer (some ⟨w.heap.size + 1, n, none⟩) := (hd 2 (by kernel_rfl) (by decide)).2 (by decide)
              have hr := run_load_int w' (w.heap.size + 1) n u (by rw [HU.out.1]; exact int_at hM.2.1 n (by rw [HE.out.1]; exact HN.out.1))
              rw [← e1] at hr
              exact runs_value rfl hr ⟨rfl, trivial, hJ⟩
            | 4, _ => obtain rfl := Option.some.inj ho; exact ⟨hx 8 rfl, trivial, hJ⟩
            | 5, _ => obtain rfl := Option.some.inj ho; exact ⟨hx 10 rfl, trivial, hJ⟩
            | 6, _ =>
              obtain rfl := Option.some.inj ho
              have e1 : fb.tmps.getD 42 undef = .slice (some ⟨w.heap.size + 2, 0, none⟩) 4 4 := (hd 4 (by kernel_rfl) (by decide)).2 (by decide)
              have e2 : fb.tmps.getD 43 undef = .int .i64 k := (hd 5 (by kernel_rfl) (by decide)).2 (by decide)
              have hv := run_indexAt_ints (w.heap.size + 2) 4 4 k HN.out.2 w'
              rw [← e1, ← e2] at hv
              exact runs_value rfl hv ⟨rfl, trivial, hJ⟩
            | 7, _ =>
              obtain rfl := Option.some.inj ho
              have e1 : fb.tmps.getD 44 undef = .pointer (some ⟨w.heap.size + 2, k, none⟩) := (hd 6 (by kernel_rfl) (by decide)).2 (by decide)
              have hr := run_load_int w' (w.heap.size + 2) k v (by rw [HU.out.2]; exact int_at hM.2.2.1 k (by rw [HE.out.2]; exact HN.out.2))
              rw [← e1] at hr
              exact runs_value rfl hr ⟨rfl, trivial, hJ⟩
            | 8, _ =>
              obtain rfl := Option.some.inj ho
              have e1 : fb.tmps.getD 41 undef = .int .i64 u := (hd 3 (by kernel_rfl) (by decide)).2 (by decide)
              have e2 : fb.tmps.getD 45 undef = .int .i64 v := (hd 7 (by kernel_rfl) (by decide)).2 (by decide)
              refine runs_call rfl (fun _ _ => rfl) ?_
              show Calls _ _ #[fb.tmps.getD 41 undef, fb.tmps.getD 45 undef] w' _
              rw [e1, e2]
              exact (G1.out w').mono fun e w'' h => ⟨_, h.1, rfl, trivial, hJ.step KM.out h.2⟩
            | 9, _ => obtain rfl := Option.some.inj ho; exact ⟨(hd 8 (by kernel_rfl) (by decide)).2 (by decide), trivial, hJ⟩
            | 10, _ =>
              obtain rfl := Option.some.inj ho
              have e1 : fb.tmps.getD 37 undef = T3 (x, y, e) := (hd 9 (by kernel_rfl) (by decide)).2 (by decide)
              refine runs_value rfl ?_ ⟨rfl, trivial, hJ⟩
              rw [show fb.eval (.tmp 37) = _ from e1]
              rfl
            | 11, _ =>
              obtain rfl := Option.some.inj ho
              have e1 : fb.tmps.getD 37 undef = T3 (x, y, e) := (hd 9 (by kernel_rfl) (by decide)).2 (by decide)
              refine runs_value rfl ?_ ⟨rfl, trivial, hJ⟩
              rw [show fb.eval (.tmp 37) = _ from e1]
              rfl
            | 12, _ =>
              obtain rfl := Option.some.inj ho
              have hu : d 12 = false := hu
              have h13 : d 13 = false := by
                cases h : d 13 with
                | false => rfl
                | true => rw [hJ.2.1 h] at hu; exact absurd hu (by decide)
              refine runs_value rfl (run_alloc_row zero_rat w') ⟨trivial, trivial, KM.out.step _ _ hM ((Below.refl _ _).alloc (Nat.le_refl _) _), fun _ => rfl, fun _ => ⟨w'.heap.size, rfl, KM.out.size _ hM, ?_⟩⟩
              show Blk _ _ (if d 13 = true then Rc x y else Rc 0 0) _
              rw [h13]
              exact Blk.new w' (Rc 0 0) _
            | 13, _ =>
              obtain rfl := Option.some.inj ho
              have hu : d 13 = false := hu
              have e0 : fb.tmps.getD 47 undef = Rv x y := (hd 10 (by kernel_rfl) (by decide)).2 (by decide)
              obtain ⟨z12, z13⟩ := hv0 12 (by kernel_rfl) (by decide)
              have z13 : fb.tmps.getD 11 undef = vs 12 := z13 (by decide)
              obtain ⟨bn, e12, hbn, hcl⟩ := hJ.2.2 z12
              rw [hu] at hcl
              have hcl : Blk w' bn (Rc 0 0) 23 := hcl
              have e6 : fb.tmps.getD 11 undef = .pointer (some ⟨bn, 0, none⟩) := z13.trans e12
              have hr := run_storeAt_mid (P := Tryd.prog) w' bn 0 23 (Rc x y).toArray (hcl.there 0 _ (Nat.le_refl 2)) (by kernel_rfl) (by simp [Rc, Value.oneCell'])
              rw [show (Value.agg (Rc x y).toArray) = fb.tmps.getD 47 undef from e0.symm, ← e6] at hr
              exact runs_unit rfl hr ⟨trivial, trivial, KM.out.put _ _ _ hM hbn, fun _ => z12, fun _ => ⟨bn, e12, hbn, hcl.whole (Rc x y) rfl⟩⟩
          · intro d vals w' hJ hall hf
            have e11 : vals 11 = .int .i64 e := hf 11 (by decide)
            obtain ⟨ba, e12, hbn, hcl⟩ := hJ.2.2 (hall 12 (by decide))
            rw [hall 13 (by decide)] at hcl
            have hcl : Blk w' ba (Rc x y) 23 := hcl
            simp only [puts, List.length_cons, List.length_nil, Nat.zero_add, Nat.reduceAdd, List.drop_succ_cons, List.drop_zero, e11, e12]
            have KN := Lib.hid (KM.out.more ba x y hbn)
            have M3 := Lib.hid (And.intro hJ.1 hcl)
            clear e11 e12 hcl hf hJ hall hbn M2
            go_frame
            go_wp2_with fail
            refine wp_region_listV [50, 51, 52, 53, 54, 55, 56, 57, 58, 49, 59, 60, 13, 1000013] (fun d vals w' => Filled (fun W => Made w l m a c W ∧ Blk W ba (Rc x y) 23) (ba + 1) x y d vals w') (fun _ _ => True)
              [fun z _ => z = .slice (some ⟨w.heap.size + 1, 0, none⟩) 5 5, fun z _ => z = .int .i64 n, fun z _ => z = .pointer (some ⟨w.heap.size + 1, n, none⟩), fun z _ => z = .int .i64 u, fun z _ => z = .slice (some ⟨w.heap.size + 2, 0, none⟩) 4 4, fun z _ => z = .int .i64 k, fun z _ => z = .pointer (some ⟨w.heap.size + 2, k, none⟩), fun z _ => z = .int .i64 v, fun z _ => z = T3 (x, y, e), fun z _ => z = T3 (x, y, e), fun z _ => z = Rv x y, fun z _ => z = .int .i64 e, fun _ _ => True, fun _ _ => True]
              (by intro f hf v w w' h _; simp only [List.mem_cons, List.not_mem_nil, or_false] at hf; rcases hf with rfl | rfl | rfl | rfl | rfl | rfl | rfl | rfl | rfl | rfl | rfl | rfl | rfl | rfl <;> exact h)
              (fun _ => ⟨KN.out.step _ _ M3.out (below_drewN (Below.refl _ _) 1), fun h => absurd h (by decide), fun h => absurd h (by decide)⟩) (by kernel_rfl) (by kernel_rfl) ?_ ?_
            · intro i hi d vs fb w' hJ hu hv0 hall hx o ho
              have hd : ∀ j, Region.waitsFor .any _ i j = true → j < i → d j = true ∧ (_ → factJ _ j (fb.tmps.getD _ undef) w') := fun j h1 h2 => ⟨(hv0 j h1 h2).1, fun h3 => by rw [(hv0 j h1 h2).2 h3]; exact hall j (by omega) (hv0 j h1 h2).1⟩
              have hM := hJ.1
              match i, hi with
              | 0, _ => obtain rfl := Option.some.inj ho; exact ⟨hx 7 rfl, trivial, hJ⟩
              | 1, _ => obtain rfl := Option.some.inj ho; exact ⟨hx 9 rfl, trivial, hJ⟩
              | 2, _ =>
                obtain rfl := Option.some.inj ho
                have e1 : fb.tmps.getD 50 undef = .slice (some ⟨w.heap.size + 1, 0, none⟩) 5 5 := (hd 0 (by kernel_rfl) (by decide)).2 (by decide)
                have e2 : fb.tmps.getD 51 undef = .int .i64 n := (hd 1 (by kernel_rfl) (by decide)).2 (by decide)
                have hv := run_indexAt_ints (w.heap.size + 1) 5 5 n HN.out.1 w'
                rw [← e1, ← e2] at hv
                exact runs_value rfl hv ⟨rfl, trivial, hJ⟩
              | 3, _ =>
                obtain rfl := Option.some.inj ho
                have e1 : fb.tmps.getD 52 undef = .pointer (some ⟨w.heap.size + 1, n, none⟩) := (hd 2 (by kernel_rfl) (by decide)).2 (by decide)
                have hr := run_load_int w' (w.heap.size + 1) n u (by rw [HU.out.1]; exact int_at hM.1.2.1 n (by rw [HE.out.1]; exact HN.out.1))
                rw [← e1] at hr
                exact runs_value rfl hr ⟨rfl, trivial, hJ⟩
              | 4, _ => obtain rfl := Option.some.inj ho; exact ⟨hx 8 rfl, trivial, hJ⟩
              | 5, _ => obtain rfl := Option.some.inj ho; exact ⟨hx 10 rfl, trivial, hJ⟩
              | 6, _ =>
                obtain rfl := Option.some.inj ho
                have e1 : fb.tmps.getD 54 undef = .slice (some ⟨w.heap.size + 2, 0, none⟩) 4 4 := (hd 4 (by kernel_rfl) (by decide)).2 (by decide)
                have e2 : fb.tmps.getD 55 undef = .int .i64 k := (hd 5 (by kernel_rfl) (by decide)).2 (by decide)
                have hv := run_indexAt_ints (w.heap.size + 2) 4 4 k HN.out.2 w'
                rw [← e1, ← e2] at hv
                exact runs_value rfl hv ⟨rfl, trivial, hJ⟩
              | 7, _ =>
                obtain rfl := Option.some.inj ho
                have e1 : fb.tmps.getD 56 undef = .pointer (some ⟨w.heap.size + 2, k, none⟩) := (hd 6 (by kernel_rfl) (by decide)).2 (by decide)
                have hr := run_load_int w' (w.heap.size + 2) k v (by rw [HU.out.2]; exact int_at hM.1.2.2.1 k (by rw [HE.out.2]; exact HN.out.2))
                rw [← e1] at hr
                exact runs_value rfl hr ⟨rfl, trivial, hJ⟩
              | 8, _ =>
                obtain rfl := Option.some.inj ho
                have e1 : fb.tmps.getD 53 undef = .int .i64 u := (hd 3 (by kernel_rfl) (by decide)).2 (by decide)
                have e2 : fb.tmps.getD 57 undef = .int .i64 v := (hd 7 (by kernel_rfl) (by decide)).2 (by decide)
                refine runs_call rfl (fun _ _ => rfl) ?_
                show Calls _ _ #[fb.tmps.getD 53 undef, fb.tmps.getD 57 undef] w' _
                rw [e1, e2]
                exact (G2.out w').mono fun e w'' h => ⟨_, h.1, rfl, trivial, hJ.step KN.out h.2⟩
              | 9, _ => obtain rfl := Option.some.inj ho; exact ⟨(hd 8 (by kernel_rfl) (by decide)).2 (by decide), trivial, hJ⟩
              | 10, _ =>
                obtain rfl := Option.some.inj ho
                have e1 : fb.tmps.getD 49 undef = T3 (x, y, e) := (hd 9 (by kernel_rfl) (by decide)).2 (by decide)
                refine runs_value rfl ?_ ⟨rfl, trivial, hJ⟩
                rw [show fb.eval (.tmp 49) = _ from e1]
                rfl
              | 11, _ =>
                obtain rfl := Option.some.inj ho
                have e1 : fb.tmps.getD 49 undef = T3 (x, y, e) := (hd 9 (by kernel_rfl) (by decide)).2 (by decide)
                refine runs_value rfl ?_ ⟨rfl, trivial, hJ⟩
                rw [show fb.eval (.tmp 49) = _ from e1]
                rfl
              | 12, _ =>
                obtain rfl := Option.some.inj ho
                have hu : d 12 = false := hu
                have h13 : d 13 = false := by
                  cases h : d 13 with
                  | false => rfl
                  | true => rw [hJ.2.1 h] at hu; exact absurd hu (by decide)
                refine runs_value rfl (run_alloc_row zero_rat w') ⟨trivial, trivial, KN.out.step _ _ hM ((Below.refl _ _).alloc (Nat.le_refl _) _), fun _ => rfl, fun _ => ⟨w'.heap.size, rfl, KN.out.size _ hM, ?_⟩⟩
                show Blk _ _ (if d 13 = true then Rc x y else Rc 0 0) _
                rw [h13]
                exact Blk.new w' (Rc 0 0) _
              | 13, _ =>
                obtain rfl := Option.some.inj ho
                have hu : d 13 = false := hu
                have e0 : fb.tmps.getD 59 undef = Rv x y := (hd 10 (by kernel_rfl) (by decide)).2 (by decide)
                obtain ⟨z12, z13⟩ := hv0 12 (by kernel_rfl) (by decide)
                have z13 : fb.tmps.getD 13 undef = vs 12 := z13 (by decide)
                obtain ⟨bn, e12, hbn, hcl⟩ := hJ.2.2 z12
                rw [hu] at hcl
                have hcl : Blk w' bn (Rc 0 0) 23 := hcl
                have e6 : fb.tmps.getD 13 undef = .pointer (some ⟨bn, 0, none⟩) := z13.trans e12
                have hr := run_storeAt_mid (P := Tryd.prog) w' bn 0 23 (Rc x y).toArray (hcl.there 0 _ (Nat.le_refl 2)) (by kernel_rfl) (by simp [Rc, Value.oneCell'])
                rw [show (Value.agg (Rc x y).toArray) = fb.tmps.getD 59 undef from e0.symm, ← e6] at hr
                exact runs_unit rfl hr ⟨trivial, trivial, KN.out.put _ _ _ hM hbn, fun _ => z12, fun _ => ⟨bn, e12, hbn, hcl.whole (Rc x y) rfl⟩⟩
            · intro d vals w' hJ hall hf
              have e11 : vals 11 = .int .i64 e := hf 11 (by decide)
              obtain ⟨bb, e12, hbn, hcl⟩ := hJ.2.2 (hall 12 (by decide))
              rw [hall 13 (by decide)] at hcl
              have hcl : Blk w' bb (Rc x y) 23 := hcl
              simp only [puts, List.length_cons, List.length_nil, Nat.zero_add, Nat.reduceAdd, List.drop_succ_cons, List.drop_zero, e11, e12]
              have M4 := Lib.hid hJ.1
              obtain ⟨⟨c0, c1⟩, -, -⟩ := Rc_facts hJ.1.2
              obtain ⟨⟨d0, d1⟩, -, -⟩ := Rc_facts hcl
              clear e11 e12 hcl hf hJ hall hbn M3
              go_frame
              go_wp2_with fail
              refine ⟨⟨k + 1, by omega, by simp, M4.out.1⟩, ?_⟩
              simp [intOf]; omega
        · have j1 : ¬ ((k : Int) < 4) := by omega
          go_wp2_with fail
          refine ⟨⟨n + 1, by omega, by simp, M2.out⟩, ?_⟩
          simp [intOf]; omega
    · have i1 : ¬ ((n : Int) < 5) := by omega
      have D5 := Lib.hid (HD.out.below M1.out.2.2.2 (Nat.le_refl _))
      go_wp2_with fail
      refine wp_region_guarded [69, 70, 71, 72, 73, 74, 75, 76, 77, 78, 79, 80, 81, 82, 83, 84, 85, 86, 87] [.is (Rv a c), .is (.bool z1), .is (Rv a c), .is (.bool z1), .is (.bool true), .is (.bool true), .is (.int .i64 p), .is (.int .i64 q), .is (Rv p q), .is (.bool z2), .is (.int .i64 p), .is (.int .i64 q), .is (Rv p q), .is (.bool z2), .is (.bool true), .is (.bool true), .is (.bool true), .is (.bool true), .is (.bool true)] (by kernel_rfl) (by kernel_rfl) ?_ ?_
      · intro i hi fb w' hb hd hx o ho
        match i, hi with
        | 0, _ =>
          obtain rfl := Option.some.inj ho
          have e : fb.tmps.getD 5 undef = .pointer (some ⟨w.heap.size, 0, none⟩) := hx 5 rfl
          have hr := load_rat w' _ _ _ (M1.out.1.below hb M1.out.1.lt)
          rw [← e] at hr
          exact runs_value rfl hr ⟨rfl, Below.refl _ _⟩
        | 1, _ =>
          obtain rfl := Option.some.inj ho
          dsimp only [Guarded]
          have e0 : fb.tmps.getD 69 undef = Rv a c := hd 0 (by kernel_rfl) (by decide)
          refine runs_call rfl (fun _ _ => rfl) ?_
          show Calls _ _ #[fb.tmps.getD 69 undef] w' _
          rw [e0]
          exact (V1.out w').mono fun e w'' h => ⟨_, h.1, rfl, h.2⟩
        | 2, _ =>
          obtain rfl := Option.some.inj ho
          have e : fb.tmps.getD 5 undef = .pointer (some ⟨w.heap.size, 0, none⟩) := hx 5 rfl
          have hr := load_rat w' _ _ _ (M1.out.1.below hb M1.out.1.lt)
          rw [← e] at hr
          exact runs_value rfl hr ⟨rfl, Below.refl _ _⟩
        | 3, _ =>
          obtain rfl := Option.some.inj ho
          dsimp only [Guarded]
          have e0 : fb.tmps.getD 71 undef = Rv a c := hd 2 (by kernel_rfl) (by decide)
          refine runs_call rfl (fun _ _ => rfl) ?_
          show Calls _ _ #[fb.tmps.getD 71 undef] w' _
          rw [e0]
          exact (V2.out w').mono fun e w'' h => ⟨_, h.1, rfl, h.2⟩
        | 4, _ =>
          obtain rfl := Option.some.inj ho
          have e0 : fb.tmps.getD 70 undef = .bool z1 := hd 1 (by kernel_rfl) (by decide)
          have e1 : fb.tmps.getD 72 undef = .bool z1 := hd 3 (by kernel_rfl) (by decide)
          refine runs_value rfl ?_ ⟨rfl, Below.refl _ _⟩
          rw [show fb.eval (.tmp 70) = _ from e0, show fb.eval (.tmp 72) = _ from e1]
          go_simp
        | 5, _ =>
          obtain rfl := Option.some.inj ho
          exact ⟨hd 4 (by kernel_rfl) (by decide), Below.refl _ _⟩
        | 6, _ =>
          obtain rfl := Option.some.inj ho
          refine ⟨true, hd 5 (by kernel_rfl) (by decide), fun _ => ?_, fun h => absurd rfl h⟩
          exact ⟨hx 0 rfl, Below.refl _ _⟩
        | 7, _ =>
          obtain rfl := Option.some.inj ho
          refine ⟨true, hd 5 (by kernel_rfl) (by decide), fun _ => ?_, fun h => absurd rfl h⟩
          exact ⟨hx 1 rfl, Below.refl _ _⟩
        | 8, _ =>
          obtain rfl := Option.some.inj ho
          refine ⟨true, hd 5 (by kernel_rfl) (by decide), fun _ => ?_, fun h => absurd rfl h⟩
          have e1 : fb.tmps.getD 75 undef = .int .i64 p := hd 6 (by kernel_rfl) (by decide)
          have e2 : fb.tmps.getD 76 undef = .int .i64 q := hd 7 (by kernel_rfl) (by decide)
          refine runs_value rfl ?_ ⟨rfl, Below.refl _ _⟩
          simp only [List.map_toArray, List.map_cons, List.map_nil]
          rw [show fb.eval (.tmp 75) = _ from e1, show fb.eval (.tmp 76) = _ from e2]
          go_simp
          first | rfl | skip
        | 9, _ =>
          obtain rfl := Option.some.inj ho
          refine ⟨true, hd 5 (by kernel_rfl) (by decide), fun _ => ?_, fun h => absurd rfl h⟩
          have e0 : fb.tmps.getD 77 undef = Rv p q := hd 8 (by kernel_rfl) (by decide)
          refine runs_call rfl (fun _ _ => rfl) ?_
          show Calls _ _ #[fb.tmps.getD 77 undef] w' _
          rw [e0]
          exact (V3.out w').mono fun e w'' h => ⟨_, h.1, rfl, h.2⟩
        | 10, _ =>
          obtain rfl := Option.some.inj ho
          refine ⟨true, hd 5 (by kernel_rfl) (by decide), fun _ => ?_, fun h => absurd rfl h⟩
          exact ⟨hx 0 rfl, Below.refl _ _⟩
        | 11, _ =>
          obtain rfl := Option.some.inj ho
          refine ⟨true, hd 5 (by kernel_rfl) (by decide), fun _ => ?_, fun h => absurd rfl h⟩
          exact ⟨hx 1 rfl, Below.refl _ _⟩
        | 12, _ =>
          obtain rfl := Option.some.inj ho
          refine ⟨true, hd 5 (by kernel_rfl) (by decide), fun _ => ?_, fun h => absurd rfl h⟩
          have e1 : fb.tmps.getD 79 undef = .int .i64 p := hd 10 (by kernel_rfl) (by decide)
          have e2 : fb.tmps.getD 80 undef = .int .i64 q := hd 11 (by kernel_rfl) (by decide)
          refine runs_value rfl ?_ ⟨rfl, Below.refl _ _⟩
          simp only [List.map_toArray, List.map_cons, List.map_nil]
          rw [show fb.eval (.tmp 79) = _ from e1, show fb.eval (.tmp 80) = _ from e2]
          go_simp
          first | rfl | skip
        | 13, _ =>
          obtain rfl := Option.some.inj ho
          refine ⟨true, hd 5 (by kernel_rfl) (by decide), fun _ => ?_, fun h => absurd rfl h⟩
          have e0 : fb.tmps.getD 81 undef = Rv p q := hd 12 (by kernel_rfl) (by decide)
          refine runs_call rfl (fun _ _ => rfl) ?_
          show Calls _ _ #[fb.tmps.getD 81 undef] w' _
          rw [e0]
          exact (V4.out w').mono fun e w'' h => ⟨_, h.1, rfl, h.2⟩
        | 14, _ =>
          obtain rfl := Option.some.inj ho
          refine ⟨true, hd 5 (by kernel_rfl) (by decide), fun _ => ?_, fun h => absurd rfl h⟩
          have e0 : fb.tmps.getD 78 undef = .bool z2 := hd 9 (by kernel_rfl) (by decide)
          have e1 : fb.tmps.getD 82 undef = .bool z2 := hd 13 (by kernel_rfl) (by decide)
          refine runs_value rfl ?_ ⟨rfl, Below.refl _ _⟩
          rw [show fb.eval (.tmp 78) = _ from e0, show fb.eval (.tmp 82) = _ from e1]
          go_simp
        | 15, _ =>
          obtain rfl := Option.some.inj ho
          have e1 : fb.tmps.getD 74 undef = .bool true := hd 5 (by kernel_rfl) (by decide)
          have e2 : fb.tmps.getD 83 undef = .bool true := hd 14 (by kernel_rfl) (by decide)
          exact runs_pick rfl true e1 ⟨e2, Below.refl _ _⟩
        | 16, _ =>
          obtain rfl := Option.some.inj ho
          exact ⟨hd 15 (by kernel_rfl) (by decide), Below.refl _ _⟩
        | 17, _ =>
          obtain rfl := Option.some.inj ho
          refine ⟨true, hd 16 (by kernel_rfl) (by decide), fun _ => ?_, fun h => absurd rfl h⟩
          refine runs_call rfl (fun _ _ => rfl) ?_
          show Calls _ _ #[] w' _
          exact (lives_any w' (D5.out.below hb (Nat.le_refl _))).mono fun e w'' h => ⟨_, h.1, rfl, h.2⟩
        | 18, _ =>
          obtain rfl := Option.some.inj ho
          have e1 : fb.tmps.getD 85 undef = .bool true := hd 16 (by kernel_rfl) (by decide)
          have e2 : fb.tmps.getD 86 undef = .bool true := hd 17 (by kernel_rfl) (by decide)
          exact runs_pick rfl true e1 ⟨e2, Below.refl _ _⟩
        | n + 19, h => exact absurd h (by simp)
      · intro vals w' hb hf
        have e18 : vals 18 = .bool true := hf 18 (by decide)
        simp only [puts, List.length_cons, List.length_nil, Nat.zero_add, Nat.reduceAdd, List.drop_succ_cons, List.drop_zero, e18]
        have B2 := Lib.hid (M1.out.2.2.2.trans (hb.mono M1.out.2.2.2.size))
        clear e18 hf hb M1
        go_frame
        go_wp2_with fail
        go_ret
        exact ⟨rfl, B2.out⟩
end Go.Proofs.YtbkgigbalnmbkaaDoor
