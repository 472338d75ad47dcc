/- The walk of the statement RatioWorks. -/
import Derived.Test.YtbkgigbalnmbkaaDoorRatioSa
import Derived.Test.YtbkgigbalnmbkaaDoorRatioPp
import Derived.Test.YtbkgigbalnmbkaaDoorRatioPm
namespace Go.Proofs.YtbkgigbalnmbkaaDoor
open Go.RowKit
set_option linter.unusedVariables false
set_option maxRecDepth 100000

theorem run_indexAt_rats (b n cap k : Nat) (hk : k < n) (w : World) : (Instr.indexAt 33 (.slice (some ⟨b, 0, none⟩) n cap) (.int .i64 (k : Int))).run Tryd.prog w = .ok (.pointer (some ⟨b, k * 2, none⟩)) w := by
  have h1 : (k : Int) < n := by omega
  have h2 : (0 : Int) ≤ k := by omega
  go_simp
/-- Fractions in a row: their cells. -/
def flatR : List (Int × Int) → List Value
  | [] => []
  | (a, b) :: t => .int .i64 a :: .int .i64 b :: flatR t
theorem flatR_at : ∀ (L : List (Int × Int)) (n : Nat), n < L.length → ∀ j, j < 2 → (flatR L)[n * 2 + j]? = (Rc (L.getD n (0, 0)).1 (L.getD n (0, 0)).2)[j]?
  | [], n, h, _, _ => absurd h (by simp)
  | (a, b) :: t, 0, _, 0, _ => rfl
  | (a, b) :: t, 0, _, 1, _ => rfl
  | (a, b) :: t, 0, _, j + 2, h => absurd h (by omega)
  | (a, b) :: t, n + 1, h, j, hj => by
    have := flatR_at t n (by simpa using h) j hj
    rw [show (n + 1) * 2 + j = (n * 2 + j) + 1 + 1 by omega]
    simpa [flatR] using this
theorem getR_in {L : List (Int × Int)} (h : ∀ e ∈ L, In64 e.1 ∧ In64 e.2) (j : Nat) (hj : j < L.length) : In64 (L.getD j (0, 0)).1 ∧ In64 (L.getD j (0, 0)).2 := by
  refine h _ ?_
  rw [List.getD_eq_getElem?_getD, List.getElem?_eq_getElem hj]
  simp
theorem load_rats {W : World} {b : Nat} {L : List (Int × Int)} (h : Blk W b (flatR L) 23) (n : Nat) (hn : n < L.length) (P Q : Int) (he : L.getD n (0, 0) = (P, Q)) : (Instr.loadAt 23 (.pointer (some ⟨b, n * 2, none⟩))).run Tryd.prog W = .ok (Rv P Q) W := by
  have k := flatR_at L n hn
  rw [he] at k
  exact run_loadAt_mid (P := Tryd.prog) W b (n * 2) 23 (Rc P Q) _ (h.sub (n * 2) (Rc P Q) k) Tryd.underlying23 rfl (by kernel_rfl)
/-- The row that the loops read. -/
def Kept (w : World) (b : Nat) (L : List (Int × Int)) (W : World) : Prop := Blk W b (flatR L) 23 ∧ Below w.heap.size w W
theorem Kept.step {w W W' : World} {b : Nat} {L : List (Int × Int)} (h : Kept w b L W) (hb : Below W.heap.size W W') : Kept w b L W' := ⟨h.1.below hb h.1.lt, h.2.trans (hb.mono h.2.size)⟩

set_option maxHeartbeats 16000000 in
theorem works_walk (A : Option Addr) (c : Nat) (l : List Int) (p q p' q' : Int) (w : World) (hl : l.length ≤ 9223372036854775807) (hc : l.length ≤ c) (hr : Rd w w.heap.size A (l.map iv)) (hn : ∀ n ∈ l, In64 n)
    (hp : In64 p) (hq : In64 q) (hp' : In64 p') (hq' : In64 q') (hD : Door w) :
    Calls Tryd.prog 4 #[.slice A l.length c, Rv p q, Rv p' q'] w (Tells true w) := by
  have ha := fun W i k (h : Below w.heap.size w W) (hi : In64 i) (hk : In64 k) => at_any A c l i k W hl hc ((hr.below h).more h.size) hn hi hk
  obtain ⟨n, hnl⟩ : ∃ n, n = l.length := ⟨_, rfl⟩
  obtain ⟨v, hv⟩ : ∃ v : Int → Int → Int, v = fun i k => atv l i k := ⟨_, rfl⟩
  have hva : ∀ i k, In64 k → In64 (v i k) := fun i k h => by rw [hv]; exact atv_in h
  have ha2 : ∀ W i k, Below w.heap.size w W → In64 i → In64 k → Calls Tryd.prog 16 #[.slice A n c, .int .i64 i, .int .i64 k] W fun e w' => e = .returned (.int .i64 (v i k)) ∧ w' = W := fun W i k h hi hk => by
    rw [hnl, hv]; exact ha W i k h hi hk
  rw [← hnl]
  have HA := Lib.hid ha2
  have HV := Lib.hid hva
  have HI := Lib.hid (And.intro hp (And.intro hq (And.intro hp' hq')))
  have HD := Lib.hid hD
  clear ha ha2 hva hv hnl hl hc hr hn hp hq hp' hq' hD
  show Calls _ _ #[_, .agg #[.int .i64 p, .int .i64 q], .agg #[.int .i64 p', .int .i64 q']] _ _
  have R := Lib.hid (Rats.two w p q p' q')
  have B := Lib.hid (below_two (Below.refl w.heap.size w) p q p' q')
  go_enter Tryd.func4, Tryd.ntmps4
  go_wp2_with fail
  refine (HA.out _ 0 1600 B.out ⟨by decide, by decide⟩ ⟨by decide, by decide⟩).mono ?_
  rintro e w' ⟨rfl, rfl⟩
  go_wp2_with fail
  refine (HA.out _ 1 120 B.out ⟨by decide, by decide⟩ ⟨by decide, by decide⟩).mono ?_
  rintro e w' ⟨rfl, rfl⟩
  go_wp2_with fail
  refine (some_any _ _ _ (HV.out _ _ ⟨by decide, by decide⟩) (HV.out _ _ ⟨by decide, by decide⟩)).mono ?_
  rintro e v1 ⟨x, y, rfl, ho, hb⟩
  have HO1 := Lib.hid ho
  have q := R.out.step hb
  have hB := B.out.trans (hb.mono B.out.size)
  clear R B hb ho
  obtain ⟨⟨cl0, ch0⟩, lt0⟩ := q.get (.head _)
  obtain ⟨⟨cl1, ch1⟩, lt1⟩ := q.get (.tail _ (.head _))
  have R := Lib.hid (q.new x y)
  have B := Lib.hid (hB.alloc hB.size (.cells (Rc x y).toArray 23))
  clear q hB
  simp only [Rv_def]
  go_wp2_with fail
  generalize v1.heap.size = k1 at *
  refine (HA.out _ 2 1600 B.out ⟨by decide, by decide⟩ ⟨by decide, by decide⟩).mono ?_
  rintro e w' ⟨rfl, rfl⟩
  go_wp2_with fail
  refine (HA.out _ 3 120 B.out ⟨by decide, by decide⟩ ⟨by decide, by decide⟩).mono ?_
  rintro e w' ⟨rfl, rfl⟩
  go_wp2_with fail
  refine (some_any _ _ _ (HV.out _ _ ⟨by decide, by decide⟩) (HV.out _ _ ⟨by decide, by decide⟩)).mono ?_
  rintro e v2 ⟨x', y', rfl, ho, hb⟩
  have HO2 := Lib.hid ho
  have q := R.out.step hb
  have hB := B.out.trans (hb.mono B.out.size)
  clear cl0 ch0 lt0 cl1 ch1 lt1
  clear R B hb ho
  obtain ⟨⟨cl0, ch0⟩, lt0⟩ := q.get (.head _)
  obtain ⟨⟨cl1, ch1⟩, lt1⟩ := q.get (.tail _ (.head _))
  obtain ⟨⟨cl2, ch2⟩, lt2⟩ := q.get (.tail _ (.tail _ (.head _)))
  have R := Lib.hid (q.new x' y')
  have B := Lib.hid (hB.alloc hB.size (.cells (Rc x' y').toArray 23))
  clear q hB
  simp only [Rv_def]
  go_wp2_with fail
  clear cl0 ch0 lt0 cl1 ch1 lt1 cl2 ch2 lt2
  obtain ⟨L, hL⟩ : ∃ L : List (Int × Int), L = [(x, y), (x', y'), (p, q), (p', q'), (0, 0), (-2147483648, 1), (1, 2147483648)] := ⟨_, rfl⟩
  have l7 : L.length = 7 := by rw [hL]; rfl
  have li : ∀ e ∈ L, In64 e.1 ∧ In64 e.2 := by
    rw [hL]; intro e he
    simp only [List.mem_cons, List.not_mem_nil, or_false] at he
    rcases he with rfl | rfl | rfl | rfl | rfl | rfl | rfl
    · exact Ok_in HO1.out
    · exact Ok_in HO2.out
    · exact ⟨HI.out.1, HI.out.2.1⟩
    · exact ⟨HI.out.2.2.1, HI.out.2.2.2⟩
    · exact ⟨⟨by decide, by decide⟩, ⟨by decide, by decide⟩⟩
    · exact ⟨⟨by decide, by decide⟩, ⟨by decide, by decide⟩⟩
    · exact ⟨⟨by decide, by decide⟩, ⟨by decide, by decide⟩⟩
  have hS : Kept w (v2.heap.size + 1) L ((v2.alloc (.cells (Rc x' y').toArray 23)).alloc (.cells (flatR [(x, y), (x', y'), (p, q), (p', q'), (0, 0), (-2147483648, 1), (1, 2147483648)]).toArray 23)) := by
    rw [← hL]
    exact ⟨(two_new v2 (Rc x' y') (flatR L) 23 23).2.1, B.out.alloc B.out.size _⟩
  have S0 := Lib.hid hS
  have HM := Lib.hid (And.intro l7 li)
  clear hS hL l7 li R B HO1 HO2 HI HA HV
  generalize v2.heap.size + 1 = bb at *
  go_loopw [10] (fun i wr => ∃ n : Nat, n ≤ 7 ∧ i = .int .i64 n ∧ Kept w bb L wr) (fun i _ => 7 - (intOf i).toNat)
  case atStart => exact ⟨0, by omega, rfl, S0.out⟩
  case round =>
    obtain ⟨n, hn, rfl, hM⟩ := hrel
    have M1 := Lib.hid hM
    clear hM S0
    by_cases hlt : n < 7
    · have i1 : (n : Int) < 7 := by omega
      have i0 : (0 : Int) ≤ n := by omega
      obtain ⟨wo, rfl⟩ : ∃ wo : World, wo = wr := ⟨_, rfl⟩
      go_wp2_with fail
      go_loopw [11] (fun i wr => ∃ k : Nat, k ≤ 7 ∧ i = .int .i64 k ∧ Kept w bb L wr) (fun i _ => 7 - (intOf i).toNat)
      case atStart => exact ⟨0, by omega, rfl, M1.out⟩
      case round =>
        obtain ⟨k, hk, rfl, hM⟩ := hrel
        have M2 := Lib.hid hM
        clear hM M1
        by_cases hlk : k < 7
        · have j1 : (k : Int) < 7 := by omega
          have j0 : (0 : Int) ≤ k := by omega
          have in1 := getR_in HM.out.2 n (by rw [HM.out.1]; exact hlt)
          have in2 := getR_in HM.out.2 k (by rw [HM.out.1]; exact hlk)
          obtain ⟨P, Q, hPQ⟩ : ∃ P Q, L.getD n (0, 0) = (P, Q) := ⟨_, _, rfl⟩
          obtain ⟨P', Q', hPQ'⟩ : ∃ P Q, L.getD k (0, 0) = (P, Q) := ⟨_, _, rfl⟩
          rw [hPQ] at in1
          rw [hPQ'] at in2
          have g1 := fun W (h : Door W) => same_any P Q P' Q' W in1.1 in1.2 in2.1 in2.2 h
          have hl1 := fun W (h : Kept w bb L W) => load_rats h.1 n (by rw [HM.out.1]; exact hlt) P Q hPQ
          have hl2 := fun W (h : Kept w bb L W) => load_rats h.1 k (by rw [HM.out.1]; exact hlk) P' Q' hPQ'
          have G1 := Lib.hid g1
          have L1 := Lib.hid hl1
          have L2 := Lib.hid hl2
          have HN := Lib.hid (And.intro hlt hlk)
          clear g1 hl1 hl2 hPQ hPQ' in1 in2
          go_wp2_with fail
          refine wp_region_guarded [42, 43, 44, 45, 46, 47, 48, 49, 50] [.is (.slice (some ⟨bb, 0, none⟩) 7 7), .is (.int .i64 (n : Int)), .is (.pointer (some ⟨bb, n * 2, none⟩)), .is (Rv P Q), .is (.slice (some ⟨bb, 0, none⟩) 7 7), .is (.int .i64 (k : Int)), .is (.pointer (some ⟨bb, k * 2, none⟩)), .is (Rv P' Q'), .is (.bool true)] (by kernel_rfl) (by kernel_rfl) ?_ ?_
          · intro i hi fb w' hb hd hx o ho
            match i, hi with
            | 0, _ =>
              obtain rfl := Option.some.inj ho
              exact ⟨hx 9 rfl, Below.refl _ _⟩
            | 1, _ =>
              obtain rfl := Option.some.inj ho
              exact ⟨hx 10 rfl, Below.refl _ _⟩
            | 2, _ =>
              obtain rfl := Option.some.inj ho
              have e1 : fb.tmps.getD 42 undef = .slice (some ⟨bb, 0, none⟩) 7 7 := hd 0 (by kernel_rfl) (by decide)
              have e2 : fb.tmps.getD 43 undef = .int .i64 (n : Int) := hd 1 (by kernel_rfl) (by decide)
              have hv := run_indexAt_rats bb 7 7 n HN.out.1 w'
              rw [← e1, ← e2] at hv
              exact runs_value rfl hv ⟨rfl, Below.refl _ _⟩
            | 3, _ =>
              obtain rfl := Option.some.inj ho
              have e1 : fb.tmps.getD 44 undef = .pointer (some ⟨bb, n * 2, none⟩) := hd 2 (by kernel_rfl) (by decide)
              have hr := L1.out w' (M2.out.step hb)
              rw [← e1] at hr
              exact runs_value rfl hr ⟨rfl, Below.refl _ _⟩
            | 4, _ =>
              obtain rfl := Option.some.inj ho
              exact ⟨hx 9 rfl, Below.refl _ _⟩
            | 5, _ =>
              obtain rfl := Option.some.inj ho
              exact ⟨hx 11 rfl, Below.refl _ _⟩
            | 6, _ =>
              obtain rfl := Option.some.inj ho
              have e1 : fb.tmps.getD 46 undef = .slice (some ⟨bb, 0, none⟩) 7 7 := hd 4 (by kernel_rfl) (by decide)
              have e2 : fb.tmps.getD 47 undef = .int .i64 (k : Int) := hd 5 (by kernel_rfl) (by decide)
              have hv := run_indexAt_rats bb 7 7 k HN.out.2 w'
              rw [← e1, ← e2] at hv
              exact runs_value rfl hv ⟨rfl, Below.refl _ _⟩
            | 7, _ =>
              obtain rfl := Option.some.inj ho
              have e1 : fb.tmps.getD 48 undef = .pointer (some ⟨bb, k * 2, none⟩) := hd 6 (by kernel_rfl) (by decide)
              have hr := L2.out w' (M2.out.step hb)
              rw [← e1] at hr
              exact runs_value rfl hr ⟨rfl, Below.refl _ _⟩
            | 8, _ =>
              obtain rfl := Option.some.inj ho
              dsimp only [Guarded]
              have e0 : fb.tmps.getD 45 undef = Rv P Q := hd 3 (by kernel_rfl) (by decide)
              have e1 : fb.tmps.getD 49 undef = Rv P' Q' := hd 7 (by kernel_rfl) (by decide)
              refine runs_call rfl (fun _ _ => rfl) ?_
              show Calls _ _ #[fb.tmps.getD 45 undef, fb.tmps.getD 49 undef] w' _
              rw [e0, e1]
              exact (G1.out w' (HD.out.below (M2.out.step hb).2 (Nat.le_refl _))).mono fun e w'' h => ⟨_, h.1, rfl, h.2⟩
          · intro vals w' hb hf
            have ev : vals 8 = .bool true := hf 8 (by decide)
            simp only [puts, List.length_cons, List.length_nil, Nat.zero_add, Nat.reduceAdd, List.drop_succ_cons, List.drop_zero, ev]
            have M3 := Lib.hid (M2.out.step hb)
            clear ev hf hb M2 G1 L1 L2
            go_frame
            go_wp2_with fail
            refine ⟨⟨k + 1, by omega, by simp, M3.out⟩, ?_⟩
            simp [intOf]; omega
        · have j1 : ¬ ((k : Int) < 7) := by omega
          go_wp2_with fail
          refine ⟨⟨n + 1, by omega, by simp, M2.out⟩, ?_⟩
          simp [intOf]; omega
    · have i1 : ¬ ((n : Int) < 7) := by omega
      go_wp2_with fail
      refine (lives_any _ (HD.out.below M1.out.2 (Nat.le_refl _))).mono ?_
      rintro e w9 ⟨rfl, hb⟩
      have B9 := Lib.hid (M1.out.2.trans (hb.mono M1.out.2.size))
      clear hb M1
      go_wp2_with fail
      go_ret
      exact ⟨rfl, B9.out⟩
end Go.Proofs.YtbkgigbalnmbkaaDoor
