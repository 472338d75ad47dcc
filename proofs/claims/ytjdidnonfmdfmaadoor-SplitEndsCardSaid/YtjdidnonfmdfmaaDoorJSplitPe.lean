import Derived.Test.YtjdidnonfmdfmaaDoorJRooms
import Derived.Test.YtjdidnonfmdfmaaDoorJSplitL2
import Derived.Test.YtjdidnonfmdfmaaDoorJSplitPd

section
/- split: All of a split whose total lies at an end. -/



namespace Go.Proofs.YtjdidnonfmdfmaaDoor
open Go.RowKit Go.Shelf
set_option linter.unusedVariables false
set_option maxRecDepth 100000
attribute [local go_sem] Oper.semAt_some

set_option maxHeartbeats 1000000 in
theorem parts_any (s : ByteArray) (A : Option Addr) (len cap : Nat) (t n lo hi : Int) (w : World) :
    Calls Tryd.prog 29 #[spl s A len cap t n lo hi] w fun e w' =>
      e = .returned (.func (.func 38) #[] #[.pointer (some ⟨w.heap.size, 0, none⟩)]) ∧ Blk w' w.heap.size (Sc s A len cap t n lo hi) 28 ∧ Below w.heap.size w w' := by
  have hmf : ∀ (fn : Fn) (first cap : Array Value) (w : World), (Instr.makeFunc fn first cap).run Tryd.prog w = .ok (.func fn first cap) w := fun _ _ _ _ => rfl
  rw [spl_def]
  go_enter Tryd.func29, Tryd.ntmps29
  go_wp2_with fail
  go_ret
  exact ⟨rfl, Blk.new w (Sc s A len cap t n lo hi) _, (Below.refl _ _).alloc (Nat.le_refl _) _⟩

theorem KAp.alloc {X B : Nat} (W : World) (o : Obj) (hX : X ≤ W.heap.size) : KAp X B W (W.alloc o) := KAp.of ((Below.refl _ _).alloc (Nat.le_refl _) _) hX
theorem KAp.setCell {X B : Nat} (W : World) (a : Addr) (v : Value) (h1 : X ≤ a.block) (h2 : a.block < B) : KAp X B W (W.setCell a v) :=
  ⟨by rw [size_setCell]; exact Nat.le_refl _, fun k hk => heap_setCell_other W a k v (by omega), fun k o hB hk _ => (heap_setCell_other W a k v (by omega)).trans hk⟩

set_option maxHeartbeats 4000000 in
theorem allEnds_ok : AllEnds := by
  intro s A cap p n t lo hi v w hs hp6 hpc hcm hrd hI hn hlo hlh hhi hends hT
  have hB : Bounds s cap p lo hi := ⟨hs, hp6, hpc, hcm, hI, hlo, hlh, hhi⟩
  have hm1 := mul_in (l := (n : Int)) (v := lo) (by omega) (by omega) hlo (by omega)
  have hnv : t = n * v ∧ (n = 1 ∨ v = lo ∨ v = hi) ∧ -1048576 ≤ v ∧ v ≤ 1048576 ∧ rangeE t n lo hi = 0 := by
    have a := Int.mul_le_mul_of_nonneg_left hlh (show (0 : Int) ≤ n by omega)
    rcases hends with ⟨rfl, rfl⟩ | ⟨rfl, rfl⟩ | ⟨rfl, rfl, h1, h2⟩
    · exact ⟨rfl, .inr (.inl rfl), by omega, by omega, by unfold rangeE; rw [if_neg (by omega)]⟩
    · exact ⟨rfl, .inr (.inr rfl), by omega, by omega, by unfold rangeE; rw [if_neg (by omega)]⟩
    · exact ⟨by simp, .inl rfl, by omega, by omega, by unfold rangeE; rw [if_neg (by omega)]⟩
  obtain ⟨ht, hv, hv0, hv1, hz⟩ := hnv
  have cV := fun W => splitValid_in s A p.length cap t n lo hi W hs hp6 (by omega) (by omega) hlo hlh hhi
  rw [hz] at cV
  have hmk := fun W => make_room W n (n : Int) rfl hn
  have cP := fun W => parts_any s A p.length cap t n lo hi W
  obtain ⟨N, hN⟩ : ∃ N, N = p.length := ⟨_, rfl⟩
  have HB := Lib.hid (And.intro hB (And.intro ht (And.intro hv (And.intro hv0 (And.intro hv1 (And.intro hrd (And.intro hT hN)))))))
  have hsz : (List.replicate n v).length = n := by simp
  have HL := Lib.hid hsz
  unfold RowR
  rw [hsz]
  simp only [← hN, spl_def] at cV cP ⊢
  have CV := Lib.hid cV
  have CP := Lib.hid cP
  have HM := Lib.hid hmk
  clear hs hp6 hpc hcm hrd hI hlo hlh hhi hends hT hB hm1 ht hv hv0 hv1 hz cV cP hN hsz hmk
  refine (callsIn_wide (n := 5)).1 ?_
  refine callsIn_of_wp_marks Tryd.func14 rfl trivial ?_ rfl
  simp only [Tryd.ntmps14, List.size_toArray, List.length_cons, List.length_nil, Nat.reduceAdd, Nat.reduceSub, Array.replicate_succ, Array.replicate_zero, List.push_toArray, List.append_toArray, List.nil_append, List.cons_append]
  gi_wp2
  refine ⟨trivial, (callsIn_wide.2 (CV.out _)).mono ?_⟩
  rintro e w1 ⟨rfl, hb⟩
  have k0 := (Blk.new w (Sc s A N cap t n lo hi) 28).below hb (by simp)
  have c3 := k0.cell 3 _ rfl
  have hmk := HM.out w1
  obtain ⟨W0, hW0⟩ : ∃ W0, W0 = (w1.alloc (.cells (List.replicate n (Value.int .i64 0)).toArray 3)).alloc (.cells #[.slice (some ⟨w1.heap.size, 0, none⟩) 0 n] 22) := ⟨_, rfl⟩
  have hW1 : W0 = (w1.alloc (.cells (Array.replicate n (Value.int .i64 0)) 3)).alloc (.cells #[.slice (some ⟨w1.heap.size, 0, none⟩) 0 n] 22) := by rw [hW0]; simp
  have hsz : W0.heap.size = w1.heap.size + 2 := by rw [hW0]; simp
  have hb0 : Below w1.heap.size w1 W0 := by rw [hW0]; exact ((Below.refl _ _).alloc (Nat.le_refl _) _).alloc (by simp) _
  have hG : Grows w1.heap.size (w1.heap.size + 1) n w1 [] W0 := by
    have k0 := Room.new w1 n
    have k1 := Blk.new (w1.alloc (.cells (List.replicate n (Value.int .i64 0)).toArray 3)) [.slice (some ⟨w1.heap.size, 0, none⟩) 0 n] 22
    simp only [World.size_alloc] at k1
    refine ⟨?_, ?_, hb0⟩ <;> rw [hW0]
    · exact k1
    · exact k0.alloc _
  have k1 := k0.below hb0 k0.lt
  have d0 := k1.cell 0 _ rfl
  have d1 := k1.cell 1 _ rfl
  have d2 := k1.cell 2 _ rfl
  have d3 := k1.cell 3 _ rfl
  have d4 := k1.cell 4 _ rfl
  have d5 := k1.cell 5 _ rfl
  rw [hW1] at d0 d1 d2 d3 d4 d5
  have HG := Lib.hid (And.intro hG (And.intro hW1 (And.intro hsz (And.intro hb0 (And.intro k0 hb)))))
  clear hG hW0 hW1 hsz hb0 k1 k0 hb
  gi_wp2
  rw [← HG.out.2.1]
  have cP := CP.out W0
  rw [HG.out.2.2.1] at cP
  refine ⟨trivial, (callsIn_wide.2 cP).mono ?_⟩
  rintro e W1 ⟨rfl, hS, hb1⟩
  clear hmk cP d0 d1 d2 d3 d4 d5 c3
  have hb1s := hb1.size
  have hG1 : Grows w1.heap.size (w1.heap.size + 1) n w1 [] W1 :=
    ⟨HG.out.1.v.below hb1 (by omega), ⟨HG.out.1.row.1, HG.out.1.row.2.below hb1 (by omega)⟩, HG.out.1.bel.trans (hb1.mono (by have := HG.out.2.2.1; omega))⟩
  have hw1 : Below w.heap.size w w1 := ((Below.refl _ _).alloc (Nat.le_refl _) _).trans (HG.out.2.2.2.2.2.mono (by simp))
  have hW1s : w1.heap.size + 2 ≤ W1.heap.size := by have := HG.out.2.2.1; omega
  have hw1s := hw1.size
  have hWb : Below w1.heap.size w1 W1 := hG1.bel
  have hpa : PathAt s A cap p w1.heap.size W1 := ⟨((HB.out.2.2.2.2.2.1.below hw1).more hw1s).below hWb, (HB.out.2.2.2.2.2.2.1.next hw1).next hWb, (HB.out.2.2.2.2.2.2.1.next hw1).lt, by omega⟩
  have hS2 : Blk W1 (w1.heap.size + 2) (Sc s A p.length cap t n lo hi) 28 := by rw [← HB.out.2.2.2.2.2.2.2]; exact hS
  have hps := parts1_stops 4 s A cap p n t lo hi v w1.heap.size (w1.heap.size + 2) (w1.heap.size + 2) W1 HB.out.1 hpa hS2 (by omega) hW1s hn HB.out.2.1 HB.out.2.2.1 HB.out.2.2.2.1 HB.out.2.2.2.2.1
  have HW := Lib.hid hw1
  have HLv := Lib.hid HL.out
  clear hS hS2 hpa hb1 hb1s hw1 hWb
  gi_wp2
  refine wpIn_rangeFunc_ownF rfl (by omega) (gf := 38) (lb := #[.pointer (some ⟨w1.heap.size + 2, 0, none⟩)]) rfl trivial (enters_of Tryd.func38 (by kernel_rfl) rfl) hps
    KAp.trans (fun W l o o' hl h hc hw => KAp.put W l o o' (by omega) h hc) (Below.refl _ _) (fun _ => rfl)
    (Grows w1.heap.size (w1.heap.size + 1) n w1) (fun _ _ _ => False) (grows_own _ _ _ _ _ (by omega)) (fun _ _ _ _ _ hs _ _ => hs) hG1
    (fun x => { tmps := #[.agg #[.string s, .slice A N cap, .int .i64 t, .int .i64 n, .int .i64 lo, .int .i64 hi], .pointer (some ⟨w.heap.size, 0, none⟩), .slice none 0 0, .int .i64 0, .int .i64 0, .pointer (some ⟨w1.heap.size + 1, 0, none⟩), .int .i64 x,
      .agg #[.string s, .slice A N cap, .int .i64 t, .int .i64 n, .int .i64 lo, .int .i64 hi], .int .i64 0, .int .i64 0, .bool false, undef, .pointer (some ⟨w.heap.size, 3, none⟩), .int .i64 n, .slice (some ⟨w1.heap.size, 0, none⟩) 0 n,
      .agg #[.string s, .slice A N cap, .int .i64 t, .int .i64 n, .int .i64 lo, .int .i64 hi], .func (.func 38) #[] #[.pointer (some ⟨w1.heap.size + 2, 0, none⟩)], .int .i64 x, undef, undef, undef, undef, undef], defers := [] }) ?assign ?body ?done ?stop
  case assign =>
    intro l x W K hK
    gi_wp2
    exact hK
  case body =>
    rintro l pre x W hg hlt
    have c5 := hg.v.cell 0 _ rfl
    have hg2 := hg.push x (by omega) (by omega) (Nat.le_refl _) (by omega) (.cells #[.int .i64 x] 3)
    have hsW := hg.bel.size
    have HG2 := Lib.hid (And.intro hg (And.intro hg2 hsW))
    have hrow := hg.row.alloc (.cells #[.int .i64 x] 3)
    have hcv := (Blk.new W [.int .i64 x] 3).cell 0 _ rfl
    have hv3 := ((hg.v.alloc (.cells #[.int .i64 x] 3)).other ⟨w1.heap.size, pre.length, none⟩ (iv x) (by show w1.heap.size + 1 ≠ w1.heap.size; omega))
    have c9 := hv3.cell 0 _ rfl
    have f9 := hv3.frozen 0
    have HR := Lib.hid (And.intro hrow hcv)
    clear hg hg2 hv3 hrow hcv
    gi_wp2_with (gi_at_builtin; refine wpListIn_append_room1 _ rfl (.tmp 18) (.tmp 20) rfl w1.heap.size n pre x W.heap.size pre.length rfl rfl rfl HR.out.1 (by omega) HR.out.2 ?_)
    exact ⟨((KeepsOthers.alloc _ _).trans (KeepsOthers.setCell _ _ _)).trans (KeepsOthers.setCell _ _ _),
      ((KAp.alloc _ _ hsW).trans (KAp.setCell _ _ _ (Nat.le_refl _) (by show w1.heap.size < w1.heap.size + 2; omega))).trans (KAp.setCell _ _ _ (by show w1.heap.size ≤ w1.heap.size + 1; omega) (by show w1.heap.size + 1 < w1.heap.size + 2; omega)), HG2.out.2.1⟩
  case done =>
    rintro D xs W hD rfl hg hdf
    have c5 := hg.v.cell 0 _ rfl
    rw [HLv.out] at c5
    have HD := Lib.hid (And.intro ((grows_own _ _ _ _ _ (Nat.le_refl _)).putObj (B := w1.heap.size) (.deferred none) hg (by omega) hdf rfl) hD)
    clear hg
    gi_wp2
    refine ⟨by simp, .inl ⟨_, _, rfl, run_takeDeferred hdf, ?_⟩⟩
    refine ⟨_, results_tmp2 rfl _ _ _, ?_⟩
    have hr := HD.out.1.row
    have hbw := HW.out.trans (HD.out.1.bel.mono HW.out.size)
    refine ⟨some ⟨w1.heap.size, 0, none⟩, n, rfl, fun _ => ⟨w1.heap.size, 0, rfl, hr.2.lt, fun j u hu => ?_⟩, Nat.le_refl _, by unfold maxLen; omega, hbw⟩
    rw [Nat.zero_add]
    refine hr.2.cell j u ?_
    rw [List.getElem?_append_left (List.getElem?_eq_some_iff.1 hu).1]
    exact hu
  case stop =>
    rintro D c pre W _ _ h _
    exact h.elim
end Go.Proofs.YtjdidnonfmdfmaaDoor
end

