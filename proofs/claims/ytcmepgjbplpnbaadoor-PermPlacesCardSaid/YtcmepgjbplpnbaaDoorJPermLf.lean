import Derived.Test.YtcmepgjbplpnbaaDoorJFacts
import Derived.Test.YtcmepgjbplpnbaaDoorJPermLd

section
/- The law PermPlaces. (gen_places.py writes this text.) -/


namespace Go.Proofs.YtcmepgjbplpnbaaDoor
open Go.RowKit
set_option linter.unusedVariables false
set_option maxRecDepth 100000

theorem run_indexAt_ints (b n cap k : Nat) (hk : k < n) (w : World) : (Instr.indexAt 22 (.slice (some ⟨b, 0, none⟩) n cap) (.int .i64 (k : Int))).run Tryd.prog w = .ok (.pointer (some ⟨b, k, none⟩)) w := by
  have h1 : (k : Int) < n := by omega
  have h2 : (0 : Int) ≤ k := by omega
  go_simp
theorem run_get (w : World) (b k : Nat) (v : Int) (h : w.cell? ⟨b, k, none⟩ = some (.int .i64 v)) : (Instr.loadAt 3 (.pointer (some ⟨b, k, none⟩))).run Tryd.prog w = .ok (.int .i64 v) w := by
  go_simp
theorem run_max1 (w : World) (z : Int) (ts : Array TypeId) (t : TypeId) : (Builtin.max_ ts t #[.int .i64 z, .int .i64 1]).run Tryd.prog w = .ok (.int .i64 (max z 1)) w := by
  have e : (if 1 > z then 1 else z) = max z 1 := by
    rw [Int.max_def]
    split <;> split <;> omega
  simp [Builtin.max_, Builtin.max2, e]
theorem run_dec (w : World) (z : Int) (x y : Operand) : (do eqGuard BinOp.sub 3 x y (.int .i64 z) (.int .i64 1); binOp BinOp.sub 3 (.int .i64 z) (.int .i64 1)).run Tryd.prog w = .ok (.int .i64 (IntKind.i64.wrap (z - 1))) w := by
  go_simp
theorem run_ext0 (w : World) (a e : Int) : (Instr.extract (.tuple #[.int .i64 a, .int .i64 e]) 0).run Tryd.prog w = .ok (.int .i64 a) w := by go_simp
theorem run_ext1 (w : World) (a e : Int) : (Instr.extract (.tuple #[.int .i64 a, .int .i64 e]) 1).run Tryd.prog w = .ok (.int .i64 e) w := by go_simp
theorem build4 (w : World) (a b c d : Int) : (Instr.buildSlice 22 4 #[(0, .int .i64 a), (1, .int .i64 b), (2, .int .i64 c), (3, .int .i64 d)]).run Tryd.prog w = .ok (.slice (some ⟨w.heap.size, 0, none⟩) 4 4) (w.alloc (.cells #[.int .i64 a, .int .i64 b, .int .i64 c, .int .i64 d] 3)) := by
  go_simp
/-- A row of its own, in its slice. -/
def Fact.blk (xs : List Value) (n : Nat) (t : TypeId) : Fact :=
  ⟨fun v w => ∃ g, v = .slice (some ⟨g, 0, none⟩) n n ∧ Blk w g xs t, fun _ _ _ ⟨g, h1, h2⟩ hb => ⟨g, h1, h2.below hb h2.lt⟩⟩

set_option maxHeartbeats 8000000 in
theorem places_walk (s : ByteArray) (A : Option Addr) (cap : Nat) (l : List Int) (n i : Int) (w : World) (hr : Rd w w.heap.size A (l.map iv)) (hc : l.length ≤ cap) (hm : cap ≤ maxLen) (hI : ∀ n ∈ l, M.I64 n) (hn : M.I64 n) (hi : M.I64 i) (hR : RTab w) (hT : PTab w) :
    Calls Tryd.prog 3 #[.string s, .slice A l.length cap, .int .i64 n, .int .i64 i] w (Tells true w) := by
  have cT := few_path A cap l w hr hc hm
  have hpl : (l.take 10).length ≤ 10 := by rw [List.length_take]; omega
  have hpI : ∀ n ∈ l.take 10, M.I64 n := fun n h => hI n (List.mem_of_mem_take h)
  obtain ⟨p, hp⟩ : ∃ p, p = l.take 10 := ⟨_, rfl⟩
  obtain ⟨N, hN⟩ : ∃ N, N = l.length := ⟨_, rfl⟩
  rw [← hp] at cT hpl hpI
  rw [← hN] at cT ⊢
  have cS := fun W => shortAt_any 34 s W (by decide)
  have hqs := shortAt_size 34 s
  obtain ⟨q, hq⟩ : ∃ q, q = shortAt 34 s := ⟨_, rfl⟩
  rw [← hq] at cS hqs
  have c90 := fun W => around_any n 90 W hn (by constructor <;> decide)
  have h90 := around_lt n 90 (by decide)
  have cM := fun W => around_any n 65536 W hn (by constructor <;> decide)
  have hM := around_lt n 65536 (by decide)
  obtain ⟨x, hx⟩ : ∃ x, x = around n 90 := ⟨_, rfl⟩
  obtain ⟨y, hy⟩ : ∃ x, x = around n 65536 := ⟨_, rfl⟩
  rw [← hx] at c90 h90
  rw [← hy] at cM hM
  obtain ⟨x1, x2⟩ := h90
  obtain ⟨y1, y2⟩ := hM
  have hin : ∀ (z : Int), z = 1 + x ∨ z = 1 + y ∨ z = n → M.I64 z := by
    intro z hz
    unfold M.I64 at hn ⊢
    omega
  have CT := Lib.hid cT
  have CS := Lib.hid cS
  have C90 := Lib.hid c90
  have CM := Lib.hid cM
  have HP := Lib.hid (And.intro hpl (And.intro hpI (And.intro hqs (And.intro hR (And.intro hT (And.intro hin hi))))))
  clear cT hpl hpI hp hN cS hqs hq c90 cM hx hy hR hT hr hc hm hI hn hin hi
  go_enter Tryd.func3, Tryd.ntmps3
  go_wp2_with fail
  refine (CS.out _).mono ?_
  rintro e w0 ⟨rfl, rfl⟩
  go_wp2_with fail
  refine CT.out.mono ?_
  rintro e w1 ⟨v, rfl, hown, hb1⟩
  obtain ⟨A1, c1, rfl, -, -, -⟩ := own_rd (B := 0) hown
  have P1 := psrc_of (s := q) hown (by have := HP.out.2.2.1; omega) (by have := HP.out.1; omega) HP.out.2.1 (HP.out.2.2.2.2.1.below hb1)
  have hR1 := HP.out.2.2.2.1.below hb1 (Nat.le_refl _)
  have cAt := fun (m t : Int) (W : World) (hb : Below w1.heap.size w1 W) => permAt_any q A1 c1 p m t W (P1.below hb)
  have cBk := fun (m t : Int) (W : World) (hb : Below w1.heap.size w1 W) => permBack_any q A1 c1 p m t W (P1.below hb)
  have rAt := fun (m t : Int) (W : World) (hb : Below w1.heap.size w1 W) => refAt_any q A1 c1 p m t W ((P1.below hb).ref (hR1.below hb (Nat.le_refl _)))
  have rBk := fun (m t : Int) (W : World) (hb : Below w1.heap.size w1 W) => refBack_any q A1 c1 p m t W ((P1.below hb).ref (hR1.below hb (Nat.le_refl _)))
  obtain ⟨Np, hNp⟩ : ∃ N, N = p.length := ⟨_, rfl⟩
  rw [← hNp] at cAt cBk rAt rBk ⊢
  have CAt := Lib.hid cAt
  have CBk := Lib.hid cBk
  have RAt := Lib.hid rAt
  have RBk := Lib.hid rBk
  have B1 := Lib.hid (And.intro hb1 P1.tab)
  clear hown P1 cAt cBk rAt rBk hNp hb1 CT CS hR1
  go_wp2_with fail
  refine (C90.out _).mono ?_
  rintro e w' ⟨rfl, rfl⟩
  go_wp2_with fail
  refine (CM.out _).mono ?_
  rintro e w2 ⟨rfl, rfl⟩
  go_wp2_with fail
  have hk3 := Blk.new w2 [.int .i64 (1 + x), .int .i64 (1 + y), .int .i64 n] 3
  have hb3 : Below w2.heap.size w2 (w2.alloc (.cells #[.int .i64 (1 + x), .int .i64 (1 + y), .int .i64 n] 3)) := (Below.refl _ _).alloc (Nat.le_refl _) _
  obtain ⟨W3, hW3⟩ : ∃ W3, W3 = w2.alloc (.cells #[.int .i64 (1 + x), .int .i64 (1 + y), .int .i64 n] 3) := ⟨_, rfl⟩
  have hk3 : Blk W3 w2.heap.size [.int .i64 (1 + x), .int .i64 (1 + y), .int .i64 n] 3 := by rw [hW3]; exact hk3
  rw [← hW3] at hb3
  have K3 := Lib.hid (And.intro hk3 hb3)
  rw [← hW3]
  clear hk3 hb3 hW3
  go_loopw [12, 13, 14, 15, 16, 17, 18, 19, 20, 21, 22] (fun i a b c d e f g h o r wr => ∃ k : Nat, k ≤ 3 ∧ i = .int .i64 k ∧ Below W3.heap.size W3 wr) (fun i _ _ _ _ _ _ _ _ _ _ _ => 3 - (intOf i).toNat)
  case atStart => exact ⟨0, by omega, rfl, Below.refl _ _⟩
  case round =>
    obtain ⟨k, hk, rfl, hb⟩ := hrel
    obtain ⟨wo, rfl⟩ : ∃ wo : World, wo = wr := ⟨_, rfl⟩
    by_cases hlt : k < 3
    · obtain ⟨z, hz, hz3⟩ : ∃ z : Int, [Value.int .i64 (1 + x), .int .i64 (1 + y), .int .i64 n][k]? = some (.int .i64 z) ∧ (z = 1 + x ∨ z = 1 + y ∨ z = n) := by
        match k, hlt with
        | 0, _ => exact ⟨_, rfl, .inl rfl⟩
        | 1, _ => exact ⟨_, rfl, .inr (.inl rfl)⟩
        | 2, _ => exact ⟨_, rfl, .inr (.inr rfl)⟩
      have hkc : (k : Int) < 3 := by omega
      have hzI := HP.out.2.2.2.2.2.1 z hz3
      have cX := fun W => around_any i (max z 1) W HP.out.2.2.2.2.2.2 (by unfold M.I64 at hzI ⊢; omega)
      obtain ⟨ar, har⟩ : ∃ a, a = around i (max z 1) := ⟨_, rfl⟩
      rw [← har] at cX
      have CX := Lib.hid cX
      have HZ := Lib.hid (And.intro hz hz3)
      have HK := Lib.hid hlt
      have K := Lib.hid (And.intro (K3.out.1.below hb K3.out.1.lt) (K3.out.2.trans (hb.mono K3.out.2.size)))
      have HB := Lib.hid hb
      clear hz hz3 hzI cX har hb
      go_wp2_with fail
      try go_frame
      refine wp_region_list [41, 42, 43, 44, 45, 46, 47, 48, 49, 50, 51, 52, 53, 54, 55, 56, 57, 58] [.is (.int .i64 i), .is (.slice (some ⟨w2.heap.size, 0, none⟩) 3 3), .is (.int .i64 k), .is (.pointer (some ⟨w2.heap.size, k, none⟩)), .is (.int .i64 z), .is (.int .i64 (max z 1)), .is (.int .i64 ar), .is (.int .i64 i), .is (.slice (some ⟨w2.heap.size, 0, none⟩) 3 3), .is (.int .i64 k), .is (.pointer (some ⟨w2.heap.size, k, none⟩)), .is (.int .i64 z), .is (.int .i64 (IntKind.i64.wrap (z - 1))), .is (.slice (some ⟨w2.heap.size, 0, none⟩) 3 3), .is (.int .i64 k), .is (.pointer (some ⟨w2.heap.size, k, none⟩)), .is (.int .i64 z), .blk [.int .i64 ar, .int .i64 i, .int .i64 (IntKind.i64.wrap (z - 1)), .int .i64 z] 4 3] (by kernel_rfl) (by kernel_rfl) ?_ ?_
      · intro y0 hy0 b w' hb hd hx o ho
        match y0, hy0 with
        | 0, _ => obtain rfl := Option.some.inj ho; exact ⟨hx 3 rfl, Below.refl _ _⟩
        | 1, _ => obtain rfl := Option.some.inj ho; exact ⟨hx 11 rfl, Below.refl _ _⟩
        | 2, _ => obtain rfl := Option.some.inj ho; exact ⟨hx 12 rfl, Below.refl _ _⟩
        | 3, _ =>
          obtain rfl := Option.some.inj ho
          have e0 : b.tmps.getD 42 undef = .slice (some ⟨w2.heap.size, 0, none⟩) 3 3 := hd 1 (by kernel_rfl) (by decide)
          have e1 : b.tmps.getD 43 undef = .int .i64 k := hd 2 (by kernel_rfl) (by decide)
          have hr := run_indexAt_ints w2.heap.size 3 3 k HK.out w'
          rw [← e0, ← e1] at hr
          exact runs_value rfl hr ⟨rfl, Below.refl _ _⟩
        | 4, _ =>
          obtain rfl := Option.some.inj ho
          have e0 : b.tmps.getD 44 undef = .pointer (some ⟨w2.heap.size, k, none⟩) := hd 3 (by kernel_rfl) (by decide)
          have hr := run_get w' w2.heap.size k z ((K.out.1.below hb K.out.1.lt).cell k _ HZ.out.1)
          rw [← e0] at hr
          exact runs_value rfl hr ⟨rfl, Below.refl _ _⟩
        | 5, _ =>
          obtain rfl := Option.some.inj ho
          have e0 : b.tmps.getD 45 undef = .int .i64 z := hd 4 (by kernel_rfl) (by decide)
          have hr := run_max1 w' z #[3, 3] 3
          rw [← e0] at hr
          exact runs_value (X := Builtin.max_ #[3, 3] 3 #[b.tmps.getD 45 undef, .int .i64 1]) (by unfold execOp; simp [resolve, invoke, builtin, Act.eval]) hr ⟨rfl, Below.refl _ _⟩
        | 6, _ =>
          obtain rfl := Option.some.inj ho
          have e0 : b.tmps.getD 41 undef = .int .i64 i := hd 0 (by kernel_rfl) (by decide)
          have e1 : b.tmps.getD 46 undef = .int .i64 (max z 1) := hd 5 (by kernel_rfl) (by decide)
          refine runs_call rfl (fun _ _ => rfl) ?_
          show Calls _ _ #[b.tmps.getD 41 undef, b.tmps.getD 46 undef] w' _
          rw [e0, e1]
          exact (CX.out w').mono fun e w'' h => ⟨_, h.1, rfl, by rw [h.2]; exact Below.refl _ _⟩
        | 7, _ => obtain rfl := Option.some.inj ho; exact ⟨hx 3 rfl, Below.refl _ _⟩
        | 8, _ => obtain rfl := Option.some.inj ho; exact ⟨hx 11 rfl, Below.refl _ _⟩
        | 9, _ => obtain rfl := Option.some.inj ho; exact ⟨hx 12 rfl, Below.refl _ _⟩
        | 10, _ =>
          obtain rfl := Option.some.inj ho
          have e0 : b.tmps.getD 49 undef = .slice (some ⟨w2.heap.size, 0, none⟩) 3 3 := hd 8 (by kernel_rfl) (by decide)
          have e1 : b.tmps.getD 50 undef = .int .i64 k := hd 9 (by kernel_rfl) (by decide)
          have hr := run_indexAt_ints w2.heap.size 3 3 k HK.out w'
          rw [← e0, ← e1] at hr
          exact runs_value rfl hr ⟨rfl, Below.refl _ _⟩
        | 11, _ =>
          obtain rfl := Option.some.inj ho
          have e0 : b.tmps.getD 51 undef = .pointer (some ⟨w2.heap.size, k, none⟩) := hd 10 (by kernel_rfl) (by decide)
          have hr := run_get w' w2.heap.size k z ((K.out.1.below hb K.out.1.lt).cell k _ HZ.out.1)
          rw [← e0] at hr
          exact runs_value rfl hr ⟨rfl, Below.refl _ _⟩
        | 12, _ =>
          obtain rfl := Option.some.inj ho
          have e0 : b.tmps.getD 52 undef = .int .i64 z := hd 11 (by kernel_rfl) (by decide)
          have hr := run_dec w' z (.tmp 52) (.const (.int .i64 1))
          rw [← e0] at hr
          exact runs_value rfl hr ⟨rfl, Below.refl _ _⟩
        | 13, _ => obtain rfl := Option.some.inj ho; exact ⟨hx 11 rfl, Below.refl _ _⟩
        | 14, _ => obtain rfl := Option.some.inj ho; exact ⟨hx 12 rfl, Below.refl _ _⟩
        | 15, _ =>
          obtain rfl := Option.some.inj ho
          have e0 : b.tmps.getD 54 undef = .slice (some ⟨w2.heap.size, 0, none⟩) 3 3 := hd 13 (by kernel_rfl) (by decide)
          have e1 : b.tmps.getD 55 undef = .int .i64 k := hd 14 (by kernel_rfl) (by decide)
          have hr := run_indexAt_ints w2.heap.size 3 3 k HK.out w'
          rw [← e0, ← e1] at hr
          exact runs_value rfl hr ⟨rfl, Below.refl _ _⟩
        | 16, _ =>
          obtain rfl := Option.some.inj ho
          have e0 : b.tmps.getD 56 undef = .pointer (some ⟨w2.heap.size, k, none⟩) := hd 15 (by kernel_rfl) (by decide)
          have hr := run_get w' w2.heap.size k z ((K.out.1.below hb K.out.1.lt).cell k _ HZ.out.1)
          rw [← e0] at hr
          exact runs_value rfl hr ⟨rfl, Below.refl _ _⟩
        | 17, _ =>
          obtain rfl := Option.some.inj ho
          have e0 : b.tmps.getD 47 undef = .int .i64 ar := hd 6 (by kernel_rfl) (by decide)
          have e1 : b.tmps.getD 48 undef = .int .i64 i := hd 7 (by kernel_rfl) (by decide)
          have e2 : b.tmps.getD 53 undef = .int .i64 (IntKind.i64.wrap (z - 1)) := hd 12 (by kernel_rfl) (by decide)
          have e3 : b.tmps.getD 57 undef = .int .i64 z := hd 16 (by kernel_rfl) (by decide)
          have hbs := build4 w' (ar) (i) (IntKind.i64.wrap (z - 1)) (z)
          rw [← e0, ← e1, ← e2, ← e3] at hbs
          refine runs_value (X := Instr.buildSlice 22 4 #[(0, b.tmps.getD 47 undef), (1, b.tmps.getD 48 undef), (2, b.tmps.getD 53 undef), (3, b.tmps.getD 57 undef)]) (by unfold execOp; simp [Act.eval]) hbs ⟨⟨w'.heap.size, rfl, ?_⟩, (Below.refl _ _).alloc (Nat.le_refl _) _⟩
          rw [e0, e1, e2, e3]
          exact Blk.new w' [.int .i64 (ar), .int .i64 (i), .int .i64 (IntKind.i64.wrap (z - 1)), .int .i64 (z)] 3
        | n + 18, h => exact absurd h (by simp)
      intro vals w4 hb4 hf4
      obtain ⟨g, v17, hg⟩ := hf4 17 (by decide)
      have v17 : vals 17 = .slice (some ⟨g, 0, none⟩) 4 4 := v17
      simp only [puts, List.length_cons, List.length_nil, Nat.zero_add, Nat.reduceAdd, List.drop_succ_cons, List.drop_zero, v17]
      have KG := Lib.hid (And.intro (K.out.1.below hb4 K.out.1.lt) (And.intro hg (And.intro (K.out.2.trans (hb4.mono K.out.2.size)) (HB.out.trans (hb4.mono HB.out.size)))))
      clear v17 hb4 hf4 K HB hg
      try go_frame
      go_wp2_with fail
      go_loopw [14, 15, 16, 17, 18, 19, 20, 21, 22] (fun i a b c d e f g h wr => ∃ j : Nat, j ≤ 4 ∧ i = .int .i64 j ∧ Below w4.heap.size w4 wr) (fun i _ _ _ _ _ _ _ _ _ => 4 - (intOf i).toNat)
      case atStart => exact ⟨0, by omega, rfl, Below.refl _ _⟩
      case round =>
        obtain ⟨j, hj, rfl, hb⟩ := hrel
        have KK := Lib.hid (And.intro (KG.out.1.below hb KG.out.1.lt) (And.intro (KG.out.2.1.below hb KG.out.2.1.lt) (And.intro (KG.out.2.2.1.trans (hb.mono KG.out.2.2.1.size)) (hb))))
        by_cases hjt : j < 4
        · obtain ⟨u, hu⟩ : ∃ u : Int, [Value.int .i64 ar, .int .i64 i, .int .i64 (IntKind.i64.wrap (z - 1)), .int .i64 z][j]? = some (.int .i64 u) := by
            match j, hjt with
            | 0, _ => exact ⟨_, rfl⟩
            | 1, _ => exact ⟨_, rfl⟩
            | 2, _ => exact ⟨_, rfl⟩
            | 3, _ => exact ⟨_, rfl⟩
          have hjc : (j : Int) < 4 := by omega
          have a1 := CAt.out z u
          have a2 := RAt.out z u
          have a3 := CBk.out z u
          have a4 := RBk.out z u
          obtain ⟨pa, hpa⟩ : ∃ a, a = atP q p z u := ⟨_, rfl⟩
          obtain ⟨pb, hpb⟩ : ∃ a, a = backP q p z u := ⟨_, rfl⟩
          obtain ⟨pe, hpe⟩ : ∃ a, a = errP q p z u := ⟨_, rfl⟩
          rw [← hpa, ← hpe] at a1 a2
          rw [← hpb, ← hpe] at a3 a4
          have D1 := Lib.hid a1
          have D2 := Lib.hid a2
          have D3 := Lib.hid a3
          have D4 := Lib.hid a4
          have HU := Lib.hid hu
          have HJ := Lib.hid hjt
          have n1 : ((pa : Int) != pa) = false := by simp
          have n2 : ((pb : Int) != pb) = false := by simp
          have n3 : ((pe : Int) != pe) = false := by simp
          clear a1 a2 a3 a4 hpa hpb hpe hu hb
          go_wp2_with fail
          try go_frame
          refine wp_region_list [66, 67, 68, 69, 70, 71, 72, 73, 74, 75, 76, 65, 77, 78, 15] [.is (.string q), .is (.slice A1 Np c1), .is (.slice (some ⟨w2.heap.size, 0, none⟩) 3 3), .is (.int .i64 k), .is (.pointer (some ⟨w2.heap.size, k, none⟩)), .is (.int .i64 z), .is (.slice (some ⟨g, 0, none⟩) 4 4), .is (.int .i64 j), .is (.pointer (some ⟨g, j, none⟩)), .is (.int .i64 u), .is (.tuple #[.int .i64 pa, .int .i64 pe]), .is (.tuple #[.int .i64 pa, .int .i64 pe]), .is (.int .i64 pa), .is (.int .i64 pe), .is (.int .i64 pa)] (by kernel_rfl) (by kernel_rfl) ?_ ?_
          · intro y0 hy0 b w' hb hd hx o ho
            match y0, hy0 with
            | 0, _ => obtain rfl := Option.some.inj ho; exact ⟨hx 9 rfl, Below.refl _ _⟩
            | 1, _ => obtain rfl := Option.some.inj ho; exact ⟨hx 10 rfl, Below.refl _ _⟩
            | 2, _ => obtain rfl := Option.some.inj ho; exact ⟨hx 11 rfl, Below.refl _ _⟩
            | 3, _ => obtain rfl := Option.some.inj ho; exact ⟨hx 12 rfl, Below.refl _ _⟩
            | 4, _ =>
              obtain rfl := Option.some.inj ho
              have e0 : b.tmps.getD 68 undef = .slice (some ⟨w2.heap.size, 0, none⟩) 3 3 := hd 2 (by kernel_rfl) (by decide)
              have e1 : b.tmps.getD 69 undef = .int .i64 k := hd 3 (by kernel_rfl) (by decide)
              have hr := run_indexAt_ints w2.heap.size 3 3 k HK.out w'
              rw [← e0, ← e1] at hr
              exact runs_value rfl hr ⟨rfl, Below.refl _ _⟩
            | 5, _ =>
              obtain rfl := Option.some.inj ho
              have e0 : b.tmps.getD 70 undef = .pointer (some ⟨w2.heap.size, k, none⟩) := hd 4 (by kernel_rfl) (by decide)
              have hr := run_get w' w2.heap.size k z ((KK.out.1.below hb KK.out.1.lt).cell k _ HZ.out.1)
              rw [← e0] at hr
              exact runs_value rfl hr ⟨rfl, Below.refl _ _⟩
            | 6, _ => obtain rfl := Option.some.inj ho; exact ⟨hx 13 rfl, Below.refl _ _⟩
            | 7, _ => obtain rfl := Option.some.inj ho; exact ⟨hx 14 rfl, Below.refl _ _⟩
            | 8, _ =>
              obtain rfl := Option.some.inj ho
              have e0 : b.tmps.getD 72 undef = .slice (some ⟨g, 0, none⟩) 4 4 := hd 6 (by kernel_rfl) (by decide)
              have e1 : b.tmps.getD 73 undef = .int .i64 j := hd 7 (by kernel_rfl) (by decide)
              have hr := run_indexAt_ints g 4 4 j HJ.out w'
              rw [← e0, ← e1] at hr
              exact runs_value rfl hr ⟨rfl, Below.refl _ _⟩
            | 9, _ =>
              obtain rfl := Option.some.inj ho
              have e0 : b.tmps.getD 74 undef = .pointer (some ⟨g, j, none⟩) := hd 8 (by kernel_rfl) (by decide)
              have hr := run_get w' g j u ((KK.out.2.1.below hb KK.out.2.1.lt).cell j _ HU.out)
              rw [← e0] at hr
              exact runs_value rfl hr ⟨rfl, Below.refl _ _⟩
            | 10, _ =>
              obtain rfl := Option.some.inj ho
              have e0 : b.tmps.getD 66 undef = .string q := hd 0 (by kernel_rfl) (by decide)
              have e1 : b.tmps.getD 67 undef = .slice A1 Np c1 := hd 1 (by kernel_rfl) (by decide)
              have e2 : b.tmps.getD 71 undef = .int .i64 z := hd 5 (by kernel_rfl) (by decide)
              have e3 : b.tmps.getD 75 undef = .int .i64 u := hd 9 (by kernel_rfl) (by decide)
              refine runs_call rfl (fun _ _ => rfl) ?_
              show Calls _ _ #[b.tmps.getD 66 undef, b.tmps.getD 67 undef, b.tmps.getD 71 undef, b.tmps.getD 75 undef] w' _
              rw [e0, e1, e2, e3]
              exact (D1.out w' (KK.out.2.2.1.trans (hb.mono KK.out.2.2.1.size))).mono fun e w'' h => ⟨_, h.1, rfl, h.2⟩
            | 11, _ => obtain rfl := Option.some.inj ho; exact ⟨hd 10 (by kernel_rfl) (by decide), Below.refl _ _⟩
            | 12, _ =>
              obtain rfl := Option.some.inj ho
              have e0 : b.tmps.getD 65 undef = .tuple #[.int .i64 pa, .int .i64 pe] := hd 11 (by kernel_rfl) (by decide)
              have hr := run_ext0 w' pa pe
              rw [← e0] at hr
              exact runs_value rfl hr ⟨rfl, Below.refl _ _⟩
            | 13, _ =>
              obtain rfl := Option.some.inj ho
              have e0 : b.tmps.getD 65 undef = .tuple #[.int .i64 pa, .int .i64 pe] := hd 11 (by kernel_rfl) (by decide)
              have hr := run_ext1 w' pa pe
              rw [← e0] at hr
              exact runs_value rfl hr ⟨rfl, Below.refl _ _⟩
            | 14, _ => obtain rfl := Option.some.inj ho; exact ⟨hd 12 (by kernel_rfl) (by decide), Below.refl _ _⟩
            | n + 15, h => exact absurd h (by simp)
          intro vals w9 hb9 hf9
          have v13 : vals 13 = .int .i64 pe := hf9 13 (by decide)
          have v14 : vals 14 = .int .i64 pa := hf9 14 (by decide)
          simp only [puts, List.length_cons, List.length_nil, Nat.zero_add, Nat.reduceAdd, List.drop_succ_cons, List.drop_zero, v13, v14]
          have K' := Lib.hid (And.intro (KK.out.1.below hb9 KK.out.1.lt) (And.intro (KK.out.2.1.below hb9 KK.out.2.1.lt) (And.intro (KK.out.2.2.1.trans (hb9.mono KK.out.2.2.1.size)) (KK.out.2.2.2.trans (hb9.mono KK.out.2.2.2.size)))))
          clear v13 v14 hb9 hf9 KK
          obtain ⟨wx, hwx⟩ : ∃ x, x = w9 := ⟨_, rfl⟩
          rw [← hwx] at K' ⊢
          have KK := K'
          clear hwx K'
          try go_frame
          go_wp2_with fail
          refine wp_region_list [80, 81, 82, 83, 84, 85, 86, 87, 88, 89, 90, 79, 91, 92, 17] [.is (.string q), .is (.slice A1 Np c1), .is (.slice (some ⟨w2.heap.size, 0, none⟩) 3 3), .is (.int .i64 k), .is (.pointer (some ⟨w2.heap.size, k, none⟩)), .is (.int .i64 z), .is (.slice (some ⟨g, 0, none⟩) 4 4), .is (.int .i64 j), .is (.pointer (some ⟨g, j, none⟩)), .is (.int .i64 u), .is (.tuple #[.int .i64 pa, .int .i64 pe]), .is (.tuple #[.int .i64 pa, .int .i64 pe]), .is (.int .i64 pa), .is (.int .i64 pe), .is (.int .i64 pa)] (by kernel_rfl) (by kernel_rfl) ?_ ?_
          · intro y0 hy0 b w' hb hd hx o ho
            match y0, hy0 with
            | 0, _ => obtain rfl := Option.some.inj ho; exact ⟨hx 9 rfl, Below.refl _ _⟩
            | 1, _ => obtain rfl := Option.some.inj ho; exact ⟨hx 10 rfl, Below.refl _ _⟩
            | 2, _ => obtain rfl := Option.some.inj ho; exact ⟨hx 11 rfl, Below.refl _ _⟩
            | 3, _ => obtain rfl := Option.some.inj ho; exact ⟨hx 12 rfl, Below.refl _ _⟩
            | 4, _ =>
              obtain rfl := Option.some.inj ho
              have e0 : b.tmps.getD 82 undef = .slice (some ⟨w2.heap.size, 0, none⟩) 3 3 := hd 2 (by kernel_rfl) (by decide)
              have e1 : b.tmps.getD 83 undef = .int .i64 k := hd 3 (by kernel_rfl) (by decide)
              have hr := run_indexAt_ints w2.heap.size 3 3 k HK.out w'
              rw [← e0, ← e1] at hr
              exact runs_value rfl hr ⟨rfl, Below.refl _ _⟩
            | 5, _ =>
              obtain rfl := Option.some.inj ho
              have e0 : b.tmps.getD 84 undef = .pointer (some ⟨w2.heap.size, k, none⟩) := hd 4 (by kernel_rfl) (by decide)
              have hr := run_get w' w2.heap.size k z ((KK.out.1.below hb KK.out.1.lt).cell k _ HZ.out.1)
              rw [← e0] at hr
              exact runs_value rfl hr ⟨rfl, Below.refl _ _⟩
            | 6, _ => obtain rfl := Option.some.inj ho; exact ⟨hx 13 rfl, Below.refl _ _⟩
            | 7, _ => obtain rfl := Option.some.inj ho; exact ⟨hx 14 rfl, Below.refl _ _⟩
            | 8, _ =>
              obtain rfl := Option.some.inj ho
              have e0 : b.tmps.getD 86 undef = .slice (some ⟨g, 0, none⟩) 4 4 := hd 6 (by kernel_rfl) (by decide)
              have e1 : b.tmps.getD 87 undef = .int .i64 j := hd 7 (by kernel_rfl) (by decide)
              have hr := run_indexAt_ints g 4 4 j HJ.out w'
              rw [← e0, ← e1] at hr
              exact runs_value rfl hr ⟨rfl, Below.refl _ _⟩
            | 9, _ =>
              obtain rfl := Option.some.inj ho
              have e0 : b.tmps.getD 88 undef = .pointer (some ⟨g, j, none⟩) := hd 8 (by kernel_rfl) (by decide)
              have hr := run_get w' g j u ((KK.out.2.1.below hb KK.out.2.1.lt).cell j _ HU.out)
              rw [← e0] at hr
              exact runs_value rfl hr ⟨rfl, Below.refl _ _⟩
            | 10, _ =>
              obtain rfl := Option.some.inj ho
              have e0 : b.tmps.getD 80 undef = .string q := hd 0 (by kernel_rfl) (by decide)
              have e1 : b.tmps.getD 81 undef = .slice A1 Np c1 := hd 1 (by kernel_rfl) (by decide)
              have e2 : b.tmps.getD 85 undef = .int .i64 z := hd 5 (by kernel_rfl) (by decide)
              have e3 : b.tmps.getD 89 undef = .int .i64 u := hd 9 (by kernel_rfl) (by decide)
              refine runs_call rfl (fun _ _ => rfl) ?_
              show Calls _ _ #[b.tmps.getD 80 undef, b.tmps.getD 81 undef, b.tmps.getD 85 undef, b.tmps.getD 89 undef] w' _
              rw [e0, e1, e2, e3]
              exact (D2.out w' (KK.out.2.2.1.trans (hb.mono KK.out.2.2.1.size))).mono fun e w'' h => ⟨_, h.1, rfl, h.2⟩
            | 11, _ => obtain rfl := Option.some.inj ho; exact ⟨hd 10 (by kernel_rfl) (by decide), Below.refl _ _⟩
            | 12, _ =>
              obtain rfl := Option.some.inj ho
              have e0 : b.tmps.getD 79 undef = .tuple #[.int .i64 pa, .int .i64 pe] := hd 11 (by kernel_rfl) (by decide)
              have hr := run_ext0 w' pa pe
              rw [← e0] at hr
              exact runs_value rfl hr ⟨rfl, Below.refl _ _⟩
            | 13, _ =>
              obtain rfl := Option.some.inj ho
              have e0 : b.tmps.getD 79 undef = .tuple #[.int .i64 pa, .int .i64 pe] := hd 11 (by kernel_rfl) (by decide)
              have hr := run_ext1 w' pa pe
              rw [← e0] at hr
              exact runs_value rfl hr ⟨rfl, Below.refl _ _⟩
            | 14, _ => obtain rfl := Option.some.inj ho; exact ⟨hd 12 (by kernel_rfl) (by decide), Below.refl _ _⟩
            | n + 15, h => exact absurd h (by simp)
          intro vals w9 hb9 hf9
          have v13 : vals 13 = .int .i64 pe := hf9 13 (by decide)
          have v14 : vals 14 = .int .i64 pa := hf9 14 (by decide)
          simp only [puts, List.length_cons, List.length_nil, Nat.zero_add, Nat.reduceAdd, List.drop_succ_cons, List.drop_zero, v13, v14]
          have K' := Lib.hid (And.intro (KK.out.1.below hb9 KK.out.1.lt) (And.intro (KK.out.2.1.below hb9 KK.out.2.1.lt) (And.intro (KK.out.2.2.1.trans (hb9.mono KK.out.2.2.1.size)) (KK.out.2.2.2.trans (hb9.mono KK.out.2.2.2.size)))))
          clear v13 v14 hb9 hf9 KK
          obtain ⟨wx, hwx⟩ : ∃ x, x = w9 := ⟨_, rfl⟩
          rw [← hwx] at K' ⊢
          have KK := K'
          clear hwx K'
          try go_frame
          go_wp2_with fail
          refine wp_region_list [94, 95, 96, 97, 98, 99, 100, 101, 102, 103, 104, 93, 105, 106, 19] [.is (.string q), .is (.slice A1 Np c1), .is (.slice (some ⟨w2.heap.size, 0, none⟩) 3 3), .is (.int .i64 k), .is (.pointer (some ⟨w2.heap.size, k, none⟩)), .is (.int .i64 z), .is (.slice (some ⟨g, 0, none⟩) 4 4), .is (.int .i64 j), .is (.pointer (some ⟨g, j, none⟩)), .is (.int .i64 u), .is (.tuple #[.int .i64 pb, .int .i64 pe]), .is (.tuple #[.int .i64 pb, .int .i64 pe]), .is (.int .i64 pb), .is (.int .i64 pe), .is (.int .i64 pb)] (by kernel_rfl) (by kernel_rfl) ?_ ?_
          · intro y0 hy0 b w' hb hd hx o ho
            match y0, hy0 with
            | 0, _ => obtain rfl := Option.some.inj ho; exact ⟨hx 9 rfl, Below.refl _ _⟩
            | 1, _ => obtain rfl := Option.some.inj ho; exact ⟨hx 10 rfl, Below.refl _ _⟩
            | 2, _ => obtain rfl := Option.some.inj ho; exact ⟨hx 11 rfl, Below.refl _ _⟩
            | 3, _ => obtain rfl := Option.some.inj ho; exact ⟨hx 12 rfl, Below.refl _ _⟩
            | 4, _ =>
              obtain rfl := Option.some.inj ho
              have e0 : b.tmps.getD 96 undef = .slice (some ⟨w2.heap.size, 0, none⟩) 3 3 := hd 2 (by kernel_rfl) (by decide)
              have e1 : b.tmps.getD 97 undef = .int .i64 k := hd 3 (by kernel_rfl) (by decide)
              have hr := run_indexAt_ints w2.heap.size 3 3 k HK.out w'
              rw [← e0, ← e1] at hr
              exact runs_value rfl hr ⟨rfl, Below.refl _ _⟩
            | 5, _ =>
              obtain rfl := Option.some.inj ho
              have e0 : b.tmps.getD 98 undef = .pointer (some ⟨w2.heap.size, k, none⟩) := hd 4 (by kernel_rfl) (by decide)
              have hr := run_get w' w2.heap.size k z ((KK.out.1.below hb KK.out.1.lt).cell k _ HZ.out.1)
              rw [← e0] at hr
              exact runs_value rfl hr ⟨rfl, Below.refl _ _⟩
            | 6, _ => obtain rfl := Option.some.inj ho; exact ⟨hx 13 rfl, Below.refl _ _⟩
            | 7, _ => obtain rfl := Option.some.inj ho; exact ⟨hx 14 rfl, Below.refl _ _⟩
            | 8, _ =>
              obtain rfl := Option.some.inj ho
              have e0 : b.tmps.getD 100 undef = .slice (some ⟨g, 0, none⟩) 4 4 := hd 6 (by kernel_rfl) (by decide)
              have e1 : b.tmps.getD 101 undef = .int .i64 j := hd 7 (by kernel_rfl) (by decide)
              have hr := run_indexAt_ints g 4 4 j HJ.out w'
              rw [← e0, ← e1] at hr
              exact runs_value rfl hr ⟨rfl, Below.refl _ _⟩
            | 9, _ =>
              obtain rfl := Option.some.inj ho
              have e0 : b.tmps.getD 102 undef = .pointer (some ⟨g, j, none⟩) := hd 8 (by kernel_rfl) (by decide)
              have hr := run_get w' g j u ((KK.out.2.1.below hb KK.out.2.1.lt).cell j _ HU.out)
              rw [← e0] at hr
              exact runs_value rfl hr ⟨rfl, Below.refl _ _⟩
            | 10, _ =>
              obtain rfl := Option.some.inj ho
              have e0 : b.tmps.getD 94 undef = .string q := hd 0 (by kernel_rfl) (by decide)
              have e1 : b.tmps.getD 95 undef = .slice A1 Np c1 := hd 1 (by kernel_rfl) (by decide)
              have e2 : b.tmps.getD 99 undef = .int .i64 z := hd 5 (by kernel_rfl) (by decide)
              have e3 : b.tmps.getD 103 undef = .int .i64 u := hd 9 (by kernel_rfl) (by decide)
              refine runs_call rfl (fun _ _ => rfl) ?_
              show Calls _ _ #[b.tmps.getD 94 undef, b.tmps.getD 95 undef, b.tmps.getD 99 undef, b.tmps.getD 103 undef] w' _
              rw [e0, e1, e2, e3]
              exact (D3.out w' (KK.out.2.2.1.trans (hb.mono KK.out.2.2.1.size))).mono fun e w'' h => ⟨_, h.1, rfl, h.2⟩
            | 11, _ => obtain rfl := Option.some.inj ho; exact ⟨hd 10 (by kernel_rfl) (by decide), Below.refl _ _⟩
            | 12, _ =>
              obtain rfl := Option.some.inj ho
              have e0 : b.tmps.getD 93 undef = .tuple #[.int .i64 pb, .int .i64 pe] := hd 11 (by kernel_rfl) (by decide)
              have hr := run_ext0 w' pb pe
              rw [← e0] at hr
              exact runs_value rfl hr ⟨rfl, Below.refl _ _⟩
            | 13, _ =>
              obtain rfl := Option.some.inj ho
              have e0 : b.tmps.getD 93 undef = .tuple #[.int .i64 pb, .int .i64 pe] := hd 11 (by kernel_rfl) (by decide)
              have hr := run_ext1 w' pb pe
              rw [← e0] at hr
              exact runs_value rfl hr ⟨rfl, Below.refl _ _⟩
            | 14, _ => obtain rfl := Option.some.inj ho; exact ⟨hd 12 (by kernel_rfl) (by decide), Below.refl _ _⟩
            | n + 15, h => exact absurd h (by simp)
          intro vals w9 hb9 hf9
          have v13 : vals 13 = .int .i64 pe := hf9 13 (by decide)
          have v14 : vals 14 = .int .i64 pb := hf9 14 (by decide)
          simp only [puts, List.length_cons, List.length_nil, Nat.zero_add, Nat.reduceAdd, List.drop_succ_cons, List.drop_zero, v13, v14]
          have K' := Lib.hid (And.intro (KK.out.1.below hb9 KK.out.1.lt) (And.intro (KK.out.2.1.below hb9 KK.out.2.1.lt) (And.intro (KK.out.2.2.1.trans (hb9.mono KK.out.2.2.1.size)) (KK.out.2.2.2.trans (hb9.mono KK.out.2.2.2.size)))))
          clear v13 v14 hb9 hf9 KK
          obtain ⟨wx, hwx⟩ : ∃ x, x = w9 := ⟨_, rfl⟩
          rw [← hwx] at K' ⊢
          have KK := K'
          clear hwx K'
          try go_frame
          go_wp2_with fail
          refine wp_region_list [108, 109, 110, 111, 112, 113, 114, 115, 116, 117, 118, 107, 119, 120, 21] [.is (.string q), .is (.slice A1 Np c1), .is (.slice (some ⟨w2.heap.size, 0, none⟩) 3 3), .is (.int .i64 k), .is (.pointer (some ⟨w2.heap.size, k, none⟩)), .is (.int .i64 z), .is (.slice (some ⟨g, 0, none⟩) 4 4), .is (.int .i64 j), .is (.pointer (some ⟨g, j, none⟩)), .is (.int .i64 u), .is (.tuple #[.int .i64 pb, .int .i64 pe]), .is (.tuple #[.int .i64 pb, .int .i64 pe]), .is (.int .i64 pb), .is (.int .i64 pe), .is (.int .i64 pb)] (by kernel_rfl) (by kernel_rfl) ?_ ?_
          · intro y0 hy0 b w' hb hd hx o ho
            match y0, hy0 with
            | 0, _ => obtain rfl := Option.some.inj ho; exact ⟨hx 9 rfl, Below.refl _ _⟩
            | 1, _ => obtain rfl := Option.some.inj ho; exact ⟨hx 10 rfl, Below.refl _ _⟩
            | 2, _ => obtain rfl := Option.some.inj ho; exact ⟨hx 11 rfl, Below.refl _ _⟩
            | 3, _ => obtain rfl := Option.some.inj ho; exact ⟨hx 12 rfl, Below.refl _ _⟩
            | 4, _ =>
              obtain rfl := Option.some.inj ho
              have e0 : b.tmps.getD 110 undef = .slice (some ⟨w2.heap.size, 0, none⟩) 3 3 := hd 2 (by kernel_rfl) (by decide)
              have e1 : b.tmps.getD 111 undef = .int .i64 k := hd 3 (by kernel_rfl) (by decide)
              have hr := run_indexAt_ints w2.heap.size 3 3 k HK.out w'
              rw [← e0, ← e1] at hr
              exact runs_value rfl hr ⟨rfl, Below.refl _ _⟩
            | 5, _ =>
              obtain rfl := Option.some.inj ho
              have e0 : b.tmps.getD 112 undef = .pointer (some ⟨w2.heap.size, k, none⟩) := hd 4 (by kernel_rfl) (by decide)
              have hr := run_get w' w2.heap.size k z ((KK.out.1.below hb KK.out.1.lt).cell k _ HZ.out.1)
              rw [← e0] at hr
              exact runs_value rfl hr ⟨rfl, Below.refl _ _⟩
            | 6, _ => obtain rfl := Option.some.inj ho; exact ⟨hx 13 rfl, Below.refl _ _⟩
            | 7, _ => obtain rfl := Option.some.inj ho; exact ⟨hx 14 rfl, Below.refl _ _⟩
            | 8, _ =>
              obtain rfl := Option.some.inj ho
              have e0 : b.tmps.getD 114 undef = .slice (some ⟨g, 0, none⟩) 4 4 := hd 6 (by kernel_rfl) (by decide)
              have e1 : b.tmps.getD 115 undef = .int .i64 j := hd 7 (by kernel_rfl) (by decide)
              have hr := run_indexAt_ints g 4 4 j HJ.out w'
              rw [← e0, ← e1] at hr
              exact runs_value rfl hr ⟨rfl, Below.refl _ _⟩
            | 9, _ =>
              obtain rfl := Option.some.inj ho
              have e0 : b.tmps.getD 116 undef = .pointer (some ⟨g, j, none⟩) := hd 8 (by kernel_rfl) (by decide)
              have hr := run_get w' g j u ((KK.out.2.1.below hb KK.out.2.1.lt).cell j _ HU.out)
              rw [← e0] at hr
              exact runs_value rfl hr ⟨rfl, Below.refl _ _⟩
            | 10, _ =>
              obtain rfl := Option.some.inj ho
              have e0 : b.tmps.getD 108 undef = .string q := hd 0 (by kernel_rfl) (by decide)
              have e1 : b.tmps.getD 109 undef = .slice A1 Np c1 := hd 1 (by kernel_rfl) (by decide)
              have e2 : b.tmps.getD 113 undef = .int .i64 z := hd 5 (by kernel_rfl) (by decide)
              have e3 : b.tmps.getD 117 undef = .int .i64 u := hd 9 (by kernel_rfl) (by decide)
              refine runs_call rfl (fun _ _ => rfl) ?_
              show Calls _ _ #[b.tmps.getD 108 undef, b.tmps.getD 109 undef, b.tmps.getD 113 undef, b.tmps.getD 117 undef] w' _
              rw [e0, e1, e2, e3]
              exact (D4.out w' (KK.out.2.2.1.trans (hb.mono KK.out.2.2.1.size))).mono fun e w'' h => ⟨_, h.1, rfl, h.2⟩
            | 11, _ => obtain rfl := Option.some.inj ho; exact ⟨hd 10 (by kernel_rfl) (by decide), Below.refl _ _⟩
            | 12, _ =>
              obtain rfl := Option.some.inj ho
              have e0 : b.tmps.getD 107 undef = .tuple #[.int .i64 pb, .int .i64 pe] := hd 11 (by kernel_rfl) (by decide)
              have hr := run_ext0 w' pb pe
              rw [← e0] at hr
              exact runs_value rfl hr ⟨rfl, Below.refl _ _⟩
            | 13, _ =>
              obtain rfl := Option.some.inj ho
              have e0 : b.tmps.getD 107 undef = .tuple #[.int .i64 pb, .int .i64 pe] := hd 11 (by kernel_rfl) (by decide)
              have hr := run_ext1 w' pb pe
              rw [← e0] at hr
              exact runs_value rfl hr ⟨rfl, Below.refl _ _⟩
            | 14, _ => obtain rfl := Option.some.inj ho; exact ⟨hd 12 (by kernel_rfl) (by decide), Below.refl _ _⟩
            | n + 15, h => exact absurd h (by simp)
          intro vals w9 hb9 hf9
          have v13 : vals 13 = .int .i64 pe := hf9 13 (by decide)
          have v14 : vals 14 = .int .i64 pb := hf9 14 (by decide)
          simp only [puts, List.length_cons, List.length_nil, Nat.zero_add, Nat.reduceAdd, List.drop_succ_cons, List.drop_zero, v13, v14]
          have K' := Lib.hid (And.intro (KK.out.1.below hb9 KK.out.1.lt) (And.intro (KK.out.2.1.below hb9 KK.out.2.1.lt) (And.intro (KK.out.2.2.1.trans (hb9.mono KK.out.2.2.1.size)) (KK.out.2.2.2.trans (hb9.mono KK.out.2.2.2.size)))))
          clear v13 v14 hb9 hf9 KK
          obtain ⟨wx, hwx⟩ : ∃ x, x = w9 := ⟨_, rfl⟩
          rw [← hwx] at K' ⊢
          have KK := K'
          clear hwx K'
          try go_frame
          go_wp2_with fail
          have hb' := KK.out.2.2.2
          exact ⟨⟨j + 1, by omega, by go_num, hb'⟩, by simp [intOf]; omega⟩
        · obtain rfl : j = 4 := by omega
          have hb2 := KG.out.2.2.2.trans (hb.mono KG.out.2.2.2.size)
          have HB2 := Lib.hid hb2
          clear hb hb2
          go_wp2_with fail
          exact ⟨⟨k + 1, by omega, by go_num, HB2.out⟩, by simp [intOf]; omega⟩
    · obtain rfl : k = 3 := by omega
      have hb2 := K3.out.2.trans (hb.mono K3.out.2.size)
      have cL := lives_any wo (B1.out.2.below hb2)
      have BF := Lib.hid (B1.out.1.trans (hb2.mono B1.out.1.size))
      have CLv := Lib.hid cL
      clear cL hb2
      go_wp2_with fail
      refine CLv.out.mono ?_
      rintro e w10 ⟨rfl, b10⟩
      go_wp2_with fail
      go_ret
      exact ⟨rfl, BF.out.trans (b10.mono BF.out.size)⟩
end Go.Proofs.YtcmepgjbplpnbaaDoor
end

