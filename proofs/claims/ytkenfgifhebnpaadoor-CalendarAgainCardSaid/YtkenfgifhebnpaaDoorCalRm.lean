/- The contract of the reference's Zones. (gen_zone.py writes this text.) -/
import Derived.Test.YtkenfgifhebnpaaDoorCalRi
import Derived.Test.YtkenfgifhebnpaaDoorAround
import Derived.Test.YtkenfgifhebnpaaDoorFacts
namespace Go.Proofs.YtkenfgifhebnpaaDoor
open Go.RowKit
set_option linter.unusedVariables false
set_option maxRecDepth 100000

def Fact.blk (xs : List Value) (n : Nat) (t : TypeId) : Fact :=
  ⟨fun v w => ∃ g, v = .slice (some ⟨g, 0, none⟩) n n ∧ Blk w g xs t, fun _ _ _ ⟨g, h1, h2⟩ hb => ⟨g, h1, h2.below hb h2.lt⟩⟩
def Fact.ptr (x : Value) : Fact :=
  ⟨fun v w => ∃ g off, v = .pointer (some ⟨g, off, none⟩) ∧ w.cell? ⟨g, off, none⟩ = some x ∧ g < w.heap.size, fun _ _ _ ⟨g, off, h1, h2, h3⟩ hb => ⟨g, off, h1, (hb.cell h3).trans h2, Nat.lt_of_lt_of_le h3 hb.size⟩⟩
theorem build5 (w : World) : (Instr.buildSlice 23 5 #[(0, .int .i64 0), (1, .int .i64 60), (2, .int .i64 60), (3, .int .i64 30), (4, .int .i64 120)]).run Tryd.prog w = .ok (.slice (some ⟨w.heap.size, 0, none⟩) 5 5) (w.alloc (.cells #[.int .i64 0, .int .i64 60, .int .i64 60, .int .i64 30, .int .i64 120] 3)) := by
  go_simp
theorem run_index5 (b k : Nat) (hk : k < 5) (w : World) : (Instr.indexAt 23 (.slice (some ⟨b, 0, none⟩) 5 5) (.int .i64 (k : Int))).run Tryd.prog w = .ok (.pointer (some ⟨b, k, none⟩)) w := by
  have h1 : (k : Int) < 5 := by omega
  have h2 : (0 : Int) ≤ k := by omega
  go_simp
theorem run_get (w : World) (b k : Nat) (v : Int) (h : w.cell? ⟨b, k, none⟩ = some (.int .i64 v)) : (Instr.loadAt 3 (.pointer (some ⟨b, k, none⟩))).run Tryd.prog w = .ok (.int .i64 v) w := by
  go_simp
theorem run_zone (w : World) (a b c : Int) : (Instr.build 41 #[(0, .int .i64 a), (1, .int .i64 b), (2, .int .i64 c)]).run Tryd.prog w = .ok (.agg #[.int .i64 a, .int .i64 b, .int .i64 c, .int .i64 0]) w := by
  go_simp
theorem zero_zone (w : World) : (zeroValue 41).run Tryd.prog w = .ok (.agg #[.int .i64 0, .int .i64 0, .int .i64 0, .int .i64 0]) w := by kernel_rfl
theorem run_sub900 (w : World) (z o : Int) (h : o = z - 900) (hb : 0 ≤ z ∧ z ≤ 100000) (x y : Operand) : (do eqGuard BinOp.sub 3 x y (.int .i64 z) (.int .i64 900); binOp BinOp.sub 3 (.int .i64 z) (.int .i64 900)).run Tryd.prog w = .ok (.int .i64 o) w := by
  have e : IntKind.i64.wrap (z - 900) = o := by rw [h]; exact i64_in _ (by omega) (by omega)
  clear h hb
  go_simp
theorem run_addone (w : World) (z o : Int) (h : o = 1 + z) (hb : 0 ≤ z ∧ z ≤ 100000) (x y : Operand) : (do eqGuard BinOp.add 3 x y (.int .i64 1) (.int .i64 z); binOp BinOp.add 3 (.int .i64 1) (.int .i64 z)).run Tryd.prog w = .ok (.int .i64 o) w := by
  have e : IntKind.i64.wrap (1 + z) = o := by rw [h]; exact i64_in _ (by omega) (by omega)
  clear h hb
  go_simp
theorem run_sub368 (w : World) (z o : Int) (h : o = 368 - z) (hb : 0 ≤ z ∧ z ≤ 100000) (x y : Operand) : (do eqGuard BinOp.sub 3 x y (.int .i64 368) (.int .i64 z); binOp BinOp.sub 3 (.int .i64 368) (.int .i64 z)).run Tryd.prog w = .ok (.int .i64 o) w := by
  have e : IntKind.i64.wrap (368 - z) = o := by rw [h]; exact i64_in _ (by omega) (by omega)
  clear h hb
  go_simp
theorem run_addft (w : World) (u v o : Int) (h : o = u + v) (hb : 0 ≤ o ∧ o ≤ 100000) (x y : Operand) : (do eqGuard BinOp.add 3 x y (.int .i64 u) (.int .i64 v); binOp BinOp.add 3 (.int .i64 u) (.int .i64 v)).run Tryd.prog w = .ok (.int .i64 o) w := by
  have e : IntKind.i64.wrap (u + v) = o := by rw [← h]; exact i64_in _ (by omega) (by omega)
  clear h hb
  go_simp
theorem run_field2 (b : Nat) (w : World) : (Instr.fieldAt 41 (.pointer (some ⟨b, 0, none⟩)) 2).run Tryd.prog w = .ok (.pointer (some ⟨b, 2, none⟩)) w := by
  go_simp
/-- A zone, made of numbers. -/
def summers : Nat → Int
  | 0 => 0
  | 1 => 60
  | 2 => 60
  | 3 => 30
  | _ => 120
def zO (l : List Int) : Int := atN l 0 1801 - 900
def zS (l : List Int) : Int := summers (atN l 1 5).toNat
def zF (l : List Int) : Int := 1 + atN l 2 367
def zT (l : List Int) : Int := zF l + atN l 3 (368 - zF l)
theorem zone_proper (l : List Int) : proper (zO l) (zS l) (zF l) (zT l) := by
  have h1 := atN_lt l 0 1801 (by decide)
  have h2 := atN_lt l 2 367 (by decide)
  have h3 := atN_lt l 3 (368 - zF l) (by unfold zF; omega)
  have h4 : 0 ≤ zS l ∧ zS l ≤ 120 := by unfold zS summers; split <;> decide
  unfold proper zT zO
  have : zF l = 1 + atN l 2 367 := rfl
  omega

set_option maxHeartbeats 8000000 in
theorem zones_any (A : Option Addr) (cap : Nat) (l : List Int) (w : World) (hr : Rd w w.heap.size A (l.map iv)) (hI : ∀ n ∈ l, M.I64 n) (hl : l.length ≤ 9223372036854775807) :
    Calls Tryd.prog 25 #[.slice A l.length cap] w fun e w' => e = .returned (.agg #[.int .i64 (zO l), .int .i64 (zS l), .int .i64 (zF l), .int .i64 (zT l)]) ∧ Below w.heap.size w w' := by
  have hp := zone_proper l
  have h1 := atN_lt l 0 1801 (by decide)
  have h2 := atN_lt l 1 5 (by decide)
  have h3 := atN_lt l 2 367 (by decide)
  have cA : ∀ (W : World), Below w.heap.size w W → ∀ (i : Nat) (most : Int), M.I64 most → Calls Tryd.prog 34 #[.slice A l.length cap, .int .i64 (i : Int), .int .i64 most] W fun e w' => e = .returned (.int .i64 (atN l i most)) ∧ w' = W := fun W hb i most hm => atN_any A cap l i most W ((hr.below hb).more hb.size) hI hm hl
  obtain ⟨o, ho⟩ : ∃ o, o = zO l := ⟨_, rfl⟩
  obtain ⟨sm, hs⟩ : ∃ o, o = zS l := ⟨_, rfl⟩
  obtain ⟨f, hf⟩ : ∃ o, o = zF l := ⟨_, rfl⟩
  obtain ⟨t, ht⟩ : ∃ o, o = zT l := ⟨_, rfl⟩
  obtain ⟨o0, ho0⟩ : ∃ o, o = atN l 0 1801 := ⟨_, rfl⟩
  obtain ⟨zi, hzi⟩ : ∃ o, o = atN l 1 5 := ⟨_, rfl⟩
  obtain ⟨f0, hf0⟩ : ∃ o, o = atN l 2 367 := ⟨_, rfl⟩
  have e1 := fun W => run_sub900 W o0 o (by rw [ho, ho0]; rfl) (by omega)
  have e3 := fun W => run_addone W f0 f (by rw [hf, hf0]; rfl) (by omega)
  have e2 : ∃ zn : Nat, zi = (zn : Int) ∧ zn < 5 ∧ [Value.int .i64 0, .int .i64 60, .int .i64 60, .int .i64 30, .int .i64 120][zn]? = some (.int .i64 sm) := by
    obtain ⟨zn, hz⟩ := Int.eq_ofNat_of_zero_le (show 0 ≤ zi by omega)
    refine ⟨zn, hz, by omega, ?_⟩
    have h5 : zn < 5 := by omega
    rw [hs]; unfold zS
    rw [← hzi, hz, Int.toNat_natCast]
    match zn, h5 with
    | 0, _ => rfl
    | 1, _ => rfl
    | 2, _ => rfl
    | 3, _ => rfl
    | 4, _ => rfl
  have ht2 : t = f + atN l 3 (368 - f) := by rw [ht, hf]; rfl
  rw [← ho, ← hs, ← hf, ← ht] at hp ⊢
  obtain ⟨N, hN⟩ : ∃ N, N = l.length := ⟨_, rfl⟩
  rw [← hN] at cA ⊢
  have CA := Lib.hid cA
  have HE := Lib.hid (And.intro ho0 (And.intro e1 (And.intro hzi (And.intro e2 (And.intro hf0 e3)))))
  have HP := Lib.hid (And.intro hp ht2)
  clear cA hN ho hs hf ht ho0 hzi hf0 e1 e2 e3 hp ht2 h1 h2 h3 hr hI hl
  go_enter Tryd.func25, Tryd.ntmps25
  go_wp2_with fail
  try go_frame
  have hk0 := Blk.new w [.int .i64 0, .int .i64 0, .int .i64 0, .int .i64 0] 41
  have hb0 : Below w.heap.size w (w.alloc (.cells #[.int .i64 0, .int .i64 0, .int .i64 0, .int .i64 0] 41)) := (Below.refl _ _).alloc (Nat.le_refl _) _
  have hsz : (w.alloc (.cells #[.int .i64 0, .int .i64 0, .int .i64 0, .int .i64 0] 41)).heap.size = w.heap.size + 1 := by simp
  obtain ⟨W, hW⟩ : ∃ W, W = w.alloc (.cells #[.int .i64 0, .int .i64 0, .int .i64 0, .int .i64 0] 41) := ⟨_, rfl⟩
  have hk0 : Blk W w.heap.size [.int .i64 0, .int .i64 0, .int .i64 0, .int .i64 0] 41 := by rw [hW]; exact hk0
  rw [← hW] at hb0 hsz
  have HK0 := Lib.hid hk0
  have HB := Lib.hid hb0
  have HS := Lib.hid hsz
  try rw [← hW]
  clear hk0 hb0 hsz hW
  refine wp_region_list [4, 5, 6, 7, 8, 9, 10, 11, 12, 13, 14, 15, 3] [.is (.slice A N cap), .is (.int .i64 o0), .is (.int .i64 o), .blk [.int .i64 0, .int .i64 60, .int .i64 60, .int .i64 30, .int .i64 120] 5 3, .is (.slice A N cap), .is (.int .i64 zi), .ptr (.int .i64 sm), .is (.int .i64 sm), .is (.slice A N cap), .is (.int .i64 f0), .is (.int .i64 f), .is (.agg #[.int .i64 o, .int .i64 sm, .int .i64 f, .int .i64 0]), .var (w.heap.size + 1) #[.int .i64 0, .int .i64 0, .int .i64 0, .int .i64 0] 41] (by kernel_rfl) (by kernel_rfl) ?_ ?_
  · intro y0 hy0 b w' hb hd hx o ho
    match y0, hy0 with
    | 0, _ => obtain rfl := Option.some.inj ho; exact ⟨hx 0 rfl, Below.refl _ _⟩
    | 1, _ =>
      obtain rfl := Option.some.inj ho
      have e0 : b.tmps.getD 4 undef = .slice A N cap := hd 0 (by kernel_rfl) (by decide)
      refine runs_call rfl (fun _ _ => rfl) ?_
      show Calls _ _ #[b.tmps.getD 4 undef, .int .i64 0, .int .i64 1801] w' _
      rw [e0]
      exact (CA.out w' (HB.out.trans (hb.mono HB.out.size)) 0 1801 (by constructor <;> decide)).mono fun e w'' h => ⟨_, h.1, by rw [HE.out.1]; rfl, by rw [h.2]; exact Below.refl _ _⟩
    | 2, _ =>
      obtain rfl := Option.some.inj ho
      have e0 : b.tmps.getD 5 undef = .int .i64 o0 := hd 1 (by kernel_rfl) (by decide)
      have hr := HE.out.2.1 w' (.tmp 5) (.const (.int .i64 900))
      rw [← e0] at hr
      exact runs_value rfl hr ⟨rfl, Below.refl _ _⟩
    | 3, _ =>
      obtain rfl := Option.some.inj ho
      exact runs_value (X := Instr.buildSlice 23 5 #[(0, .int .i64 0), (1, .int .i64 60), (2, .int .i64 60), (3, .int .i64 30), (4, .int .i64 120)]) (by unfold execOp; simp [Act.eval]) (build5 w') ⟨⟨w'.heap.size, rfl, Blk.new w' [.int .i64 0, .int .i64 60, .int .i64 60, .int .i64 30, .int .i64 120] 3⟩, (Below.refl _ _).alloc (Nat.le_refl _) _⟩
    | 4, _ => obtain rfl := Option.some.inj ho; exact ⟨hx 0 rfl, Below.refl _ _⟩
    | 5, _ =>
      obtain rfl := Option.some.inj ho
      have e0 : b.tmps.getD 8 undef = .slice A N cap := hd 4 (by kernel_rfl) (by decide)
      refine runs_call rfl (fun _ _ => rfl) ?_
      show Calls _ _ #[b.tmps.getD 8 undef, .int .i64 1, .int .i64 5] w' _
      rw [e0]
      exact (CA.out w' (HB.out.trans (hb.mono HB.out.size)) 1 5 (by constructor <;> decide)).mono fun e w'' h => ⟨_, h.1, by rw [HE.out.2.2.1]; rfl, by rw [h.2]; exact Below.refl _ _⟩
    | 6, _ =>
      obtain rfl := Option.some.inj ho
      obtain ⟨g, e0, hg⟩ := hd 3 (by kernel_rfl) (by decide)
      have e0 : b.tmps.getD 7 undef = .slice (some ⟨g, 0, none⟩) 5 5 := e0
      have e1 : b.tmps.getD 9 undef = .int .i64 zi := hd 5 (by kernel_rfl) (by decide)
      obtain ⟨zn, hz1, hz2, hz3⟩ := HE.out.2.2.2.1
      have hr := run_index5 g zn hz2 w'
      rw [← hz1, ← e0, ← e1] at hr
      exact runs_value rfl hr ⟨⟨g, zn, rfl, hg.cell zn _ hz3, hg.lt⟩, Below.refl _ _⟩
    | 7, _ =>
      obtain rfl := Option.some.inj ho
      obtain ⟨g, off, e0, hc, -⟩ := hd 6 (by kernel_rfl) (by decide)
      have e0 : b.tmps.getD 10 undef = .pointer (some ⟨g, off, none⟩) := e0
      have hr := run_get w' g off sm hc
      rw [← e0] at hr
      exact runs_value rfl hr ⟨rfl, Below.refl _ _⟩
    | 8, _ => obtain rfl := Option.some.inj ho; exact ⟨hx 0 rfl, Below.refl _ _⟩
    | 9, _ =>
      obtain rfl := Option.some.inj ho
      have e0 : b.tmps.getD 12 undef = .slice A N cap := hd 8 (by kernel_rfl) (by decide)
      refine runs_call rfl (fun _ _ => rfl) ?_
      show Calls _ _ #[b.tmps.getD 12 undef, .int .i64 2, .int .i64 367] w' _
      rw [e0]
      exact (CA.out w' (HB.out.trans (hb.mono HB.out.size)) 2 367 (by constructor <;> decide)).mono fun e w'' h => ⟨_, h.1, by rw [HE.out.2.2.2.2.1]; rfl, by rw [h.2]; exact Below.refl _ _⟩
    | 10, _ =>
      obtain rfl := Option.some.inj ho
      have e0 : b.tmps.getD 13 undef = .int .i64 f0 := hd 9 (by kernel_rfl) (by decide)
      have hr := HE.out.2.2.2.2.2 w' (.const (.int .i64 1)) (.tmp 13)
      rw [← e0] at hr
      exact runs_value rfl hr ⟨rfl, Below.refl _ _⟩
    | 11, _ =>
      obtain rfl := Option.some.inj ho
      have e0 : b.tmps.getD 6 undef = .int .i64 o := hd 2 (by kernel_rfl) (by decide)
      have e1 : b.tmps.getD 11 undef = .int .i64 sm := hd 7 (by kernel_rfl) (by decide)
      have e2 : b.tmps.getD 14 undef = .int .i64 f := hd 10 (by kernel_rfl) (by decide)
      have hr := run_zone w' o sm f
      refine runs_value (X := Instr.build 41 #[(0, b.tmps.getD 6 undef), (1, b.tmps.getD 11 undef), (2, b.tmps.getD 14 undef)]) (by unfold execOp; simp [Act.eval]) (by rw [e0, e1, e2]; exact hr) ⟨rfl, Below.refl _ _⟩
    | 12, _ =>
      obtain rfl := Option.some.inj ho
      exact runs_value rfl (run_alloc_row zero_zone w') ⟨⟨w'.heap.size, rfl, by have := hb.size; have := HS.out; omega, heap_alloc_new w' _⟩, (Below.refl _ _).alloc (Nat.le_refl _) _⟩
    | n + 13, h => exact absurd h (by simp)
  intro vals w9 hb9 hf9
  obtain ⟨g, v12, hg1, hg2⟩ := hf9 12 (by decide)
  have v12 : vals 12 = .pointer (some ⟨g, 0, none⟩) := v12
  have v11 : vals 11 = .agg #[.int .i64 o, .int .i64 sm, .int .i64 f, .int .i64 0] := hf9 11 (by decide)
  simp only [puts, List.length_cons, List.length_nil, Nat.zero_add, Nat.reduceAdd, List.drop_succ_cons, List.drop_zero, v11, v12]
  have hz : Blk w9 g [.int .i64 0, .int .i64 0, .int .i64 0, .int .i64 0] 41 := hg2
  have z0 := hz.cell 0 _ rfl
  have z1 := hz.cell 1 _ rfl
  have z2 := hz.cell 2 _ rfl
  have z3 := hz.cell 3 _ rfl
  have y0 := hz.frozen 0
  have y1 := hz.frozen 1
  have y2 := hz.frozen 2
  have y3 := hz.frozen 3
  have HZ := Lib.hid (And.intro hz hg1)
  have B9 := Lib.hid (HB.out.trans (hb9.mono HB.out.size))
  have R9 := Lib.hid (HK0.out.below hb9 HK0.out.lt)
  clear hg2 hg1 hz hb9 hf9 v11 v12
  try go_frame
  go_wp2_with fail
  clear z0 z1 z2 z3 y0 y1 y2 y3
  obtain ⟨W2, hW2⟩ : ∃ x, x = (((w9.setCell ⟨g, 0, none⟩ (.int .i64 o)).setCell ⟨g, 1, none⟩ (.int .i64 sm)).setCell ⟨g, 2, none⟩ (.int .i64 f)).setCell ⟨g, 3, none⟩ (.int .i64 0) := ⟨_, rfl⟩
  have hne : w.heap.size ≠ g := by have := HZ.out.2; omega
  have hg : w.heap.size ≤ g := by have := HZ.out.2; omega
  have k2 : Blk W2 g [.int .i64 o, .int .i64 sm, .int .i64 f, .int .i64 0] 41 := by rw [hW2]; exact (((HZ.out.1.set 0 _).set 1 _).set 2 _).set 3 _
  have r2 : Blk W2 w.heap.size [.int .i64 0, .int .i64 0, .int .i64 0, .int .i64 0] 41 := by rw [hW2]; exact (((R9.out.other _ _ hne).other _ _ hne).other _ _ hne).other _ _ hne
  have b2 : Below w.heap.size w W2 := by rw [hW2]; exact (((B9.out.setCell hg _).setCell hg _).setCell hg _).setCell hg _
  have e4 := fun W => run_sub368 W f (368 - f) rfl (by have := HP.out.1; unfold proper at this; omega)
  have e5 := fun W => run_addft W f (atN l 3 (368 - f)) t HP.out.2 (by have := HP.out.1; unfold proper at this; omega)
  have m3 : M.I64 (368 - f) := by have := HP.out.1; unfold proper at this; unfold M.I64; omega
  obtain ⟨y, hy⟩ : ∃ y, y = atN l 3 (368 - f) := ⟨_, rfl⟩
  rw [← hy] at e5
  have HF := Lib.hid (And.intro e4 (And.intro e5 (And.intro hy m3)))
  have HB2 := Lib.hid b2
  have K2 := Lib.hid k2
  have R2 := Lib.hid r2
  have HN := Lib.hid (And.intro hne hg)
  try rw [← hW2]
  clear hne hg k2 r2 b2 e4 e5 hy m3 hW2 HZ B9 R9 HB HK0 HS
  refine wp_region_list [16, 17, 18, 19, 20, 21, 22, 23] [.is (.pointer (some ⟨g, 2, none⟩)), .is (.int .i64 f), .is (.slice A N cap), .is (.pointer (some ⟨g, 2, none⟩)), .is (.int .i64 f), .is (.int .i64 (368 - f)), .is (.int .i64 y), .is (.int .i64 t)] (by kernel_rfl) (by kernel_rfl) ?_ ?_
  · intro y0 hy0 b w' hb hd hx o ho
    match y0, hy0 with
    | 0, _ =>
      obtain rfl := Option.some.inj ho
      have e0 : b.tmps.getD 3 undef = .pointer (some ⟨g, 0, none⟩) := hx 3 rfl
      have hr := run_field2 g w'
      rw [← e0] at hr
      exact runs_value rfl hr ⟨rfl, Below.refl _ _⟩
    | 1, _ =>
      obtain rfl := Option.some.inj ho
      have e0 : b.tmps.getD 16 undef = .pointer (some ⟨g, 2, none⟩) := hd 0 (by kernel_rfl) (by decide)
      have hr := run_get w' g 2 f ((K2.out.below hb K2.out.lt).cell 2 _ rfl)
      rw [← e0] at hr
      exact runs_value rfl hr ⟨rfl, Below.refl _ _⟩
    | 2, _ => obtain rfl := Option.some.inj ho; exact ⟨hx 0 rfl, Below.refl _ _⟩
    | 3, _ =>
      obtain rfl := Option.some.inj ho
      have e0 : b.tmps.getD 3 undef = .pointer (some ⟨g, 0, none⟩) := hx 3 rfl
      have hr := run_field2 g w'
      rw [← e0] at hr
      exact runs_value rfl hr ⟨rfl, Below.refl _ _⟩
    | 4, _ =>
      obtain rfl := Option.some.inj ho
      have e0 : b.tmps.getD 19 undef = .pointer (some ⟨g, 2, none⟩) := hd 3 (by kernel_rfl) (by decide)
      have hr := run_get w' g 2 f ((K2.out.below hb K2.out.lt).cell 2 _ rfl)
      rw [← e0] at hr
      exact runs_value rfl hr ⟨rfl, Below.refl _ _⟩
    | 5, _ =>
      obtain rfl := Option.some.inj ho
      have e0 : b.tmps.getD 20 undef = .int .i64 f := hd 4 (by kernel_rfl) (by decide)
      have hr := HF.out.1 w' (.const (.int .i64 368)) (.tmp 20)
      rw [← e0] at hr
      exact runs_value rfl hr ⟨rfl, Below.refl _ _⟩
    | 6, _ =>
      obtain rfl := Option.some.inj ho
      have e0 : b.tmps.getD 18 undef = .slice A N cap := hd 2 (by kernel_rfl) (by decide)
      have e1 : b.tmps.getD 21 undef = .int .i64 (368 - f) := hd 5 (by kernel_rfl) (by decide)
      refine runs_call rfl (fun _ _ => rfl) ?_
      show Calls _ _ #[b.tmps.getD 18 undef, .int .i64 3, b.tmps.getD 21 undef] w' _
      rw [e0, e1]
      exact (CA.out w' (HB2.out.trans (hb.mono HB2.out.size)) 3 (368 - f) HF.out.2.2.2).mono fun e w'' h => ⟨_, h.1, by rw [HF.out.2.2.1]; rfl, by rw [h.2]; exact Below.refl _ _⟩
    | 7, _ =>
      obtain rfl := Option.some.inj ho
      have e0 : b.tmps.getD 17 undef = .int .i64 f := hd 1 (by kernel_rfl) (by decide)
      have e1 : b.tmps.getD 22 undef = .int .i64 y := hd 6 (by kernel_rfl) (by decide)
      have hr := HF.out.2.1 w' (.tmp 17) (.tmp 22)
      rw [← e0, ← e1] at hr
      exact runs_value rfl hr ⟨rfl, Below.refl _ _⟩
    | n + 8, h => exact absurd h (by simp)
  intro vals2 w10 hb10 hf10
  have v7 : vals2 7 = .int .i64 t := hf10 7 (by decide)
  simp only [puts, List.length_cons, List.length_nil, Nat.zero_add, Nat.reduceAdd, List.drop_succ_cons, List.drop_zero, v7]
  have hz := K2.out.below hb10 K2.out.lt
  have hr := R2.out.below hb10 R2.out.lt
  have y3 := hz.frozen 3
  have z0 := hz.cell 0 _ rfl
  have z1 := hz.cell 1 _ rfl
  have z2 := hz.cell 2 _ rfl
  have z3 := hz.cell 3 _ rfl
  have x0 := hr.cell 0 _ rfl
  have x1 := hr.cell 1 _ rfl
  have x2 := hr.cell 2 _ rfl
  have x3 := hr.cell 3 _ rfl
  have u0 := hr.frozen 0
  have u1 := hr.frozen 1
  have u2 := hr.frozen 2
  have u3 := hr.frozen 3
  have ne1 : ¬ w.heap.size = g := HN.out.1
  have ne2 : ¬ g = w.heap.size := fun h => HN.out.1 h.symm
  have HZ := Lib.hid (And.intro hz (And.intro hr (HB2.out.trans (hb10.mono HB2.out.size))))
  clear v7 hb10 hf10 hz hr K2 R2 HB2
  try go_frame
  go_wp2_with fail
  have kf : Blk _ w.heap.size [.int .i64 o, .int .i64 sm, .int .i64 f, .int .i64 t] 41 := ((((HZ.out.2.1.other ⟨g, 3, none⟩ (.int .i64 t) HN.out.1).set 0 (.int .i64 o)).set 1 (.int .i64 sm)).set 2 (.int .i64 f)).set 3 (.int .i64 t)
  refine bodyPost_ret (results_cell_row rfl _ _ w.heap.size 41 #[.int .i64 o, .int .i64 sm, .int .i64 f, .int .i64 t] (0, 0) _ rfl kf Tryd.underlying41 rfl (by kernel_rfl)) rfl ⟨rfl, ((((HZ.out.2.2.setCell HN.out.2 _).setCell (Nat.le_refl _) _).setCell (Nat.le_refl _) _).setCell (Nat.le_refl _) _).setCell (Nat.le_refl _) _⟩
end Go.Proofs.YtkenfgifhebnpaaDoor
