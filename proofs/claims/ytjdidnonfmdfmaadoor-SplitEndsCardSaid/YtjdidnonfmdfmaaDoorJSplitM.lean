import Derived.Test.YtjdidnonfmdfmaaDoorJAround
import Derived.Test.YtjdidnonfmdfmaaDoorJDrawA
import Derived.Test.YtjdidnonfmdfmaaDoorJFacts
import Derived.Test.YtjdidnonfmdfmaaDoorJFactsV
import Derived.Test.YtjdidnonfmdfmaaDoorJSplitL0

section
/- The contract of the reference's Made. (gen_made.py writes this text.) -/





namespace Go.Proofs.YtjdidnonfmdfmaaDoor
open Go.RowKit
set_option linter.unusedVariables false
set_option maxRecDepth 100000

def Fact.blk (xs : List Value) (n : Nat) (t : TypeId) : Fact :=
  ⟨fun v w => ∃ g, v = .slice (some ⟨g, 0, none⟩) n n ∧ Blk w g xs t, fun _ _ _ ⟨g, h1, h2⟩ hb => ⟨g, h1, h2.below hb h2.lt⟩⟩
def Fact.ptr (x : Value) : Fact :=
  ⟨fun v w => ∃ g off, v = .pointer (some ⟨g, off, none⟩) ∧ w.cell? ⟨g, off, none⟩ = some x ∧ g < w.heap.size, fun _ _ _ ⟨g, off, h1, h2, h3⟩ hb => ⟨g, off, h1, (hb.cell h3).trans h2, Nat.lt_of_lt_of_le h3 hb.size⟩⟩
def seedM : Nat → ByteArray
  | 0 => ⟨#[]⟩
  | 1 => ⟨#[115]⟩
  | _ => ⟨#[115, 101, 101, 100, 32, 50]⟩
theorem build3s (w : World) : (Instr.buildSlice 51 3 #[(0, .string ⟨#[]⟩), (1, .string ⟨#[115]⟩), (2, .string ⟨#[115, 101, 101, 100, 32, 50]⟩)]).run Tryd.prog w = .ok (.slice (some ⟨w.heap.size, 0, none⟩) 3 3) (w.alloc (.cells #[.string ⟨#[]⟩, .string ⟨#[115]⟩, .string ⟨#[115, 101, 101, 100, 32, 50]⟩] 9)) := by
  go_simp
theorem run_index3s (b k : Nat) (hk : k < 3) (w : World) : (Instr.indexAt 51 (.slice (some ⟨b, 0, none⟩) 3 3) (.int .i64 (k : Int))).run Tryd.prog w = .ok (.pointer (some ⟨b, k, none⟩)) w := by
  have h1 : (k : Int) < 3 := by omega
  have h2 : (0 : Int) ≤ k := by omega
  go_simp
theorem run_getI (w : World) (b k : Nat) (v : Int) (h : w.cell? ⟨b, k, none⟩ = some (.int .i64 v)) : (Instr.loadAt 3 (.pointer (some ⟨b, k, none⟩))).run Tryd.prog w = .ok (.int .i64 v) w := by
  go_simp
theorem run_getS (w : World) (b k : Nat) (v : ByteArray) (h : w.cell? ⟨b, k, none⟩ = some (.string v)) : (Instr.loadAt 9 (.pointer (some ⟨b, k, none⟩))).run Tryd.prog w = .ok (.string v) w := by
  go_simp
theorem run_split6 (w : World) (s : ByteArray) (n lo : Int) : (Instr.build 24 #[(0, .string s), (3, .int .i64 n), (4, .int .i64 lo)]).run Tryd.prog w = .ok (.agg #[.string s, .slice none 0 0, .int .i64 0, .int .i64 n, .int .i64 lo, .int .i64 0]) w := by
  go_simp
theorem zero_split (w : World) : (zeroValue 24).run Tryd.prog w = .ok (.agg #[.string ⟨#[]⟩, .slice none 0 0, .int .i64 0, .int .i64 0, .int .i64 0, .int .i64 0]) w := by kernel_rfl
theorem run_getL (w : World) (b k : Nat) (A : Option Addr) (n c : Nat) (h : w.cell? ⟨b, k, none⟩ = some (.slice A n c)) : (Instr.loadAt 22 (.pointer (some ⟨b, k, none⟩))).run Tryd.prog w = .ok (.slice A n c) w := by
  go_simp
theorem build1i (w : World) (x : Int) : (Instr.buildSlice 22 1 #[(0, .int .i64 x)]).run Tryd.prog w = .ok (.slice (some ⟨w.heap.size, 0, none⟩) 1 1) (w.alloc (.cells #[.int .i64 x] 3)) := by
  go_simp
theorem run_mulI (w : World) (u v o : Int) (h : o = u * v) (hb : -1000000 ≤ o ∧ o ≤ 1000000) (x y : Operand) : (do eqGuard BinOp.mul 3 x y (.int .i64 u) (.int .i64 v); binOp BinOp.mul 3 (.int .i64 u) (.int .i64 v)).run Tryd.prog w = .ok (.int .i64 o) w := by
  have e : IntKind.i64.wrap (u * v) = o := by rw [← h]; exact i64_in _ (by omega) (by omega)
  clear h hb
  go_simp
theorem run_subI (w : World) (u v o : Int) (h : o = u - v) (hb : -1000000 ≤ o ∧ o ≤ 1000000) (x y : Operand) : (do eqGuard BinOp.sub 3 x y (.int .i64 u) (.int .i64 v); binOp BinOp.sub 3 (.int .i64 u) (.int .i64 v)).run Tryd.prog w = .ok (.int .i64 o) w := by
  have e : IntKind.i64.wrap (u - v) = o := by rw [← h]; exact i64_in _ (by omega) (by omega)
  clear h hb
  go_simp
theorem run_addI (w : World) (u v o : Int) (h : o = u + v) (hb : -1000000 ≤ o ∧ o ≤ 1000000) (x y : Operand) : (do eqGuard BinOp.add 3 x y (.int .i64 u) (.int .i64 v); binOp BinOp.add 3 (.int .i64 u) (.int .i64 v)).run Tryd.prog w = .ok (.int .i64 o) w := by
  have e : IntKind.i64.wrap (u + v) = o := by rw [← h]; exact i64_in _ (by omega) (by omega)
  clear h hb
  go_simp
theorem run_fieldS (b k : Nat) (hk : k < 6) (w : World) : (Instr.fieldAt 24 (.pointer (some ⟨b, 0, none⟩)) k).run Tryd.prog w = .ok (.pointer (some ⟨b, k, none⟩)) w := by
  match k, hk with
  | 0, _ => go_simp
  | 1, _ => go_simp
  | 2, _ => go_simp
  | 3, _ => go_simp
  | 4, _ => go_simp
  | 5, _ => go_simp

def mN (l : List Int) : Int := atN l 1 13
def mLo (l : List Int) : Int := atN l 2 7 - 2
def mHi (l : List Int) : Int := mLo l + atN l 3 12
def mPath (l : List Int) (k : Nat) : List Int := (List.range k).map fun i => atN l (5 + i) 100
def mTot (l : List Int) : Int := mN l * mLo l + atN l 9 (mN l * (mHi l - mLo l) + 1)
/-- What Made makes. -/
def MadeE (l : List Int) (w : World) (e : Ending) (w' : World) : Prop :=
  ∃ A c, e = .returned (spl (seedM (atN l 0 3).toNat) A (mPath l (atN l 4 4).toNat).length c (mTot l) (mN l) (mLo l) (mHi l)) ∧ Rd w' w'.heap.size A ((mPath l (atN l 4 4).toNat).map iv) ∧ (mPath l (atN l 4 4).toNat).length ≤ c ∧ c ≤ maxLen ∧ Below w.heap.size w w'

set_option maxHeartbeats 8000000 in
theorem made_any (A : Option Addr) (cap : Nat) (l : List Int) (w : World) (hr : Rd w w.heap.size A (l.map iv)) (hI : ∀ n ∈ l, M.I64 n) (hl : l.length ≤ 9223372036854775807) :
    Calls Tryd.prog 9 #[.slice A l.length cap] w (MadeE l w) := by
  have h0 := atN_lt l 0 3 (by decide)
  have h1 := atN_lt l 1 13 (by decide)
  have h2 := atN_lt l 2 7 (by decide)
  have h3 := atN_lt l 3 12 (by decide)
  have h4 := atN_lt l 4 4 (by decide)
  have cA : ∀ (W : World), Below w.heap.size w W → ∀ (i : Nat) (most : Int), M.I64 most → Calls Tryd.prog 27 #[.slice A l.length cap, .int .i64 (i : Int), .int .i64 most] W fun e w' => e = .returned (.int .i64 (atN l i most)) ∧ w' = W := fun W hb i most hm => atN_any A cap l i most W ((hr.below hb).more hb.size) hI hm hl
  obtain ⟨ans, hans⟩ : ∃ ans, ans = MadeE l w := ⟨_, rfl⟩
  rw [← hans]
  obtain ⟨zi, hzi⟩ : ∃ o, o = atN l 0 3 := ⟨_, rfl⟩
  obtain ⟨n, hn⟩ : ∃ o, o = mN l := ⟨_, rfl⟩
  obtain ⟨l0, hl0⟩ : ∃ o, o = atN l 2 7 := ⟨_, rfl⟩
  obtain ⟨lo, hlo⟩ : ∃ o, o = mLo l := ⟨_, rfl⟩
  obtain ⟨x0, hx0⟩ : ∃ o, o = atN l 3 12 := ⟨_, rfl⟩
  obtain ⟨hi, hhi⟩ : ∃ o, o = mHi l := ⟨_, rfl⟩
  obtain ⟨K, hK⟩ : ∃ K : Nat, atN l 4 4 = (K : Int) := Int.eq_ofNat_of_zero_le h4.1
  have elo : lo = l0 - 2 := by rw [hlo, hl0]; rfl
  have ehi : hi = lo + x0 := by rw [hhi, hlo, hx0]; rfl
  have hn' : n = atN l 1 13 := hn
  rw [← hzi] at h0
  rw [← hn'] at h1
  rw [← hl0] at h2
  rw [← hx0] at h3
  rw [hK] at h4
  have e1 := fun W => run_subI W l0 2 lo elo (by omega)
  obtain ⟨sd, hsd⟩ : ∃ sd, sd = seedM zi.toNat := ⟨_, rfl⟩
  have e2 : ∃ zn : Nat, zi = (zn : Int) ∧ zn < 3 ∧ [Value.string ⟨#[]⟩, .string ⟨#[115]⟩, .string ⟨#[115, 101, 101, 100, 32, 50]⟩][zn]? = some (.string sd) := by
    obtain ⟨zn, hz⟩ := Int.eq_ofNat_of_zero_le h0.1
    refine ⟨zn, hz, by omega, ?_⟩
    have h5 : zn < 3 := by omega
    rw [hsd, hz, Int.toNat_natCast]
    match zn, h5 with
    | 0, _ => rfl
    | 1, _ => rfl
    | 2, _ => rfl
  obtain ⟨N, hN⟩ : ∃ N, N = l.length := ⟨_, rfl⟩
  rw [← hN] at cA ⊢
  have CA := Lib.hid cA
  have HE := Lib.hid (And.intro hzi (And.intro e1 (And.intro hn' (And.intro e2 (And.intro hl0 hx0)))))
  have HA := Lib.hid (And.intro hans (And.intro hsd (And.intro hn (And.intro hlo (And.intro hhi hK)))))
  have HX := Lib.hid (And.intro elo (And.intro ehi (And.intro h1 (And.intro h2 (And.intro h3 h4)))))
  clear cA hN hzi hn hl0 hlo hx0 hhi hK elo ehi hn' e1 e2 hsd hans h0 h1 h2 h3 h4 hr hI hl
  go_enter Tryd.func9, Tryd.ntmps9
  go_wp2_with fail
  try go_frame
  have hk0 := Blk.new w [.string ⟨#[]⟩, .slice none 0 0, .int .i64 0, .int .i64 0, .int .i64 0, .int .i64 0] 24
  have hb0 : Below w.heap.size w (w.alloc (.cells #[.string ⟨#[]⟩, .slice none 0 0, .int .i64 0, .int .i64 0, .int .i64 0, .int .i64 0] 24)) := (Below.refl _ _).alloc (Nat.le_refl _) _
  have hsz : (w.alloc (.cells #[.string ⟨#[]⟩, .slice none 0 0, .int .i64 0, .int .i64 0, .int .i64 0, .int .i64 0] 24)).heap.size = w.heap.size + 1 := by simp
  obtain ⟨W, hW⟩ : ∃ W, W = w.alloc (.cells #[.string ⟨#[]⟩, .slice none 0 0, .int .i64 0, .int .i64 0, .int .i64 0, .int .i64 0] 24) := ⟨_, rfl⟩
  have hk0 : Blk W w.heap.size [.string ⟨#[]⟩, .slice none 0 0, .int .i64 0, .int .i64 0, .int .i64 0, .int .i64 0] 24 := by rw [hW]; exact hk0
  rw [← hW] at hb0 hsz
  have HK0 := Lib.hid hk0
  have HB := Lib.hid hb0
  have HS := Lib.hid hsz
  try rw [← hW]
  clear hk0 hb0 hsz hW
  refine wp_region_list [5, 6, 7, 8, 9, 10, 11, 12, 13, 14, 15, 3] [.blk [.string ⟨#[]⟩, .string ⟨#[115]⟩, .string ⟨#[115, 101, 101, 100, 32, 50]⟩] 3 9, .is (.slice A N cap), .is (.int .i64 zi), .ptr (.string sd), .is (.string sd), .is (.slice A N cap), .is (.int .i64 n), .is (.slice A N cap), .is (.int .i64 l0), .is (.int .i64 lo), .is (.agg #[.string sd, .slice none 0 0, .int .i64 0, .int .i64 n, .int .i64 lo, .int .i64 0]), .var (w.heap.size + 1) #[.string ⟨#[]⟩, .slice none 0 0, .int .i64 0, .int .i64 0, .int .i64 0, .int .i64 0] 24] (by kernel_rfl) (by kernel_rfl) ?_ ?_
  · intro y0 hy0 b w' hb hd hx o ho
    match y0, hy0 with
    | 0, _ =>
      obtain rfl := Option.some.inj ho
      exact runs_value (X := Instr.buildSlice 51 3 #[(0, .string ⟨#[]⟩), (1, .string ⟨#[115]⟩), (2, .string ⟨#[115, 101, 101, 100, 32, 50]⟩)]) (by unfold execOp; simp [Act.eval]) (build3s w') ⟨⟨w'.heap.size, rfl, Blk.new w' [.string ⟨#[]⟩, .string ⟨#[115]⟩, .string ⟨#[115, 101, 101, 100, 32, 50]⟩] 9⟩, (Below.refl _ _).alloc (Nat.le_refl _) _⟩
    | 1, _ => obtain rfl := Option.some.inj ho; exact ⟨hx 0 rfl, Below.refl _ _⟩
    | 2, _ =>
      obtain rfl := Option.some.inj ho
      have e0 : b.tmps.getD 6 undef = .slice A N cap := hd 1 (by kernel_rfl) (by decide)
      refine runs_call rfl (fun _ _ => rfl) ?_
      show Calls _ _ #[b.tmps.getD 6 undef, .int .i64 0, .int .i64 3] w' _
      rw [e0]
      exact (CA.out w' (HB.out.trans (hb.mono HB.out.size)) 0 3 (by constructor <;> decide)).mono fun e w'' h => ⟨_, h.1, by rw [HE.out.1]; rfl, by rw [h.2]; exact Below.refl _ _⟩
    | 3, _ =>
      obtain rfl := Option.some.inj ho
      obtain ⟨g, e0, hg⟩ := hd 0 (by kernel_rfl) (by decide)
      have e0 : b.tmps.getD 5 undef = .slice (some ⟨g, 0, none⟩) 3 3 := e0
      have e1 : b.tmps.getD 7 undef = .int .i64 zi := hd 2 (by kernel_rfl) (by decide)
      obtain ⟨zn, hz1, hz2, hz3⟩ := HE.out.2.2.2.1
      have hr := run_index3s g zn hz2 w'
      rw [← hz1, ← e0, ← e1] at hr
      exact runs_value rfl hr ⟨⟨g, zn, rfl, hg.cell zn _ hz3, hg.lt⟩, Below.refl _ _⟩
    | 4, _ =>
      obtain rfl := Option.some.inj ho
      obtain ⟨g, off, e0, hc, -⟩ := hd 3 (by kernel_rfl) (by decide)
      have e0 : b.tmps.getD 8 undef = .pointer (some ⟨g, off, none⟩) := e0
      have hr := run_getS w' g off sd hc
      rw [← e0] at hr
      exact runs_value rfl hr ⟨rfl, Below.refl _ _⟩
    | 5, _ => obtain rfl := Option.some.inj ho; exact ⟨hx 0 rfl, Below.refl _ _⟩
    | 6, _ =>
      obtain rfl := Option.some.inj ho
      have e0 : b.tmps.getD 10 undef = .slice A N cap := hd 5 (by kernel_rfl) (by decide)
      refine runs_call rfl (fun _ _ => rfl) ?_
      show Calls _ _ #[b.tmps.getD 10 undef, .int .i64 1, .int .i64 13] w' _
      rw [e0]
      exact (CA.out w' (HB.out.trans (hb.mono HB.out.size)) 1 13 (by constructor <;> decide)).mono fun e w'' h => ⟨_, h.1, by rw [HE.out.2.2.1]; rfl, by rw [h.2]; exact Below.refl _ _⟩
    | 7, _ => obtain rfl := Option.some.inj ho; exact ⟨hx 0 rfl, Below.refl _ _⟩
    | 8, _ =>
      obtain rfl := Option.some.inj ho
      have e0 : b.tmps.getD 12 undef = .slice A N cap := hd 7 (by kernel_rfl) (by decide)
      refine runs_call rfl (fun _ _ => rfl) ?_
      show Calls _ _ #[b.tmps.getD 12 undef, .int .i64 2, .int .i64 7] w' _
      rw [e0]
      exact (CA.out w' (HB.out.trans (hb.mono HB.out.size)) 2 7 (by constructor <;> decide)).mono fun e w'' h => ⟨_, h.1, by rw [HE.out.2.2.2.2.1]; rfl, by rw [h.2]; exact Below.refl _ _⟩
    | 9, _ =>
      obtain rfl := Option.some.inj ho
      have e0 : b.tmps.getD 13 undef = .int .i64 l0 := hd 8 (by kernel_rfl) (by decide)
      have hr := HE.out.2.1 w' (.tmp 13) (.const (.int .i64 2))
      rw [← e0] at hr
      exact runs_value rfl hr ⟨rfl, Below.refl _ _⟩
    | 10, _ =>
      obtain rfl := Option.some.inj ho
      have e0 : b.tmps.getD 9 undef = .string sd := hd 4 (by kernel_rfl) (by decide)
      have e1 : b.tmps.getD 11 undef = .int .i64 n := hd 6 (by kernel_rfl) (by decide)
      have e2 : b.tmps.getD 14 undef = .int .i64 lo := hd 9 (by kernel_rfl) (by decide)
      have hr := run_split6 w' sd n lo
      refine runs_value (X := Instr.build 24 #[(0, b.tmps.getD 9 undef), (3, b.tmps.getD 11 undef), (4, b.tmps.getD 14 undef)]) (by unfold execOp; simp [Act.eval]) (by rw [e0, e1, e2]; exact hr) ⟨rfl, Below.refl _ _⟩
    | 11, _ =>
      obtain rfl := Option.some.inj ho
      exact runs_value rfl (run_alloc_row zero_split w') ⟨⟨w'.heap.size, rfl, by have := hb.size; have := HS.out; omega, heap_alloc_new w' _⟩, (Below.refl _ _).alloc (Nat.le_refl _) _⟩
    | n + 12, h => exact absurd h (by simp)
  intro vals w9 hb9 hf9
  obtain ⟨g, v12, hg1, hg2⟩ := hf9 11 (by decide)
  have v12 : vals 11 = .pointer (some ⟨g, 0, none⟩) := v12
  have v11 : vals 10 = .agg #[.string sd, .slice none 0 0, .int .i64 0, .int .i64 n, .int .i64 lo, .int .i64 0] := hf9 10 (by decide)
  simp only [puts, List.length_cons, List.length_nil, Nat.zero_add, Nat.reduceAdd, List.drop_succ_cons, List.drop_zero, v11, v12]
  have hz : Blk w9 g [.string ⟨#[]⟩, .slice none 0 0, .int .i64 0, .int .i64 0, .int .i64 0, .int .i64 0] 24 := hg2
  have z0 := hz.cell 0 _ rfl
  have z1 := hz.cell 1 _ rfl
  have z2 := hz.cell 2 _ rfl
  have z3 := hz.cell 3 _ rfl
  have z4 := hz.cell 4 _ rfl
  have z5 := hz.cell 5 _ rfl
  have y0 := hz.frozen 0
  have y1 := hz.frozen 1
  have y2 := hz.frozen 2
  have y3 := hz.frozen 3
  have y4 := hz.frozen 4
  have y5 := hz.frozen 5
  have HZ := Lib.hid (And.intro hz hg1)
  have B9 := Lib.hid (HB.out.trans (hb9.mono HB.out.size))
  have R9 := Lib.hid (HK0.out.below hb9 HK0.out.lt)
  clear hg2 hg1 hz hb9 hf9 v11 v12
  try go_frame
  go_wp2_with fail
  clear z0 z1 z2 z3 z4 z5 y0 y1 y2 y3 y4 y5
  obtain ⟨W2, hW2⟩ : ∃ x, x = (((((w9.setCell ⟨g, 0, none⟩ (.string sd)).setCell ⟨g, 1, none⟩ (.slice none 0 0)).setCell ⟨g, 2, none⟩ (.int .i64 0)).setCell ⟨g, 3, none⟩ (.int .i64 n)).setCell ⟨g, 4, none⟩ (.int .i64 lo)).setCell ⟨g, 5, none⟩ (.int .i64 0) := ⟨_, rfl⟩
  have hne : w.heap.size ≠ g := by have := HZ.out.2; omega
  have hg : w.heap.size ≤ g := by have := HZ.out.2; omega
  have k2 : Blk W2 g [.string sd, .slice none 0 0, .int .i64 0, .int .i64 n, .int .i64 lo, .int .i64 0] 24 := by rw [hW2]; exact (((((HZ.out.1.set 0 _).set 1 _).set 2 _).set 3 _).set 4 _).set 5 _
  have r2 : Blk W2 w.heap.size [.string ⟨#[]⟩, .slice none 0 0, .int .i64 0, .int .i64 0, .int .i64 0, .int .i64 0] 24 := by rw [hW2]; exact (((((R9.out.other _ _ hne).other _ _ hne).other _ _ hne).other _ _ hne).other _ _ hne).other _ _ hne
  have b2 : Below w.heap.size w W2 := by rw [hW2]; exact (((((B9.out.setCell hg _).setCell hg _).setCell hg _).setCell hg _).setCell hg _).setCell hg _
  have e4 := fun W => run_addI W lo x0 hi HX.out.2.1 (by have := HX.out; omega)
  have HF := Lib.hid e4
  have HB2 := Lib.hid b2
  have K2 := Lib.hid k2
  have R2 := Lib.hid r2
  have HN := Lib.hid (And.intro hne hg)
  try rw [← hW2]
  clear hne hg k2 r2 b2 e4 hW2 HZ B9 R9 HB HK0 HS
  refine wp_region_list [16, 17, 18, 19, 20] [.is (.pointer (some ⟨g, 4, none⟩)), .is (.int .i64 lo), .is (.slice A N cap), .is (.int .i64 x0), .is (.int .i64 hi)] (by kernel_rfl) (by kernel_rfl) ?_ ?_
  · intro y0 hy0 b w' hb hd hx o ho
    match y0, hy0 with
    | 0, _ =>
      obtain rfl := Option.some.inj ho
      have e0 : b.tmps.getD 3 undef = .pointer (some ⟨g, 0, none⟩) := hx 3 rfl
      have hr := run_fieldS g 4 (by decide) w'
      rw [← e0] at hr
      exact runs_value rfl hr ⟨rfl, Below.refl _ _⟩
    | 1, _ =>
      obtain rfl := Option.some.inj ho
      have e0 : b.tmps.getD 16 undef = .pointer (some ⟨g, 4, none⟩) := hd 0 (by kernel_rfl) (by decide)
      have hr := run_getI w' g 4 lo ((K2.out.below hb K2.out.lt).cell 4 _ rfl)
      rw [← e0] at hr
      exact runs_value rfl hr ⟨rfl, Below.refl _ _⟩
    | 2, _ => obtain rfl := Option.some.inj ho; exact ⟨hx 0 rfl, Below.refl _ _⟩
    | 3, _ =>
      obtain rfl := Option.some.inj ho
      have e0 : b.tmps.getD 18 undef = .slice A N cap := hd 2 (by kernel_rfl) (by decide)
      refine runs_call rfl (fun _ _ => rfl) ?_
      show Calls _ _ #[b.tmps.getD 18 undef, .int .i64 3, .int .i64 12] w' _
      rw [e0]
      exact (CA.out w' (HB2.out.trans (hb.mono HB2.out.size)) 3 12 (by constructor <;> decide)).mono fun e w'' h => ⟨_, h.1, by rw [HE.out.2.2.2.2.2]; rfl, by rw [h.2]; exact Below.refl _ _⟩
    | 4, _ =>
      obtain rfl := Option.some.inj ho
      have e0 : b.tmps.getD 17 undef = .int .i64 lo := hd 1 (by kernel_rfl) (by decide)
      have e1 : b.tmps.getD 19 undef = .int .i64 x0 := hd 3 (by kernel_rfl) (by decide)
      have hr := HF.out w' (.tmp 17) (.tmp 19)
      rw [← e0, ← e1] at hr
      exact runs_value rfl hr ⟨rfl, Below.refl _ _⟩
    | n + 5, h => exact absurd h (by simp)
  intro vals2 wa hba hfa
  have v4 : vals2 4 = .int .i64 hi := hfa 4 (by decide)
  simp only [puts, List.length_cons, List.length_nil, Nat.zero_add, Nat.reduceAdd, List.drop_succ_cons, List.drop_zero, v4]
  have hz := K2.out.below hba K2.out.lt
  have hr := R2.out.below hba R2.out.lt
  have y5 := hz.frozen 5
  have z5 := hz.cell 5 _ rfl
  have HZ := Lib.hid (And.intro hz (And.intro hr (HB2.out.trans (hba.mono HB2.out.size))))
  clear v4 hba hfa hz hr K2 R2 HB2
  try go_frame
  go_wp2_with fail
  clear z5 y5
  obtain ⟨W3, hW3⟩ : ∃ x, x = wa.setCell ⟨g, 5, none⟩ (.int .i64 hi) := ⟨_, rfl⟩
  have k3 : Blk W3 g [.string sd, .slice none 0 0, .int .i64 0, .int .i64 n, .int .i64 lo, .int .i64 hi] 24 := by rw [hW3]; exact HZ.out.1.set 5 _
  have r3 : Blk W3 w.heap.size [.string ⟨#[]⟩, .slice none 0 0, .int .i64 0, .int .i64 0, .int .i64 0, .int .i64 0] 24 := by rw [hW3]; exact HZ.out.2.1.other _ _ HN.out.1
  have b3 : Below w.heap.size w W3 := by rw [hW3]; exact HZ.out.2.2.setCell HN.out.2 _
  have K3 := Lib.hid (And.intro k3 (And.intro r3 b3))
  rw [← hW3]
  clear hW3 k3 r3 b3 HZ
  have hpl : ∀ k, (mPath l k).length = k := fun k => by unfold mPath; simp
  have hps : ∀ k, mPath l (k + 1) = mPath l k ++ [atN l (5 + k) 100] := fun k => by unfold mPath; rw [List.range_succ]; simp
  have HPa := Lib.hid (And.intro hpl hps)
  clear hpl hps
  go_loopw [4] (fun i wr => ∃ (k : Nat) (v : Value), k ≤ K ∧ i = .int .i64 k ∧ Blk wr g [.string sd, v, .int .i64 0, .int .i64 n, .int .i64 lo, .int .i64 hi] 24 ∧ Blk wr w.heap.size [.string ⟨#[]⟩, .slice none 0 0, .int .i64 0, .int .i64 0, .int .i64 0, .int .i64 0] 24 ∧ wr.ownsRow W3.heap.size 3 1 v (mPath l k).length ((mPath l k).map iv) ∧ Below w.heap.size w wr ∧ W3.heap.size ≤ wr.heap.size) (fun i _ => K - (intOf i).toNat)
  case atStart => exact ⟨0, _, Nat.zero_le _, rfl, K3.out.1, K3.out.2.1, World.ownsRow_nil _ _ _ _, K3.out.2.2, Nat.le_refl _⟩
  case round =>
    obtain ⟨k, v, hk, rfl, hblk, hres, hown, hbw, hsz⟩ := hrel
    have cK := (CA.out wr hbw 4 4 (by constructor <;> decide))
    rw [HA.out.2.2.2.2.2] at cK
    have CK := Lib.hid cK
    have HL := Lib.hid (And.intro hblk (And.intro hres (And.intro hown (And.intro hbw hsz))))
    clear cK hblk hres hown hbw hsz
    have hK3 : K ≤ 3 := by have := HX.out.2.2.2.2.2; omega
    by_cases hlt : k < K
    · have hlt2 : (k : Int) < K := by omega
      go_wp2_with fail
      refine CK.out.mono ?_
      rintro e wv ⟨rfl, rfl⟩
      go_wp2_with fail
      obtain ⟨Ap, cp, rfl, hrdp, hcp, -⟩ := own_rd (B := 0) HL.out.2.2.1
      obtain ⟨x, hx5⟩ : ∃ x, x = atN l (5 + k) 100 := ⟨_, rfl⟩
      obtain ⟨P, hP⟩ : ∃ P, P = mPath l k := ⟨_, rfl⟩
      have hPl : P.length = k := by rw [hP]; exact HPa.out.1 k
      have hPs : mPath l (k + 1) = P ++ [x] := by rw [hP, hx5]; exact HPa.out.2 k
      have hgW : g < W3.heap.size := K3.out.1.lt
      have hwW : w.heap.size < W3.heap.size := K3.out.2.1.lt
      have e6 := fun W => run_addI W 5 k ((5 + k : Nat) : Int) (by omega) (by omega)
      have HL2 := Lib.hid HL.out
      rw [← hP] at HL2
      have HP := Lib.hid (And.intro hPl (And.intro hPs (And.intro hgW (And.intro hwW (And.intro e6 hx5)))))
      clear hrdp hcp hx5 hPl hPs hgW hwW e6
      clear hP HL CK
      refine wp_region_list [28, 29, 30, 31, 32, 33, 34] [.is (.pointer (some ⟨g, 1, none⟩)), .is (.slice Ap P.length cp), .is (.slice A N cap), .is (.int .i64 k), .is (.int .i64 ((5 + k : Nat) : Int)), .is (.int .i64 x), .blk [iv x] 1 3] (by kernel_rfl) (by kernel_rfl) ?_ ?_
      · intro y0 hy0 b w' hb hd hx o ho
        match y0, hy0 with
        | 0, _ =>
          obtain rfl := Option.some.inj ho
          have e0 : b.tmps.getD 3 undef = .pointer (some ⟨g, 0, none⟩) := hx 3 rfl
          have hr := run_fieldS g 1 (by decide) w'
          rw [← e0] at hr
          exact runs_value rfl hr ⟨rfl, Below.refl _ _⟩
        | 1, _ =>
          obtain rfl := Option.some.inj ho
          have e0 : b.tmps.getD 28 undef = .pointer (some ⟨g, 1, none⟩) := hd 0 (by kernel_rfl) (by decide)
          have hr := run_getL w' g 1 Ap P.length cp ((HL2.out.1.below hb HL2.out.1.lt).cell 1 _ rfl)
          rw [← e0] at hr
          exact runs_value rfl hr ⟨rfl, Below.refl _ _⟩
        | 2, _ => obtain rfl := Option.some.inj ho; exact ⟨hx 0 rfl, Below.refl _ _⟩
        | 3, _ => obtain rfl := Option.some.inj ho; exact ⟨hx 4 rfl, Below.refl _ _⟩
        | 4, _ =>
          obtain rfl := Option.some.inj ho
          have e0 : b.tmps.getD 31 undef = .int .i64 k := hd 3 (by kernel_rfl) (by decide)
          have hr := HP.out.2.2.2.2.1 w' (.const (.int .i64 5)) (.tmp 31)
          rw [← e0] at hr
          exact runs_value rfl hr ⟨rfl, Below.refl _ _⟩
        | 5, _ =>
          obtain rfl := Option.some.inj ho
          have e0 : b.tmps.getD 30 undef = .slice A N cap := hd 2 (by kernel_rfl) (by decide)
          have e1 : b.tmps.getD 32 undef = .int .i64 ((5 + k : Nat) : Int) := hd 4 (by kernel_rfl) (by decide)
          refine runs_call rfl (fun _ _ => rfl) ?_
          show Calls _ _ #[b.tmps.getD 30 undef, b.tmps.getD 32 undef, .int .i64 100] w' _
          rw [e0, e1]
          exact (CA.out w' (HL2.out.2.2.2.1.trans (hb.mono HL2.out.2.2.2.1.size)) (5 + k) 100 (by constructor <;> decide)).mono fun e w'' h => ⟨_, h.1, by rw [HP.out.2.2.2.2.2]; rfl, by rw [h.2]; exact Below.refl _ _⟩
        | 6, _ =>
          obtain rfl := Option.some.inj ho
          have e0 : b.tmps.getD 33 undef = .int .i64 x := hd 5 (by kernel_rfl) (by decide)
          have hr := build1i w' x
          rw [← e0] at hr
          refine runs_value (X := Instr.buildSlice 22 1 #[(0, b.tmps.getD 33 undef)]) (by unfold execOp; simp [Act.eval]) hr ⟨⟨w'.heap.size, rfl, ?_⟩, (Below.refl _ _).alloc (Nat.le_refl _) _⟩
          rw [e0]
          exact Blk.new w' [iv x] 3
        | n + 7, h => exact absurd h (by simp)
      intro vals6 wb hb6 hf6
      have v1 : vals6 1 = .slice Ap P.length cp := hf6 1 (by decide)
      obtain ⟨V, v6, hV⟩ := hf6 6 (by decide)
      have v6 : vals6 6 = .slice (some ⟨V, 0, none⟩) 1 1 := v6
      simp only [puts, List.length_cons, List.length_nil, Nat.zero_add, Nat.reduceAdd, List.drop_succ_cons, List.drop_zero, v1, v6]
      have hown6 := own_below HL2.out.2.2.1 hb6 (Nat.le_refl _)
      have hbB := hb6.mono HL2.out.2.2.2.2
      have hz6 : Rd wb wb.heap.size (some ⟨V, 0, none⟩) ([x].map iv) := fun _ => ⟨V, 0, rfl, hV.lt, fun j u hu => by rw [Nat.zero_add]; exact hV.cell j u hu⟩
      have hszb : W3.heap.size ≤ wb.heap.size := Nat.le_trans HL2.out.2.2.2.2 hb6.size
      have hPl3 : P.length ≤ 3 := by have := HP.out.1; omega
      have HO := Lib.hid (And.intro hown6 (And.intro hbB (And.intro hz6 hszb)))
      clear v1 v6 hf6 hV hown6 hbB hz6 hszb hb6
      try go_frame
      go_wp2_with (at_builtin; refine wpList_append_ownI _ rfl (.tmp 29) (.tmp 34) rfl W3.heap.size _ P [x] (some ⟨V, 0, none⟩) 1 rfl rfl HO.out.1 HO.out.2.2.1 (by simp; omega) HO.out.2.2.2 ?_; intro v' wc hown' hgrow; obtain ⟨Aq, cq, rfl, -, -, -⟩ := own_rd (B := 0) hown'; have hbc := HO.out.2.1.grown hgrow HO.out.2.2.2 (fun j hj => (HO.out.1.lt j hj).1); have zc := HL2.out.1.below hbc HP.out.2.2.1; have z1 := zc.cell 1 _ rfl; have y1 := zc.frozen 1)
      have hbw := HL2.out.2.2.2.1
      go_roundw
      case rel =>
        refine ⟨k + 1, _, by omega, by go_num, zc.set 1 _, (HL2.out.2.1.below hbc HP.out.2.2.2.1).other _ _ (by have := HN.out.1; exact this), ?_, ?_, ?_⟩
        · rw [HP.out.2.1]
          rw [← show (P ++ [x]).length = P.length + 1 by simp]
          exact ownsRow_setCell_below (a := ⟨g, 1, none⟩) hown' HP.out.2.2.1 _
        · exact (hbw.trans (hbc.mono (Nat.le_trans (Nat.le_of_lt HP.out.2.2.2.1) (Nat.le_refl _)))).setCell HN.out.2 _
        · have := hbc.size
          have := HL2.out.2.2.2.2
          simp
          omega
      case measure => simp [intOf]; omega
    · obtain rfl : k = K := by omega
      have hlt2 : ¬ (k : Int) < k := by omega
      go_wp2_with fail
      refine CK.out.mono ?_
      rintro e wv ⟨rfl, rfl⟩
      go_wp2_with fail
      obtain ⟨Ap, cp, rfl, -, -, -⟩ := own_rd (B := 0) HL.out.2.2.1
      have hgW : g < W3.heap.size := K3.out.1.lt
      have hwW : w.heap.size < W3.heap.size := K3.out.2.1.lt
      have hbd := HX.out
      obtain ⟨m1, hm1⟩ : ∃ m, m = n * lo := ⟨_, rfl⟩
      obtain ⟨m2, hm2⟩ : ∃ m, m = n * x0 := ⟨_, rfl⟩
      have b1 : n * -2 ≤ n * lo := Int.mul_le_mul_of_nonneg_left (by omega) (by omega)
      have b2 : n * lo ≤ n * 4 := Int.mul_le_mul_of_nonneg_left (by omega) (by omega)
      have b3 : n * 0 ≤ n * x0 := Int.mul_le_mul_of_nonneg_left (by omega) (by omega)
      have b4 : n * x0 ≤ n * 11 := Int.mul_le_mul_of_nonneg_left (by omega) (by omega)
      rw [← hm1] at b1 b2
      rw [← hm2] at b3 b4
      have hdx : hi - lo = x0 := by omega
      have lY := atN_lt l 9 (m2 + 1) (by omega)
      obtain ⟨y, hy⟩ : ∃ y, y = atN l 9 (m2 + 1) := ⟨_, rfl⟩
      rw [← hy] at lY
      obtain ⟨t, ht⟩ : ∃ t, t = m1 + y := ⟨_, rfl⟩
      have htT : t = mTot l := by
        rw [ht, hm1, hy, hm2]
        unfold mTot
        rw [← HA.out.2.2.1, ← HA.out.2.2.2.1, ← HA.out.2.2.2.2.1, hdx]
      have e1 := fun W => run_mulI W n lo m1 hm1 (by omega)
      have e2 := fun W => run_subI W hi lo x0 hdx.symm (by omega)
      have e3 := fun W => run_mulI W n x0 m2 hm2 (by omega)
      have e4 := fun W => run_addI W m2 1 (m2 + 1) rfl (by omega)
      have e5 := fun W => run_addI W m1 y t ht (by omega)
      have mI : M.I64 (m2 + 1) := by unfold M.I64; omega
      have HQ := Lib.hid (And.intro e1 (And.intro e2 (And.intro e3 (And.intro e4 (And.intro e5 (And.intro hy mI))))))
      have HT := Lib.hid (And.intro htT (And.intro hgW hwW))
      clear hbd b1 b2 b3 b4 hdx lY hy ht htT e1 e2 e3 e4 e5 mI hgW hwW hm1 hm2 CK
      refine wp_region_list [37, 38, 39, 40, 41, 42, 43, 44, 45, 46, 47, 48, 49, 50, 51, 52, 53] [.is (.pointer (some ⟨g, 3, none⟩)), .is (.int .i64 n), .is (.pointer (some ⟨g, 4, none⟩)), .is (.int .i64 lo), .is (.int .i64 m1), .is (.slice A N cap), .is (.pointer (some ⟨g, 3, none⟩)), .is (.int .i64 n), .is (.pointer (some ⟨g, 5, none⟩)), .is (.int .i64 hi), .is (.pointer (some ⟨g, 4, none⟩)), .is (.int .i64 lo), .is (.int .i64 x0), .is (.int .i64 m2), .is (.int .i64 (m2 + 1)), .is (.int .i64 y), .is (.int .i64 t)] (by kernel_rfl) (by kernel_rfl) ?_ ?_
      · intro y0 hy0 b w' hb hd hx o ho
        match y0, hy0 with
        | 0, _ =>
          obtain rfl := Option.some.inj ho
          have e0 : b.tmps.getD 3 undef = .pointer (some ⟨g, 0, none⟩) := hx 3 rfl
          have hr := run_fieldS g 3 (by decide) w'
          rw [← e0] at hr
          exact runs_value rfl hr ⟨rfl, Below.refl _ _⟩
        | 1, _ =>
          obtain rfl := Option.some.inj ho
          have e0 : b.tmps.getD 37 undef = .pointer (some ⟨g, 3, none⟩) := hd 0 (by kernel_rfl) (by decide)
          have hr := run_getI w' g 3 n ((HL.out.1.below hb HL.out.1.lt).cell 3 _ rfl)
          rw [← e0] at hr
          exact runs_value rfl hr ⟨rfl, Below.refl _ _⟩
        | 2, _ =>
          obtain rfl := Option.some.inj ho
          have e0 : b.tmps.getD 3 undef = .pointer (some ⟨g, 0, none⟩) := hx 3 rfl
          have hr := run_fieldS g 4 (by decide) w'
          rw [← e0] at hr
          exact runs_value rfl hr ⟨rfl, Below.refl _ _⟩
        | 3, _ =>
          obtain rfl := Option.some.inj ho
          have e0 : b.tmps.getD 39 undef = .pointer (some ⟨g, 4, none⟩) := hd 2 (by kernel_rfl) (by decide)
          have hr := run_getI w' g 4 lo ((HL.out.1.below hb HL.out.1.lt).cell 4 _ rfl)
          rw [← e0] at hr
          exact runs_value rfl hr ⟨rfl, Below.refl _ _⟩
        | 4, _ =>
          obtain rfl := Option.some.inj ho
          have e0 : b.tmps.getD 38 undef = .int .i64 n := hd 1 (by kernel_rfl) (by decide)
          have e1 : b.tmps.getD 40 undef = .int .i64 lo := hd 3 (by kernel_rfl) (by decide)
          have hr := HQ.out.1 w' (.tmp 38) (.tmp 40)
          rw [← e0, ← e1] at hr
          exact runs_value rfl hr ⟨rfl, Below.refl _ _⟩
        | 5, _ => obtain rfl := Option.some.inj ho; exact ⟨hx 0 rfl, Below.refl _ _⟩
        | 6, _ =>
          obtain rfl := Option.some.inj ho
          have e0 : b.tmps.getD 3 undef = .pointer (some ⟨g, 0, none⟩) := hx 3 rfl
          have hr := run_fieldS g 3 (by decide) w'
          rw [← e0] at hr
          exact runs_value rfl hr ⟨rfl, Below.refl _ _⟩
        | 7, _ =>
          obtain rfl := Option.some.inj ho
          have e0 : b.tmps.getD 43 undef = .pointer (some ⟨g, 3, none⟩) := hd 6 (by kernel_rfl) (by decide)
          have hr := run_getI w' g 3 n ((HL.out.1.below hb HL.out.1.lt).cell 3 _ rfl)
          rw [← e0] at hr
          exact runs_value rfl hr ⟨rfl, Below.refl _ _⟩
        | 8, _ =>
          obtain rfl := Option.some.inj ho
          have e0 : b.tmps.getD 3 undef = .pointer (some ⟨g, 0, none⟩) := hx 3 rfl
          have hr := run_fieldS g 5 (by decide) w'
          rw [← e0] at hr
          exact runs_value rfl hr ⟨rfl, Below.refl _ _⟩
        | 9, _ =>
          obtain rfl := Option.some.inj ho
          have e0 : b.tmps.getD 45 undef = .pointer (some ⟨g, 5, none⟩) := hd 8 (by kernel_rfl) (by decide)
          have hr := run_getI w' g 5 hi ((HL.out.1.below hb HL.out.1.lt).cell 5 _ rfl)
          rw [← e0] at hr
          exact runs_value rfl hr ⟨rfl, Below.refl _ _⟩
        | 10, _ =>
          obtain rfl := Option.some.inj ho
          have e0 : b.tmps.getD 3 undef = .pointer (some ⟨g, 0, none⟩) := hx 3 rfl
          have hr := run_fieldS g 4 (by decide) w'
          rw [← e0] at hr
          exact runs_value rfl hr ⟨rfl, Below.refl _ _⟩
        | 11, _ =>
          obtain rfl := Option.some.inj ho
          have e0 : b.tmps.getD 47 undef = .pointer (some ⟨g, 4, none⟩) := hd 10 (by kernel_rfl) (by decide)
          have hr := run_getI w' g 4 lo ((HL.out.1.below hb HL.out.1.lt).cell 4 _ rfl)
          rw [← e0] at hr
          exact runs_value rfl hr ⟨rfl, Below.refl _ _⟩
        | 12, _ =>
          obtain rfl := Option.some.inj ho
          have e0 : b.tmps.getD 46 undef = .int .i64 hi := hd 9 (by kernel_rfl) (by decide)
          have e1 : b.tmps.getD 48 undef = .int .i64 lo := hd 11 (by kernel_rfl) (by decide)
          have hr := HQ.out.2.1 w' (.tmp 46) (.tmp 48)
          rw [← e0, ← e1] at hr
          exact runs_value rfl hr ⟨rfl, Below.refl _ _⟩
        | 13, _ =>
          obtain rfl := Option.some.inj ho
          have e0 : b.tmps.getD 44 undef = .int .i64 n := hd 7 (by kernel_rfl) (by decide)
          have e1 : b.tmps.getD 49 undef = .int .i64 x0 := hd 12 (by kernel_rfl) (by decide)
          have hr := HQ.out.2.2.1 w' (.tmp 44) (.tmp 49)
          rw [← e0, ← e1] at hr
          exact runs_value rfl hr ⟨rfl, Below.refl _ _⟩
        | 14, _ =>
          obtain rfl := Option.some.inj ho
          have e0 : b.tmps.getD 50 undef = .int .i64 m2 := hd 13 (by kernel_rfl) (by decide)
          have hr := HQ.out.2.2.2.1 w' (.tmp 50) (.const (.int .i64 1))
          rw [← e0] at hr
          exact runs_value rfl hr ⟨rfl, Below.refl _ _⟩
        | 15, _ =>
          obtain rfl := Option.some.inj ho
          have e0 : b.tmps.getD 42 undef = .slice A N cap := hd 5 (by kernel_rfl) (by decide)
          have e1 : b.tmps.getD 51 undef = .int .i64 (m2 + 1) := hd 14 (by kernel_rfl) (by decide)
          refine runs_call rfl (fun _ _ => rfl) ?_
          show Calls _ _ #[b.tmps.getD 42 undef, .int .i64 9, b.tmps.getD 51 undef] w' _
          rw [e0, e1]
          exact (CA.out w' (HL.out.2.2.2.1.trans (hb.mono HL.out.2.2.2.1.size)) 9 (m2 + 1) HQ.out.2.2.2.2.2.2).mono fun e w'' h => ⟨_, h.1, by rw [HQ.out.2.2.2.2.2.1]; rfl, by rw [h.2]; exact Below.refl _ _⟩
        | 16, _ =>
          obtain rfl := Option.some.inj ho
          have e0 : b.tmps.getD 41 undef = .int .i64 m1 := hd 4 (by kernel_rfl) (by decide)
          have e1 : b.tmps.getD 52 undef = .int .i64 y := hd 15 (by kernel_rfl) (by decide)
          have hr := HQ.out.2.2.2.2.1 w' (.tmp 41) (.tmp 52)
          rw [← e0, ← e1] at hr
          exact runs_value rfl hr ⟨rfl, Below.refl _ _⟩
        | n + 17, h => exact absurd h (by simp)
      intro vals7 wd hbd7 hf7
      have v16 : vals7 16 = .int .i64 t := hf7 16 (by decide)
      simp only [puts, List.length_cons, List.length_nil, Nat.zero_add, Nat.reduceAdd, List.drop_succ_cons, List.drop_zero, v16]
      have hz := HL.out.1.below hbd7 HL.out.1.lt
      have hr := HL.out.2.1.below hbd7 HL.out.2.1.lt
      have y2 := hz.frozen 2
      have z0 := hz.cell 0 _ rfl
      have z1 := hz.cell 1 _ rfl
      have z2 := hz.cell 2 _ rfl
      have z3 := hz.cell 3 _ rfl
      have z4 := hz.cell 4 _ rfl
      have z5 := hz.cell 5 _ rfl
      have r0 := hr.cell 0 _ rfl
      have r1 := hr.cell 1 _ rfl
      have r2 := hr.cell 2 _ rfl
      have r3 := hr.cell 3 _ rfl
      have r4 := hr.cell 4 _ rfl
      have r5 := hr.cell 5 _ rfl
      have u0 := hr.frozen 0
      have u1 := hr.frozen 1
      have u2 := hr.frozen 2
      have u3 := hr.frozen 3
      have u4 := hr.frozen 4
      have u5 := hr.frozen 5
      have ne1 : ¬ w.heap.size = g := HN.out.1
      have ne2 : ¬ g = w.heap.size := fun h => HN.out.1 h.symm
      have ow := own_below HL.out.2.2.1 hbd7 (Nat.le_refl _)
      have HZ := Lib.hid (And.intro hr (And.intro (HL.out.2.2.2.1.trans (hbd7.mono HL.out.2.2.2.1.size)) ow))
      clear v16 hbd7 hf7 hz hr HL ow
      try go_frame
      go_wp2_with fail
      have kf : Blk _ w.heap.size [.string sd, .slice Ap (mPath l k).length cp, .int .i64 t, .int .i64 n, .int .i64 lo, .int .i64 hi] 24 := ((((((HZ.out.1.other ⟨g, 2, none⟩ (.int .i64 t) HN.out.1).set 0 (.string sd)).set 1 (.slice Ap (mPath l k).length cp)).set 2 (.int .i64 t)).set 3 (.int .i64 n)).set 4 (.int .i64 lo)).set 5 (.int .i64 hi)
      refine bodyPost_ret (results_cell_row rfl _ _ w.heap.size 24 #[.string sd, .slice Ap (mPath l k).length cp, .int .i64 t, .int .i64 n, .int .i64 lo, .int .i64 hi] (0, 0) _ rfl kf Tryd.underlying24 rfl (by kernel_rfl)) rfl ?_
      rw [HA.out.1]
      unfold MadeE spl
      rw [HA.out.2.2.2.2.2, Int.toNat_natCast, ← HE.out.1, ← HA.out.2.1, ← HA.out.2.2.1, ← HA.out.2.2.2.1, ← HA.out.2.2.2.2.1, ← HT.out.1]
      have ow := ownsRow_setCell_below (a := ⟨g, 2, none⟩) HZ.out.2.2 HT.out.2.1 (.int .i64 t)
      have ow := ownsRow_setCell_below (a := ⟨w.heap.size, 0, none⟩) ow HT.out.2.2 (.string sd)
      have ow := ownsRow_setCell_below (a := ⟨w.heap.size, 1, none⟩) ow HT.out.2.2 (.slice Ap (mPath l k).length cp)
      have ow := ownsRow_setCell_below (a := ⟨w.heap.size, 2, none⟩) ow HT.out.2.2 (.int .i64 t)
      have ow := ownsRow_setCell_below (a := ⟨w.heap.size, 3, none⟩) ow HT.out.2.2 (.int .i64 n)
      have ow := ownsRow_setCell_below (a := ⟨w.heap.size, 4, none⟩) ow HT.out.2.2 (.int .i64 lo)
      have ow := ownsRow_setCell_below (a := ⟨w.heap.size, 5, none⟩) ow HT.out.2.2 (.int .i64 hi)
      obtain ⟨A', c', e', hrd, h1, h2⟩ := own_rd (B := 0) ow
      cases e'
      exact ⟨Ap, cp, rfl, hrd, h1, h2, ((((((HZ.out.2.1.setCell HN.out.2 _).setCell (Nat.le_refl _) _).setCell (Nat.le_refl _) _).setCell (Nat.le_refl _) _).setCell (Nat.le_refl _) _).setCell (Nat.le_refl _) _).setCell (Nat.le_refl _) _⟩
end Go.Proofs.YtjdidnonfmdfmaaDoor
end

