import Derived.Test.YtkgddcemocfgfaaGreatDoorJZSmRh

section
/- The reference of schemas: Words, line. -/

namespace Go.Proofs.YtkgddcemocfgfaaGreatDoor
open Go.RowKit
set_option linter.unusedVariables false
set_option linter.unusedSimpArgs false
set_option maxRecDepth 100000

namespace Sm
/-- The words that begin fields. -/
def wordsL : List ByteArray := [⟨#[107, 101, 121]⟩, ⟨#[114, 101, 102]⟩, ⟨#[110, 117, 109]⟩, ⟨#[112, 105, 99, 107]⟩, ⟨#[100, 97, 121]⟩, ⟨#[115, 116, 101, 112]⟩, ⟨#[115, 117, 109]⟩, ⟨#[115, 104, 97, 114, 101]⟩, ⟨#[99, 111, 112, 121]⟩]
def word (k : Int) : ByteArray := wordsL.getD k.toNat ⟨#[]⟩
def line0 (f : Fd) : ByteArray := ⟨#[10]⟩ ++ word f.kind ++ ⟨#[32]⟩ ++ f.name
def line1 (f : Fd) : ByteArray := if usesUp f.kind then line0 f ++ ⟨#[32]⟩ ++ f.up else line0 f
def line2 (f : Fd) : ByteArray := if usesOf f.kind then line1 f ++ ⟨#[32]⟩ ++ tok f.of else line1 f
def line3 (f : Fd) : ByteArray := if usesLo f.kind then and (line2 f) f.lo else line2 f
def line4 (f : Fd) : ByteArray := if usesHi f.kind then and (line3 f) f.hi else line3 f
def pair (o : ByteArray) (p : ByteArray × Int) : ByteArray := and (o ++ ⟨#[32]⟩ ++ p.1) p.2
def pairs (f : Fd) : List (ByteArray × Int) := f.words.zip f.weights
/-- The line of a field. -/
def line (f : Fd) : ByteArray := if usesWords f.kind then (pairs f).foldl pair (and (line4 f) f.words.length) else line4 f
/-- Sizes that are not great. -/
structure Small (f : Fd) : Prop where
 kind0 : 0 ≤ f.kind
 kind1 : f.kind < 9
 name : f.name.size ≤ 100
 of : f.of.size ≤ 100
 up : f.up.size ≤ 100
 lo0 : -1099511627776 < f.lo
 lo1 : f.lo < 1099511627776
 hi0 : -1099511627776 < f.hi
 hi1 : f.hi < 1099511627776
 same : f.words.length = f.weights.length
 few : f.words.length ≤ 100
 words : ∀ s ∈ f.words, s.size ≤ 100
 weights : ∀ n ∈ f.weights, -1099511627776 < n ∧ n < 1099511627776
end Sm

theorem smWords_any (w : World) : Calls Tryz.prog 109 #[] w fun e w' => ∃ g, e = .returned (.slice (some ⟨g, 0, none⟩) 9 9) ∧ Blk w' g (Sm.wordsL.map sv) 9 ∧ Below w.heap.size w w' := by
 go_enter Tryz.func109, Tryz.ntmps109
 go_wp2_with fail
 go_ret
 exact ⟨w.heap.size, rfl, Blk.new w (Sm.wordsL.map sv) _, (Below.refl _ _).alloc (Nat.le_refl _) _⟩

/-- A new row of the words. -/
def Fact.wordsF : Fact := ⟨fun v w => ∃ g, v = .slice (some ⟨g, 0, none⟩) 9 9 ∧ Blk w g (Sm.wordsL.map sv) 9, fun _ _ _ ⟨g, h1, h2⟩ hb => ⟨g, h1, h2.below hb h2.lt⟩⟩
/-- The address of a cell that holds u. -/
def Fact.cellF (u : Value) : Fact := ⟨fun v w => ∃ a : Addr, v = .pointer (some a) ∧ w.cell? a = some u ∧ a.block < w.heap.size, fun _ w w' ⟨a, h1, h2, h3⟩ hb => ⟨a, h1, (hb.cell h3).trans h2, Nat.lt_of_lt_of_le h3 hb.size⟩⟩
theorem run_cat (X Y : Operand) (w : World) (x y : ByteArray) (hx : x.size ≤ 8388608) (hy : y.size ≤ 8388608) :
  (do eqGuard .add 9 X Y (.string x) (.string y); binOp .add 9 (.string x) (.string y) : Sem Value).run Tryz.prog w = .ok (.string (x ++ y)) w := by
 go_simp
 omega
theorem run_field_field (W : World) (b i : Nat) (hi : i = 0 ∨ i = 3) : (Instr.fieldAt 74 (.pointer (some ⟨b, 0, none⟩)) i).run Tryz.prog W = .ok (.pointer (some ⟨b, i, none⟩)) W := by
 rcases hi with rfl | rfl <;> go_simp
theorem run_index_words (g k : Nat) (hk : k < 9) (w : World) : (Instr.indexAt 45 (.slice (some ⟨g, 0, none⟩) 9 9) (.int .i64 (k : Int))).run Tryz.prog w = .ok (.pointer (some ⟨g, k, none⟩)) w := by
 have h1 : (k : Int) < 9 := by omega
 have h0 : (0 : Int) ≤ k := by omega
 go_simp
theorem word_at (k : Nat) (hk : k < 9) : (Sm.wordsL.map sv)[k]? = some (sv (Sm.word k)) := by
 unfold Sm.word
 rw [Int.toNat_natCast, List.getElem?_map, List.getD_eq_getElem?_getD, List.getElem?_eq_getElem (show k < Sm.wordsL.length by exact hk)]
 rfl
theorem word_size (k : Nat) (hk : k < 9) : (Sm.word k).size ≤ 5 := by
 have : k = 0 ∨ k = 1 ∨ k = 2 ∨ k = 3 ∨ k = 4 ∨ k = 5 ∨ k = 6 ∨ k = 7 ∨ k = 8 := by omega
 rcases this with rfl | rfl | rfl | rfl | rfl | rfl | rfl | rfl | rfl <;> decide

set_option maxHeartbeats 8000000 in
theorem smLine_any (f : Sm.Fd) (Aw : Option Addr) (cw : Nat) (Ag : Option Addr) (cg : Nat) (w : World) (hw : Rd w w.heap.size Aw (f.words.map sv)) (hg : Rd w w.heap.size Ag (f.weights.map iv)) (hS : Sm.Small f) :
  Calls Tryz.prog 57 #[fdV f Aw cw Ag cg] w fun e w' => e = .returned (.string (Sm.line f)) ∧ Below w.heap.size w w' := by
 have hk0 := hS.kind0
 have hk1 := hS.kind1
 have cU := fun W => smUses_any f.kind W
 unfold fdV
 obtain ⟨k, hk⟩ : ∃ k : Nat, f.kind = (k : Int) := Int.eq_ofNat_of_zero_le hk0
 obtain ⟨L, hL⟩ : ∃ L, L = Sm.line f := ⟨_, rfl⟩
 obtain ⟨L0, hL0⟩ : ∃ L, L = Sm.line0 f := ⟨_, rfl⟩
 obtain ⟨wd, hwd⟩ : ∃ wd, wd = Sm.word k := ⟨_, rfl⟩
 have hws : wd.size ≤ 5 := by rw [hwd]; exact word_size k (by omega)
 have hns := hS.name
 obtain ⟨name, hname⟩ : ∃ n, n = f.name := ⟨_, rfl⟩
 have hL1 : L0 = ⟨#[10]⟩ ++ wd ++ ⟨#[32]⟩ ++ name := by rw [hL0, hwd, hname, ← hk]; rfl
 rw [← hname] at hns
 rw [← hL]
 rw [hk] at cU hk1 ⊢
 obtain ⟨N, hN⟩ : ∃ N, N = f.weights.length := ⟨_, rfl⟩
 obtain ⟨M, hM⟩ : ∃ M, M = f.words.length := ⟨_, rfl⟩
 obtain ⟨of, hof⟩ : ∃ n, n = f.of := ⟨_, rfl⟩
 obtain ⟨up, hup⟩ : ∃ n, n = f.up := ⟨_, rfl⟩
 obtain ⟨lo, hlo⟩ : ∃ n, n = f.lo := ⟨_, rfl⟩
 obtain ⟨hi, hhi⟩ : ∃ n, n = f.hi := ⟨_, rfl⟩
 have HL := Lib.hid (And.intro hL (And.intro hL0 (And.intro hwd (And.intro hname (And.intro hN (And.intro hM (And.intro hof (And.intro hup (And.intro hlo (And.intro hhi (And.intro hk (And.intro hS (And.intro hw hg)))))))))))))
 have CU := Lib.hid cU
 have H1 := Lib.hid hL1
 rw [← hname, ← hof, ← hup, ← hlo, ← hhi, ← hN, ← hM]
 clear hw hg cU hL hL0 hL1 hwd hname hof hup hlo hhi hN hM hk hS hk0
 go_enter Tryz.func57, Tryz.ntmps57
 go_wp2_with fail
 refine (CU.out _).mono ?_
 rintro e w1 ⟨rfl, rfl⟩
 unfold usesV
 obtain ⟨uo, huo⟩ : ∃ u, u = Sm.usesOf k := ⟨_, rfl⟩
 obtain ⟨uu, huu⟩ : ∃ u, u = Sm.usesUp k := ⟨_, rfl⟩
 obtain ⟨ul, hul⟩ : ∃ u, u = Sm.usesLo k := ⟨_, rfl⟩
 obtain ⟨uh, huh⟩ : ∃ u, u = Sm.usesHi k := ⟨_, rfl⟩
 obtain ⟨uw, huw⟩ : ∃ u, u = Sm.usesWords k := ⟨_, rfl⟩
 rw [← huo, ← huu, ← hul, ← huh, ← huw]
 have HU := Lib.hid (And.intro huo (And.intro huu (And.intro hul (And.intro huh huw))))
 clear huo huu hul huh huw
 go_wp2_with fail
 obtain ⟨W, hW⟩ : ∃ W, W = w.alloc (.cells #[.string name, .string of, .string up, .int .i64 k, .int .i64 lo, .int .i64 hi, .slice Aw M cw, .slice Ag N cg] 74) := ⟨_, rfl⟩
 have hkb : Blk W w.heap.size [.string name, .string of, .string up, .int .i64 k, .int .i64 lo, .int .i64 hi, .slice Aw M cw, .slice Ag N cg] 74 := by rw [hW]; exact Blk.new w _ _
 have hb : Below w.heap.size w W := by rw [hW]; exact (Below.refl _ _).alloc (Nat.le_refl _) _
 rw [← hW]
 have HB := Lib.hid (And.intro hkb hb)
 clear hW hkb hb
 refine wp_region_list [19, 20, 21, 22, 23, 24, 25, 26, 27, 28] [.wordsF, .is (.pointer (some ⟨w.heap.size, 3, none⟩)), .is (.int .i64 k), .cellF (.string wd), .is (.string wd), .is (.string (⟨#[10]⟩ ++ wd)), .is (.string (⟨#[10]⟩ ++ wd ++ ⟨#[32]⟩)), .is (.pointer (some ⟨w.heap.size, 0, none⟩)), .is (.string name), .is (.string (⟨#[10]⟩ ++ wd ++ ⟨#[32]⟩ ++ name))] (by kernel_rfl) (by kernel_rfl) ?_ ?_
 ·intro i hi' b w' hb' hd hx o ho
  match i, hi' with
  | 0, _ =>
   obtain rfl := Option.some.inj ho
   refine runs_call (args := []) rfl (fun _ _ => rfl) ?_
   exact (smWords_any w').mono fun e w'' ⟨g, h1, h2, h3⟩ => ⟨_, h1, ⟨g, rfl, h2⟩, h3⟩
  | 1, _ =>
   obtain rfl := Option.some.inj ho
   have e : b.tmps.getD 1 undef = .pointer (some ⟨w.heap.size, 0, none⟩) := hx 1 rfl
   have hr := run_field_field w' w.heap.size 3 (.inr rfl)
   rw [← e] at hr
   exact runs_value rfl hr ⟨rfl, Below.refl _ _⟩
  | 2, _ =>
   obtain rfl := Option.some.inj ho
   have e : b.tmps.getD 20 undef = .pointer (some ⟨w.heap.size, 3, none⟩) := hd 1 (by kernel_rfl) (by decide)
   have hc := (HB.out.1.below hb' HB.out.1.lt).cell 3 _ rfl
   refine runs_value (X := Instr.loadAt 3 (b.tmps.getD 20 undef)) (by unfold execOp; simp [Act.eval]) ?_ ⟨rfl, Below.refl _ _⟩
   rw [e]
   go_simp
  | 3, _ =>
   obtain rfl := Option.some.inj ho
   obtain ⟨g, e, hB⟩ := hd 0 (by kernel_rfl) (by decide)
   have e2 : b.tmps.getD 21 undef = .int .i64 k := hd 2 (by kernel_rfl) (by decide)
   have hr := run_index_words g k (by omega) w'
   rw [← e2, ← show b.tmps.getD 19 undef = _ from e] at hr
   refine runs_value rfl hr ⟨⟨⟨g, k, none⟩, rfl, ?_, hB.lt⟩, Below.refl _ _⟩
   rw [HL.out.2.2.1]
   exact hB.cell k _ (word_at k (by omega))
  | 4, _ =>
   obtain rfl := Option.some.inj ho
   obtain ⟨a, e, hc, -⟩ := hd 3 (by kernel_rfl) (by decide)
   refine runs_value (X := Instr.loadAt 9 (b.tmps.getD 22 undef)) (by unfold execOp; simp [Act.eval]) ?_ ⟨rfl, Below.refl _ _⟩
   rw [show b.tmps.getD 22 undef = _ from e]
   go_simp
  | 5, _ =>
   obtain rfl := Option.some.inj ho
   have e : b.tmps.getD 23 undef = .string wd := hd 4 (by kernel_rfl) (by decide)
   refine runs_value rfl ?_ ⟨rfl, Below.refl _ _⟩
   rw [show b.eval (.tmp 23) = _ from e]
   exact run_cat _ _ w' ⟨#[10]⟩ wd (by decide) (by omega)
  | 6, _ =>
   obtain rfl := Option.some.inj ho
   have e : b.tmps.getD 24 undef = .string (⟨#[10]⟩ ++ wd) := hd 5 (by kernel_rfl) (by decide)
   refine runs_value rfl ?_ ⟨rfl, Below.refl _ _⟩
   rw [show b.eval (.tmp 24) = _ from e]
   exact run_cat _ _ w' (⟨#[10]⟩ ++ wd) ⟨#[32]⟩ (by rw [ByteArray.size_append, show (ByteArray.mk #[10]).size = 1 from rfl]; omega) (by decide)
  | 7, _ =>
   obtain rfl := Option.some.inj ho
   have e : b.tmps.getD 1 undef = .pointer (some ⟨w.heap.size, 0, none⟩) := hx 1 rfl
   have hr := run_field_field w' w.heap.size 0 (.inl rfl)
   rw [← e] at hr
   exact runs_value rfl hr ⟨by rw [e]; rfl, Below.refl _ _⟩
  | 8, _ =>
   obtain rfl := Option.some.inj ho
   have e : b.tmps.getD 26 undef = .pointer (some ⟨w.heap.size, 0, none⟩) := hd 7 (by kernel_rfl) (by decide)
   have hc := (HB.out.1.below hb' HB.out.1.lt).cell 0 _ rfl
   refine runs_value (X := Instr.loadAt 9 (b.tmps.getD 26 undef)) (by unfold execOp; simp [Act.eval]) ?_ ⟨rfl, Below.refl _ _⟩
   rw [e]
   go_simp
  | 9, _ =>
   obtain rfl := Option.some.inj ho
   have e1 : b.tmps.getD 25 undef = .string (⟨#[10]⟩ ++ wd ++ ⟨#[32]⟩) := hd 6 (by kernel_rfl) (by decide)
   have e2 : b.tmps.getD 27 undef = .string name := hd 8 (by kernel_rfl) (by decide)
   refine runs_value rfl ?_ ⟨rfl, Below.refl _ _⟩
   rw [show b.eval (.tmp 25) = _ from e1, show b.eval (.tmp 27) = _ from e2]
   exact run_cat _ _ w' _ name (by rw [ByteArray.size_append, ByteArray.size_append, show (ByteArray.mk #[10]).size = 1 from rfl, show (ByteArray.mk #[32]).size = 1 from rfl]; omega) (by omega)
 ·intro vals w' hb' hf
  have e9 : vals 9 = .string (⟨#[10]⟩ ++ wd ++ ⟨#[32]⟩ ++ name) := hf 9 (by decide)
  rw [← H1.out] at e9
  simp only [puts, List.length_cons, List.length_nil, Nat.zero_add, Nat.reduceAdd, List.drop_succ_cons, List.drop_zero, e9]
  have HB2 := Lib.hid (And.intro (HB.out.1.below hb' HB.out.1.lt) (HB.out.2.trans (hb'.mono HB.out.2.size)))
  clear e9 hf hb' HB
  go_frame
  have CN := Lib.hid (fun s W => smNamed_any s W)
  have hL0s : L0.size ≤ 107 := by
   rw [H1.out]
   simp only [ByteArray.size_append, show (ByteArray.mk #[32]).size = 1 from rfl, show (ByteArray.mk #[10]).size = 1 from rfl]
   omega
  have hos : of.size ≤ 100 := by rw [HL.out.2.2.2.2.2.2.1]; exact HL.out.2.2.2.2.2.2.2.2.2.2.2.1.of
  have hus : up.size ≤ 100 := by rw [HL.out.2.2.2.2.2.2.2.1]; exact HL.out.2.2.2.2.2.2.2.2.2.2.2.1.up
  have hts : (Sm.tok of).size ≤ 100 := by unfold Sm.tok; split; decide; exact hos
  have hl0 : -1099511627776 < lo ∧ lo < 1099511627776 := by rw [HL.out.2.2.2.2.2.2.2.2.1]; exact ⟨HL.out.2.2.2.2.2.2.2.2.2.2.2.1.lo0, HL.out.2.2.2.2.2.2.2.2.2.2.2.1.lo1⟩
  have hh0 : -1099511627776 < hi ∧ hi < 1099511627776 := by rw [HL.out.2.2.2.2.2.2.2.2.2.1]; exact ⟨HL.out.2.2.2.2.2.2.2.2.2.2.2.1.hi0, HL.out.2.2.2.2.2.2.2.2.2.2.2.1.hi1⟩
  have hMs : M ≤ 100 := by rw [HL.out.2.2.2.2.2.1]; exact HL.out.2.2.2.2.2.2.2.2.2.2.2.1.few
  have hkk : k = 0 ∨ k = 1 ∨ k = 2 ∨ k = 3 ∨ k = 4 ∨ k = 5 ∨ k = 6 ∨ k = 7 ∨ k = 8 := by omega
  obtain ⟨hl1, hl2⟩ := hl0
  obtain ⟨hh1, hh2⟩ := hh0
  rcases hkk with h | h | h | h | h | h | h | h | h
  --KINDS
  ·obtain rfl : k = 0 := h
   obtain rfl : uo = false := by rw [HU.out.1]; rfl
   obtain rfl : uu = false := by rw [HU.out.2.1]; rfl
   obtain rfl : ul = true := by rw [HU.out.2.2.1]; rfl
   obtain rfl : uh = false := by rw [HU.out.2.2.2.1]; rfl
   obtain rfl : uw = false := by rw [HU.out.2.2.2.2]; rfl
   have hX : L = Sm.and (Sm.line0 f) f.lo := by rw [HL.out.1]; unfold Sm.line Sm.line4 Sm.line3 Sm.line2 Sm.line1; rw [HL.out.2.2.2.2.2.2.2.2.2.2.1]; rfl
   rw [← HL.out.2.1, ← HL.out.2.2.2.2.2.2.2.2.1] at hX
   have HX := Lib.hid hX
   clear hX
   have HB0 := Lib.hid HB2.out
   have c0 := HB0.out.1.cell 0 _ rfl
   have c1 := HB0.out.1.cell 1 _ rfl
   have c2 := HB0.out.1.cell 2 _ rfl
   have c3 := HB0.out.1.cell 3 _ rfl
   have c4 := HB0.out.1.cell 4 _ rfl
   have c5 := HB0.out.1.cell 5 _ rfl
   have c6 := HB0.out.1.cell 6 _ rfl
   have c7 := HB0.out.1.cell 7 _ rfl
   go_wp2_with fail
   all_goals first | (exfalso; go_light; omega) | skip
   obtain ⟨S0, hS0⟩ : ∃ t, t = L0 := ⟨_, rfl⟩
   have hz : S0.size ≤ 400 := by (rw [hS0]; (try simp only [ByteArray.size_append, show (ByteArray.mk #[32]).size = 1 from rfl]); omega)
   rw [← hS0]
   have HS0 := Lib.hid hS0
   clear hS0
   refine (smAnd_any S0 lo _ (by omega) (by omega) (by omega)).mono ?_
   rintro e wa0 ⟨rfl, hb⟩
   have hy := Sm.and_size (S0) lo (by omega) (by omega)
   have g := HB0.out.1.below hb HB0.out.1.lt
   have HB1 := Lib.hid (And.intro g (HB0.out.2.trans (hb.mono HB0.out.2.size)))
   obtain ⟨A0, hA0⟩ : ∃ a, a = Sm.and (S0) lo := ⟨_, rfl⟩
   rw [← hA0] at hy ⊢
   have hs0 : A0.size ≤ 500 := by omega
   have HA0 := Lib.hid hA0
   clear hA0 hy hz g hb c0 c1 c2 c3 c4 c5 c6 c7
   have c0 := HB1.out.1.cell 0 _ rfl
   have c1 := HB1.out.1.cell 1 _ rfl
   have c2 := HB1.out.1.cell 2 _ rfl
   have c3 := HB1.out.1.cell 3 _ rfl
   have c4 := HB1.out.1.cell 4 _ rfl
   have c5 := HB1.out.1.cell 5 _ rfl
   have c6 := HB1.out.1.cell 6 _ rfl
   have c7 := HB1.out.1.cell 7 _ rfl
   go_wp2_with fail
   all_goals first | (exfalso; go_light; omega) | skip
   go_ret
   exact ⟨by show Ending.returned (Value.string _) = Ending.returned (Value.string L); rw [HX.out, HA0.out, HS0.out], HB1.out.2⟩
  ·obtain rfl : k = 1 := h
   obtain rfl : uo = true := by rw [HU.out.1]; rfl
   obtain rfl : uu = false := by rw [HU.out.2.1]; rfl
   obtain rfl : ul = true := by rw [HU.out.2.2.1]; rfl
   obtain rfl : uh = true := by rw [HU.out.2.2.2.1]; rfl
   obtain rfl : uw = false := by rw [HU.out.2.2.2.2]; rfl
   have hX : L = Sm.and (Sm.and (Sm.line0 f ++ ⟨#[32]⟩ ++ Sm.tok f.of) f.lo) f.hi := by rw [HL.out.1]; unfold Sm.line Sm.line4 Sm.line3 Sm.line2 Sm.line1; rw [HL.out.2.2.2.2.2.2.2.2.2.2.1]; rfl
   rw [← HL.out.2.1, ← HL.out.2.2.2.2.2.2.1, ← HL.out.2.2.2.2.2.2.2.2.1, ← HL.out.2.2.2.2.2.2.2.2.2.1] at hX
   have HX := Lib.hid hX
   clear hX
   have HB0 := Lib.hid HB2.out
   have c0 := HB0.out.1.cell 0 _ rfl
   have c1 := HB0.out.1.cell 1 _ rfl
   have c2 := HB0.out.1.cell 2 _ rfl
   have c3 := HB0.out.1.cell 3 _ rfl
   have c4 := HB0.out.1.cell 4 _ rfl
   have c5 := HB0.out.1.cell 5 _ rfl
   have c6 := HB0.out.1.cell 6 _ rfl
   have c7 := HB0.out.1.cell 7 _ rfl
   go_wp2_with fail
   all_goals first | (exfalso; go_light; omega) | skip
   refine (CN.out _ _).mono ?_
   rintro e w1' ⟨rfl, rfl⟩
   go_wp2_with fail
   all_goals first | (exfalso; go_light; omega) | skip
   obtain ⟨S0, hS0⟩ : ∃ t, t = L0 ++ ⟨#[32]⟩ ++ Sm.tok of := ⟨_, rfl⟩
   have hz : S0.size ≤ 400 := by (rw [hS0]; (try simp only [ByteArray.size_append, show (ByteArray.mk #[32]).size = 1 from rfl]); omega)
   rw [← hS0]
   have HS0 := Lib.hid hS0
   clear hS0
   refine (smAnd_any S0 lo _ (by omega) (by omega) (by omega)).mono ?_
   rintro e wa0 ⟨rfl, hb⟩
   have hy := Sm.and_size (S0) lo (by omega) (by omega)
   have g := HB0.out.1.below hb HB0.out.1.lt
   have HB1 := Lib.hid (And.intro g (HB0.out.2.trans (hb.mono HB0.out.2.size)))
   obtain ⟨A0, hA0⟩ : ∃ a, a = Sm.and (S0) lo := ⟨_, rfl⟩
   rw [← hA0] at hy ⊢
   have hs0 : A0.size ≤ 500 := by omega
   have HA0 := Lib.hid hA0
   clear hA0 hy hz g hb c0 c1 c2 c3 c4 c5 c6 c7
   have c0 := HB1.out.1.cell 0 _ rfl
   have c1 := HB1.out.1.cell 1 _ rfl
   have c2 := HB1.out.1.cell 2 _ rfl
   have c3 := HB1.out.1.cell 3 _ rfl
   have c4 := HB1.out.1.cell 4 _ rfl
   have c5 := HB1.out.1.cell 5 _ rfl
   have c6 := HB1.out.1.cell 6 _ rfl
   have c7 := HB1.out.1.cell 7 _ rfl
   go_wp2_with fail
   all_goals first | (exfalso; go_light; omega) | skip
   have hz : (A0).size ≤ 500 := by omega
   refine (smAnd_any A0 hi _ (by omega) (by omega) (by omega)).mono ?_
   rintro e wa1 ⟨rfl, hb⟩
   have hy := Sm.and_size (A0) hi (by omega) (by omega)
   have g := HB1.out.1.below hb HB1.out.1.lt
   have HB2 := Lib.hid (And.intro g (HB1.out.2.trans (hb.mono HB1.out.2.size)))
   obtain ⟨A1, hA1⟩ : ∃ a, a = Sm.and (A0) hi := ⟨_, rfl⟩
   rw [← hA1] at hy ⊢
   have hs1 : A1.size ≤ 600 := by omega
   have HA1 := Lib.hid hA1
   clear hA1 hy hz g hb c0 c1 c2 c3 c4 c5 c6 c7
   have c0 := HB2.out.1.cell 0 _ rfl
   have c1 := HB2.out.1.cell 1 _ rfl
   have c2 := HB2.out.1.cell 2 _ rfl
   have c3 := HB2.out.1.cell 3 _ rfl
   have c4 := HB2.out.1.cell 4 _ rfl
   have c5 := HB2.out.1.cell 5 _ rfl
   have c6 := HB2.out.1.cell 6 _ rfl
   have c7 := HB2.out.1.cell 7 _ rfl
   go_wp2_with fail
   all_goals first | (exfalso; go_light; omega) | skip
   go_ret
   exact ⟨by show Ending.returned (Value.string _) = Ending.returned (Value.string L); rw [HX.out, HA1.out, HA0.out, HS0.out], HB2.out.2⟩
  ·obtain rfl : k = 2 := h
   obtain rfl : uo = false := by rw [HU.out.1]; rfl
   obtain rfl : uu = false := by rw [HU.out.2.1]; rfl
   obtain rfl : ul = true := by rw [HU.out.2.2.1]; rfl
   obtain rfl : uh = true := by rw [HU.out.2.2.2.1]; rfl
   obtain rfl : uw = false := by rw [HU.out.2.2.2.2]; rfl
   have hX : L = Sm.and (Sm.and (Sm.line0 f) f.lo) f.hi := by rw [HL.out.1]; unfold Sm.line Sm.line4 Sm.line3 Sm.line2 Sm.line1; rw [HL.out.2.2.2.2.2.2.2.2.2.2.1]; rfl
   rw [← HL.out.2.1, ← HL.out.2.2.2.2.2.2.2.2.1, ← HL.out.2.2.2.2.2.2.2.2.2.1] at hX
   have HX := Lib.hid hX
   clear hX
   have HB0 := Lib.hid HB2.out
   have c0 := HB0.out.1.cell 0 _ rfl
   have c1 := HB0.out.1.cell 1 _ rfl
   have c2 := HB0.out.1.cell 2 _ rfl
   have c3 := HB0.out.1.cell 3 _ rfl
   have c4 := HB0.out.1.cell 4 _ rfl
   have c5 := HB0.out.1.cell 5 _ rfl
   have c6 := HB0.out.1.cell 6 _ rfl
   have c7 := HB0.out.1.cell 7 _ rfl
   go_wp2_with fail
   all_goals first | (exfalso; go_light; omega) | skip
   obtain ⟨S0, hS0⟩ : ∃ t, t = L0 := ⟨_, rfl⟩
   have hz : S0.size ≤ 400 := by (rw [hS0]; (try simp only [ByteArray.size_append, show (ByteArray.mk #[32]).size = 1 from rfl]); omega)
   rw [← hS0]
   have HS0 := Lib.hid hS0
   clear hS0
   refine (smAnd_any S0 lo _ (by omega) (by omega) (by omega)).mono ?_
   rintro e wa0 ⟨rfl, hb⟩
   have hy := Sm.and_size (S0) lo (by omega) (by omega)
   have g := HB0.out.1.below hb HB0.out.1.lt
   have HB1 := Lib.hid (And.intro g (HB0.out.2.trans (hb.mono HB0.out.2.size)))
   obtain ⟨A0, hA0⟩ : ∃ a, a = Sm.and (S0) lo := ⟨_, rfl⟩
   rw [← hA0] at hy ⊢
   have hs0 : A0.size ≤ 500 := by omega
   have HA0 := Lib.hid hA0
   clear hA0 hy hz g hb c0 c1 c2 c3 c4 c5 c6 c7
   have c0 := HB1.out.1.cell 0 _ rfl
   have c1 := HB1.out.1.cell 1 _ rfl
   have c2 := HB1.out.1.cell 2 _ rfl
   have c3 := HB1.out.1.cell 3 _ rfl
   have c4 := HB1.out.1.cell 4 _ rfl
   have c5 := HB1.out.1.cell 5 _ rfl
   have c6 := HB1.out.1.cell 6 _ rfl
   have c7 := HB1.out.1.cell 7 _ rfl
   go_wp2_with fail
   all_goals first | (exfalso; go_light; omega) | skip
   have hz : (A0).size ≤ 500 := by omega
   refine (smAnd_any A0 hi _ (by omega) (by omega) (by omega)).mono ?_
   rintro e wa1 ⟨rfl, hb⟩
   have hy := Sm.and_size (A0) hi (by omega) (by omega)
   have g := HB1.out.1.below hb HB1.out.1.lt
   have HB2 := Lib.hid (And.intro g (HB1.out.2.trans (hb.mono HB1.out.2.size)))
   obtain ⟨A1, hA1⟩ : ∃ a, a = Sm.and (A0) hi := ⟨_, rfl⟩
   rw [← hA1] at hy ⊢
   have hs1 : A1.size ≤ 600 := by omega
   have HA1 := Lib.hid hA1
   clear hA1 hy hz g hb c0 c1 c2 c3 c4 c5 c6 c7
   have c0 := HB2.out.1.cell 0 _ rfl
   have c1 := HB2.out.1.cell 1 _ rfl
   have c2 := HB2.out.1.cell 2 _ rfl
   have c3 := HB2.out.1.cell 3 _ rfl
   have c4 := HB2.out.1.cell 4 _ rfl
   have c5 := HB2.out.1.cell 5 _ rfl
   have c6 := HB2.out.1.cell 6 _ rfl
   have c7 := HB2.out.1.cell 7 _ rfl
   go_wp2_with fail
   all_goals first | (exfalso; go_light; omega) | skip
   go_ret
   exact ⟨by show Ending.returned (Value.string _) = Ending.returned (Value.string L); rw [HX.out, HA1.out, HA0.out, HS0.out], HB2.out.2⟩
  ·obtain rfl : k = 3 := h
   obtain rfl : uo = false := by rw [HU.out.1]; rfl
   obtain rfl : uu = false := by rw [HU.out.2.1]; rfl
   obtain rfl : ul = false := by rw [HU.out.2.2.1]; rfl
   obtain rfl : uh = false := by rw [HU.out.2.2.2.1]; rfl
   obtain rfl : uw = true := by rw [HU.out.2.2.2.2]; rfl
   have hX : L = (Sm.pairs f).foldl Sm.pair (Sm.and (Sm.line0 f) f.words.length) := by rw [HL.out.1]; unfold Sm.line Sm.line4 Sm.line3 Sm.line2 Sm.line1; rw [HL.out.2.2.2.2.2.2.2.2.2.2.1]; rfl
   rw [← HL.out.2.1, ← HL.out.2.2.2.2.2.1] at hX
   have HX := Lib.hid hX
   clear hX
   have HB0 := Lib.hid HB2.out
   have c0 := HB0.out.1.cell 0 _ rfl
   have c1 := HB0.out.1.cell 1 _ rfl
   have c2 := HB0.out.1.cell 2 _ rfl
   have c3 := HB0.out.1.cell 3 _ rfl
   have c4 := HB0.out.1.cell 4 _ rfl
   have c5 := HB0.out.1.cell 5 _ rfl
   have c6 := HB0.out.1.cell 6 _ rfl
   have c7 := HB0.out.1.cell 7 _ rfl
   go_wp2_with fail
   all_goals first | (exfalso; go_light; omega) | skip
   obtain ⟨S0, hS0⟩ : ∃ t, t = L0 := ⟨_, rfl⟩
   have hz : S0.size ≤ 400 := by (rw [hS0]; (try simp only [ByteArray.size_append, show (ByteArray.mk #[32]).size = 1 from rfl]); omega)
   rw [← hS0]
   have HS0 := Lib.hid hS0
   clear hS0
   refine (smAnd_any S0 (M : Int) _ (by omega) (by omega) (by omega)).mono ?_
   rintro e wa0 ⟨rfl, hb⟩
   have hy := Sm.and_size (S0) (M : Int) (by omega) (by omega)
   have g := HB0.out.1.below hb HB0.out.1.lt
   have HB1 := Lib.hid (And.intro g (HB0.out.2.trans (hb.mono HB0.out.2.size)))
   obtain ⟨A0, hA0⟩ : ∃ a, a = Sm.and (S0) (M : Int) := ⟨_, rfl⟩
   rw [← hA0] at hy ⊢
   have hs0 : A0.size ≤ 500 := by omega
   have HA0 := Lib.hid hA0
   clear hA0 hy hz g hb c0 c1 c2 c3 c4 c5 c6 c7
   have c0 := HB1.out.1.cell 0 _ rfl
   have c1 := HB1.out.1.cell 1 _ rfl
   have c2 := HB1.out.1.cell 2 _ rfl
   have c3 := HB1.out.1.cell 3 _ rfl
   have c4 := HB1.out.1.cell 4 _ rfl
   have c5 := HB1.out.1.cell 5 _ rfl
   have c6 := HB1.out.1.cell 6 _ rfl
   have c7 := HB1.out.1.cell 7 _ rfl
   go_wp2_with fail
   clear c0 c1 c2 c3 c4 c5 c6 c7
   have hNM : N = M := by rw [HL.out.2.2.2.2.1, HL.out.2.2.2.2.2.1]; exact HL.out.2.2.2.2.2.2.2.2.2.2.2.1.same.symm
   go_loopw [8, 9] (fun o i wr => ∃ (j : Nat) (O : ByteArray), j ≤ M ∧ i = .int .i64 j ∧ o = .string O ∧ O = ((Sm.pairs f).take j).foldl Sm.pair A0 ∧ O.size ≤ 500 + 130 * j ∧ Blk wr w.heap.size [.string name, .string of, .string up, .int .i64 3, .int .i64 lo, .int .i64 hi, .slice Aw M cw, .slice Ag N cg] 74 ∧ Below w.heap.size w wr) (fun _ i _ => M - (intOf i).toNat)
   case atStart => exact ⟨0, A0, by omega, rfl, rfl, rfl, by omega, HB1.out.1, HB1.out.2⟩
   case round =>
    obtain ⟨j, O, hj, rfl, rfl, hO, hOs, hkb, hb⟩ := hrel
    have HO := Lib.hid hO
    have c6 := hkb.cell 6 _ rfl
    clear hO
    by_cases hlt : j < M
    ·have hlw : j < f.words.length := by rw [← HL.out.2.2.2.2.2.1]; exact hlt
     have hlg : j < f.weights.length := by rw [← HL.out.2.2.2.2.1, hNM]; exact hlt
     have hgw : f.words[j]? = some f.words[j] := List.getElem?_eq_getElem hlw
     have hgg : f.weights[j]? = some f.weights[j] := List.getElem?_eq_getElem hlg
     have hxs := HL.out.2.2.2.2.2.2.2.2.2.2.2.1.words _ (List.getElem_mem hlw)
     have hys := HL.out.2.2.2.2.2.2.2.2.2.2.2.1.weights _ (List.getElem_mem hlg)
     have hpr : (Sm.pairs f)[j]? = some (f.words[j], f.weights[j]) := by
      unfold Sm.pairs
      rw [List.getElem?_zip_eq_some]
      exact ⟨hgw, hgg⟩
     have hst : ((Sm.pairs f).take (j + 1)).foldl Sm.pair A0 = Sm.pair (((Sm.pairs f).take j).foldl Sm.pair A0) (f.words[j], f.weights[j]) := by
      rw [List.take_add_one, hpr]
      simp
     obtain ⟨bw, ow, hAw, hbw, hcw⟩ := HL.out.2.2.2.2.2.2.2.2.2.2.2.2.1 (by rw [List.length_map]; omega)
     obtain ⟨bg, og, hAg, hbg, hcg⟩ := HL.out.2.2.2.2.2.2.2.2.2.2.2.2.2 (by rw [List.length_map]; omega)
     have d1 := hcw j (sv f.words[j]) (by rw [List.getElem?_map, hgw]; rfl)
     have d2 := hcg j (iv f.weights[j]) (by rw [List.getElem?_map, hgg]; rfl)
     obtain ⟨x, hx⟩ : ∃ x, x = f.words[j] := ⟨_, rfl⟩
     obtain ⟨y, hy⟩ : ∃ y, y = f.weights[j] := ⟨_, rfl⟩
     rw [← hx] at d1 hxs hst
     rw [← hy] at d2 hys hst
     rw [← HO.out] at hst
     unfold sv at d1
     unfold iv at d2
     have q1 : ∀ q : BelT wr.heap.size wr, q.at.cell? ⟨bw, ow + j, none⟩ = some (.string x) := fun q => (q.out.cell (Nat.lt_of_lt_of_le hbw hb.size)).trans ((hb.cell hbw).trans d1)
     have q2 : ∀ q : BelT wr.heap.size wr, q.at.cell? ⟨bg, og + j, none⟩ = some (.int .i64 y) := fun q => (q.out.cell (Nat.lt_of_lt_of_le hbg hb.size)).trans ((hb.cell hbg).trans d2)
     have q3 : ∀ q : BelT wr.heap.size wr, q.at.cell? ⟨w.heap.size, 6, none⟩ = some (.slice (some ⟨bw, ow, none⟩) M cw) := fun q => by rw [← hAw]; exact (hkb.below q.out hkb.lt).cell 6 _ rfl
     have q4 : ∀ q : BelT wr.heap.size wr, q.at.cell? ⟨w.heap.size, 7, none⟩ = some (.slice (some ⟨bg, og, none⟩) N cg) := fun q => by rw [← hAg]; exact (hkb.below q.out hkb.lt).cell 7 _ rfl
     obtain ⟨hy1, hy2⟩ := hys
     have hps : (Sm.pair O (x, y)).size ≤ 500 + 130 * (j + 1) := by
      have := Sm.and_size (O ++ ⟨#[32]⟩ ++ x) y (by omega) (by omega)
      rw [ByteArray.size_append, ByteArray.size_append, show (ByteArray.mk #[32]).size = 1 from rfl] at this
      show (Sm.and (O ++ ⟨#[32]⟩ ++ x) y).size ≤ _
      omega
     have cA := fun W => smAnd_any (O ++ ⟨#[32]⟩ ++ x) y W (by rw [ByteArray.size_append, ByteArray.size_append, show (ByteArray.mk #[32]).size = 1 from rfl]; omega) (by omega) (by omega)
     have e1 : ¬ 9223372036854775807 < O.size + 1 := by omega
     have e2 : ¬ 9223372036854775807 < O.size + 1 + x.size := by omega
     have j1 : (j : Int) < M := by omega
     have j2 : (j : Int) < N := by omega
     have CA := Lib.hid cA
     have HK := Lib.hid (And.intro hkb (And.intro hb (And.intro hst hps)))
     clear hlw hlg hgw hgg hpr hst hAw hAg hcw hcg d1 d2 hx hy hxs hps cA hkb hb hbw hbg
     go_wp2_with fail
     refine wp_region_below wr.heap.size (by kernel_rfl) (by kernel_rfl) ?_
     repeat (go_big_quiet_step (exact (CA.out _).mono fun e w' h => ⟨h.1, BelT.of ((BelT.out _).trans (h.2.mono (BelT.out _).size))⟩))
     refine wpQuiet_nil ?_
     intro w'' hw''
     obtain ⟨q, rfl⟩ := hw''
     have HY := Lib.hid (And.intro (HK.out.1.below q.out HK.out.1.lt) (HK.out.2.1.trans (q.out.mono HK.out.2.1.size)))
     clear q1 q2 q3 q4 c6
     go_wp2_with fail
     go_roundw
     case rel => exact ⟨j + 1, Sm.pair O (x, y), by omega, by go_num, rfl, HK.out.2.2.1.symm, HK.out.2.2.2, HY.out.1, HY.out.2⟩
     case measure => simp [intOf]; omega
    ·obtain rfl : j = M := by omega
     have hfin : L = O := by
      rw [HX.out, HO.out, HA0.out, HS0.out, List.take_of_length_le]
      unfold Sm.pairs
      rw [List.length_zip, ← HL.out.2.2.2.2.1, ← HL.out.2.2.2.2.2.1]
      omega
     have HF := Lib.hid (And.intro hfin hb)
     clear hfin hkb hb
     go_wp2_with fail
     go_ret
     exact ⟨by show Ending.returned (Value.string _) = Ending.returned (Value.string L); rw [HF.out.1], HF.out.2⟩
  ·obtain rfl : k = 4 := h
   obtain rfl : uo = true := by rw [HU.out.1]; rfl
   obtain rfl : uu = false := by rw [HU.out.2.1]; rfl
   obtain rfl : ul = true := by rw [HU.out.2.2.1]; rfl
   obtain rfl : uh = true := by rw [HU.out.2.2.2.1]; rfl
   obtain rfl : uw = false := by rw [HU.out.2.2.2.2]; rfl
   have hX : L = Sm.and (Sm.and (Sm.line0 f ++ ⟨#[32]⟩ ++ Sm.tok f.of) f.lo) f.hi := by rw [HL.out.1]; unfold Sm.line Sm.line4 Sm.line3 Sm.line2 Sm.line1; rw [HL.out.2.2.2.2.2.2.2.2.2.2.1]; rfl
   rw [← HL.out.2.1, ← HL.out.2.2.2.2.2.2.1, ← HL.out.2.2.2.2.2.2.2.2.1, ← HL.out.2.2.2.2.2.2.2.2.2.1] at hX
   have HX := Lib.hid hX
   clear hX
   have HB0 := Lib.hid HB2.out
   have c0 := HB0.out.1.cell 0 _ rfl
   have c1 := HB0.out.1.cell 1 _ rfl
   have c2 := HB0.out.1.cell 2 _ rfl
   have c3 := HB0.out.1.cell 3 _ rfl
   have c4 := HB0.out.1.cell 4 _ rfl
   have c5 := HB0.out.1.cell 5 _ rfl
   have c6 := HB0.out.1.cell 6 _ rfl
   have c7 := HB0.out.1.cell 7 _ rfl
   go_wp2_with fail
   all_goals first | (exfalso; go_light; omega) | skip
   refine (CN.out _ _).mono ?_
   rintro e w1' ⟨rfl, rfl⟩
   go_wp2_with fail
   all_goals first | (exfalso; go_light; omega) | skip
   obtain ⟨S0, hS0⟩ : ∃ t, t = L0 ++ ⟨#[32]⟩ ++ Sm.tok of := ⟨_, rfl⟩
   have hz : S0.size ≤ 400 := by (rw [hS0]; (try simp only [ByteArray.size_append, show (ByteArray.mk #[32]).size = 1 from rfl]); omega)
   rw [← hS0]
   have HS0 := Lib.hid hS0
   clear hS0
   refine (smAnd_any S0 lo _ (by omega) (by omega) (by omega)).mono ?_
   rintro e wa0 ⟨rfl, hb⟩
   have hy := Sm.and_size (S0) lo (by omega) (by omega)
   have g := HB0.out.1.below hb HB0.out.1.lt
   have HB1 := Lib.hid (And.intro g (HB0.out.2.trans (hb.mono HB0.out.2.size)))
   obtain ⟨A0, hA0⟩ : ∃ a, a = Sm.and (S0) lo := ⟨_, rfl⟩
   rw [← hA0] at hy ⊢
   have hs0 : A0.size ≤ 500 := by omega
   have HA0 := Lib.hid hA0
   clear hA0 hy hz g hb c0 c1 c2 c3 c4 c5 c6 c7
   have c0 := HB1.out.1.cell 0 _ rfl
   have c1 := HB1.out.1.cell 1 _ rfl
   have c2 := HB1.out.1.cell 2 _ rfl
   have c3 := HB1.out.1.cell 3 _ rfl
   have c4 := HB1.out.1.cell 4 _ rfl
   have c5 := HB1.out.1.cell 5 _ rfl
   have c6 := HB1.out.1.cell 6 _ rfl
   have c7 := HB1.out.1.cell 7 _ rfl
   go_wp2_with fail
   all_goals first | (exfalso; go_light; omega) | skip
   have hz : (A0).size ≤ 500 := by omega
   refine (smAnd_any A0 hi _ (by omega) (by omega) (by omega)).mono ?_
   rintro e wa1 ⟨rfl, hb⟩
   have hy := Sm.and_size (A0) hi (by omega) (by omega)
   have g := HB1.out.1.below hb HB1.out.1.lt
   have HB2 := Lib.hid (And.intro g (HB1.out.2.trans (hb.mono HB1.out.2.size)))
   obtain ⟨A1, hA1⟩ : ∃ a, a = Sm.and (A0) hi := ⟨_, rfl⟩
   rw [← hA1] at hy ⊢
   have hs1 : A1.size ≤ 600 := by omega
   have HA1 := Lib.hid hA1
   clear hA1 hy hz g hb c0 c1 c2 c3 c4 c5 c6 c7
   have c0 := HB2.out.1.cell 0 _ rfl
   have c1 := HB2.out.1.cell 1 _ rfl
   have c2 := HB2.out.1.cell 2 _ rfl
   have c3 := HB2.out.1.cell 3 _ rfl
   have c4 := HB2.out.1.cell 4 _ rfl
   have c5 := HB2.out.1.cell 5 _ rfl
   have c6 := HB2.out.1.cell 6 _ rfl
   have c7 := HB2.out.1.cell 7 _ rfl
   go_wp2_with fail
   all_goals first | (exfalso; go_light; omega) | skip
   go_ret
   exact ⟨by show Ending.returned (Value.string _) = Ending.returned (Value.string L); rw [HX.out, HA1.out, HA0.out, HS0.out], HB2.out.2⟩
  ·obtain rfl : k = 5 := h
   obtain rfl : uo = true := by rw [HU.out.1]; rfl
   obtain rfl : uu = false := by rw [HU.out.2.1]; rfl
   obtain rfl : ul = true := by rw [HU.out.2.2.1]; rfl
   obtain rfl : uh = true := by rw [HU.out.2.2.2.1]; rfl
   obtain rfl : uw = false := by rw [HU.out.2.2.2.2]; rfl
   have hX : L = Sm.and (Sm.and (Sm.line0 f ++ ⟨#[32]⟩ ++ Sm.tok f.of) f.lo) f.hi := by rw [HL.out.1]; unfold Sm.line Sm.line4 Sm.line3 Sm.line2 Sm.line1; rw [HL.out.2.2.2.2.2.2.2.2.2.2.1]; rfl
   rw [← HL.out.2.1, ← HL.out.2.2.2.2.2.2.1, ← HL.out.2.2.2.2.2.2.2.2.1, ← HL.out.2.2.2.2.2.2.2.2.2.1] at hX
   have HX := Lib.hid hX
   clear hX
   have HB0 := Lib.hid HB2.out
   have c0 := HB0.out.1.cell 0 _ rfl
   have c1 := HB0.out.1.cell 1 _ rfl
   have c2 := HB0.out.1.cell 2 _ rfl
   have c3 := HB0.out.1.cell 3 _ rfl
   have c4 := HB0.out.1.cell 4 _ rfl
   have c5 := HB0.out.1.cell 5 _ rfl
   have c6 := HB0.out.1.cell 6 _ rfl
   have c7 := HB0.out.1.cell 7 _ rfl
   go_wp2_with fail
   all_goals first | (exfalso; go_light; omega) | skip
   refine (CN.out _ _).mono ?_
   rintro e w1' ⟨rfl, rfl⟩
   go_wp2_with fail
   all_goals first | (exfalso; go_light; omega) | skip
   obtain ⟨S0, hS0⟩ : ∃ t, t = L0 ++ ⟨#[32]⟩ ++ Sm.tok of := ⟨_, rfl⟩
   have hz : S0.size ≤ 400 := by (rw [hS0]; (try simp only [ByteArray.size_append, show (ByteArray.mk #[32]).size = 1 from rfl]); omega)
   rw [← hS0]
   have HS0 := Lib.hid hS0
   clear hS0
   refine (smAnd_any S0 lo _ (by omega) (by omega) (by omega)).mono ?_
   rintro e wa0 ⟨rfl, hb⟩
   have hy := Sm.and_size (S0) lo (by omega) (by omega)
   have g := HB0.out.1.below hb HB0.out.1.lt
   have HB1 := Lib.hid (And.intro g (HB0.out.2.trans (hb.mono HB0.out.2.size)))
   obtain ⟨A0, hA0⟩ : ∃ a, a = Sm.and (S0) lo := ⟨_, rfl⟩
   rw [← hA0] at hy ⊢
   have hs0 : A0.size ≤ 500 := by omega
   have HA0 := Lib.hid hA0
   clear hA0 hy hz g hb c0 c1 c2 c3 c4 c5 c6 c7
   have c0 := HB1.out.1.cell 0 _ rfl
   have c1 := HB1.out.1.cell 1 _ rfl
   have c2 := HB1.out.1.cell 2 _ rfl
   have c3 := HB1.out.1.cell 3 _ rfl
   have c4 := HB1.out.1.cell 4 _ rfl
   have c5 := HB1.out.1.cell 5 _ rfl
   have c6 := HB1.out.1.cell 6 _ rfl
   have c7 := HB1.out.1.cell 7 _ rfl
   go_wp2_with fail
   all_goals first | (exfalso; go_light; omega) | skip
   have hz : (A0).size ≤ 500 := by omega
   refine (smAnd_any A0 hi _ (by omega) (by omega) (by omega)).mono ?_
   rintro e wa1 ⟨rfl, hb⟩
   have hy := Sm.and_size (A0) hi (by omega) (by omega)
   have g := HB1.out.1.below hb HB1.out.1.lt
   have HB2 := Lib.hid (And.intro g (HB1.out.2.trans (hb.mono HB1.out.2.size)))
   obtain ⟨A1, hA1⟩ : ∃ a, a = Sm.and (A0) hi := ⟨_, rfl⟩
   rw [← hA1] at hy ⊢
   have hs1 : A1.size ≤ 600 := by omega
   have HA1 := Lib.hid hA1
   clear hA1 hy hz g hb c0 c1 c2 c3 c4 c5 c6 c7
   have c0 := HB2.out.1.cell 0 _ rfl
   have c1 := HB2.out.1.cell 1 _ rfl
   have c2 := HB2.out.1.cell 2 _ rfl
   have c3 := HB2.out.1.cell 3 _ rfl
   have c4 := HB2.out.1.cell 4 _ rfl
   have c5 := HB2.out.1.cell 5 _ rfl
   have c6 := HB2.out.1.cell 6 _ rfl
   have c7 := HB2.out.1.cell 7 _ rfl
   go_wp2_with fail
   all_goals first | (exfalso; go_light; omega) | skip
   go_ret
   exact ⟨by show Ending.returned (Value.string _) = Ending.returned (Value.string L); rw [HX.out, HA1.out, HA0.out, HS0.out], HB2.out.2⟩
  ·obtain rfl : k = 6 := h
   obtain rfl : uo = true := by rw [HU.out.1]; rfl
   obtain rfl : uu = false := by rw [HU.out.2.1]; rfl
   obtain rfl : ul = false := by rw [HU.out.2.2.1]; rfl
   obtain rfl : uh = false := by rw [HU.out.2.2.2.1]; rfl
   obtain rfl : uw = false := by rw [HU.out.2.2.2.2]; rfl
   have hX : L = Sm.line0 f ++ ⟨#[32]⟩ ++ Sm.tok f.of := by rw [HL.out.1]; unfold Sm.line Sm.line4 Sm.line3 Sm.line2 Sm.line1; rw [HL.out.2.2.2.2.2.2.2.2.2.2.1]; rfl
   rw [← HL.out.2.1, ← HL.out.2.2.2.2.2.2.1] at hX
   have HX := Lib.hid hX
   clear hX
   have HB0 := Lib.hid HB2.out
   have c0 := HB0.out.1.cell 0 _ rfl
   have c1 := HB0.out.1.cell 1 _ rfl
   have c2 := HB0.out.1.cell 2 _ rfl
   have c3 := HB0.out.1.cell 3 _ rfl
   have c4 := HB0.out.1.cell 4 _ rfl
   have c5 := HB0.out.1.cell 5 _ rfl
   have c6 := HB0.out.1.cell 6 _ rfl
   have c7 := HB0.out.1.cell 7 _ rfl
   go_wp2_with fail
   all_goals first | (exfalso; go_light; omega) | skip
   refine (CN.out _ _).mono ?_
   rintro e w1' ⟨rfl, rfl⟩
   go_wp2_with fail
   all_goals first | (exfalso; go_light; omega) | skip
   go_ret
   exact ⟨by show Ending.returned (Value.string _) = Ending.returned (Value.string L); rw [HX.out], HB0.out.2⟩
  ·obtain rfl : k = 7 := h
   obtain rfl : uo = true := by rw [HU.out.1]; rfl
   obtain rfl : uu = true := by rw [HU.out.2.1]; rfl
   obtain rfl : ul = true := by rw [HU.out.2.2.1]; rfl
   obtain rfl : uh = true := by rw [HU.out.2.2.2.1]; rfl
   obtain rfl : uw = false := by rw [HU.out.2.2.2.2]; rfl
   have hX : L = Sm.and (Sm.and (Sm.line0 f ++ ⟨#[32]⟩ ++ f.up ++ ⟨#[32]⟩ ++ Sm.tok f.of) f.lo) f.hi := by rw [HL.out.1]; unfold Sm.line Sm.line4 Sm.line3 Sm.line2 Sm.line1; rw [HL.out.2.2.2.2.2.2.2.2.2.2.1]; rfl
   rw [← HL.out.2.1, ← HL.out.2.2.2.2.2.2.2.1, ← HL.out.2.2.2.2.2.2.1, ← HL.out.2.2.2.2.2.2.2.2.1, ← HL.out.2.2.2.2.2.2.2.2.2.1] at hX
   have HX := Lib.hid hX
   clear hX
   have HB0 := Lib.hid HB2.out
   have c0 := HB0.out.1.cell 0 _ rfl
   have c1 := HB0.out.1.cell 1 _ rfl
   have c2 := HB0.out.1.cell 2 _ rfl
   have c3 := HB0.out.1.cell 3 _ rfl
   have c4 := HB0.out.1.cell 4 _ rfl
   have c5 := HB0.out.1.cell 5 _ rfl
   have c6 := HB0.out.1.cell 6 _ rfl
   have c7 := HB0.out.1.cell 7 _ rfl
   go_wp2_with fail
   all_goals first | (exfalso; go_light; omega) | skip
   refine (CN.out _ _).mono ?_
   rintro e w1' ⟨rfl, rfl⟩
   go_wp2_with fail
   all_goals first | (exfalso; go_light; omega) | skip
   obtain ⟨S0, hS0⟩ : ∃ t, t = L0 ++ ⟨#[32]⟩ ++ up ++ ⟨#[32]⟩ ++ Sm.tok of := ⟨_, rfl⟩
   have hz : S0.size ≤ 400 := by (rw [hS0]; (try simp only [ByteArray.size_append, show (ByteArray.mk #[32]).size = 1 from rfl]); omega)
   rw [← hS0]
   have HS0 := Lib.hid hS0
   clear hS0
   refine (smAnd_any S0 lo _ (by omega) (by omega) (by omega)).mono ?_
   rintro e wa0 ⟨rfl, hb⟩
   have hy := Sm.and_size (S0) lo (by omega) (by omega)
   have g := HB0.out.1.below hb HB0.out.1.lt
   have HB1 := Lib.hid (And.intro g (HB0.out.2.trans (hb.mono HB0.out.2.size)))
   obtain ⟨A0, hA0⟩ : ∃ a, a = Sm.and (S0) lo := ⟨_, rfl⟩
   rw [← hA0] at hy ⊢
   have hs0 : A0.size ≤ 500 := by omega
   have HA0 := Lib.hid hA0
   clear hA0 hy hz g hb c0 c1 c2 c3 c4 c5 c6 c7
   have c0 := HB1.out.1.cell 0 _ rfl
   have c1 := HB1.out.1.cell 1 _ rfl
   have c2 := HB1.out.1.cell 2 _ rfl
   have c3 := HB1.out.1.cell 3 _ rfl
   have c4 := HB1.out.1.cell 4 _ rfl
   have c5 := HB1.out.1.cell 5 _ rfl
   have c6 := HB1.out.1.cell 6 _ rfl
   have c7 := HB1.out.1.cell 7 _ rfl
   go_wp2_with fail
   all_goals first | (exfalso; go_light; omega) | skip
   have hz : (A0).size ≤ 500 := by omega
   refine (smAnd_any A0 hi _ (by omega) (by omega) (by omega)).mono ?_
   rintro e wa1 ⟨rfl, hb⟩
   have hy := Sm.and_size (A0) hi (by omega) (by omega)
   have g := HB1.out.1.below hb HB1.out.1.lt
   have HB2 := Lib.hid (And.intro g (HB1.out.2.trans (hb.mono HB1.out.2.size)))
   obtain ⟨A1, hA1⟩ : ∃ a, a = Sm.and (A0) hi := ⟨_, rfl⟩
   rw [← hA1] at hy ⊢
   have hs1 : A1.size ≤ 600 := by omega
   have HA1 := Lib.hid hA1
   clear hA1 hy hz g hb c0 c1 c2 c3 c4 c5 c6 c7
   have c0 := HB2.out.1.cell 0 _ rfl
   have c1 := HB2.out.1.cell 1 _ rfl
   have c2 := HB2.out.1.cell 2 _ rfl
   have c3 := HB2.out.1.cell 3 _ rfl
   have c4 := HB2.out.1.cell 4 _ rfl
   have c5 := HB2.out.1.cell 5 _ rfl
   have c6 := HB2.out.1.cell 6 _ rfl
   have c7 := HB2.out.1.cell 7 _ rfl
   go_wp2_with fail
   all_goals first | (exfalso; go_light; omega) | skip
   go_ret
   exact ⟨by show Ending.returned (Value.string _) = Ending.returned (Value.string L); rw [HX.out, HA1.out, HA0.out, HS0.out], HB2.out.2⟩
  ·obtain rfl : k = 8 := h
   obtain rfl : uo = true := by rw [HU.out.1]; rfl
   obtain rfl : uu = true := by rw [HU.out.2.1]; rfl
   obtain rfl : ul = false := by rw [HU.out.2.2.1]; rfl
   obtain rfl : uh = false := by rw [HU.out.2.2.2.1]; rfl
   obtain rfl : uw = false := by rw [HU.out.2.2.2.2]; rfl
   have hX : L = Sm.line0 f ++ ⟨#[32]⟩ ++ f.up ++ ⟨#[32]⟩ ++ Sm.tok f.of := by rw [HL.out.1]; unfold Sm.line Sm.line4 Sm.line3 Sm.line2 Sm.line1; rw [HL.out.2.2.2.2.2.2.2.2.2.2.1]; rfl
   rw [← HL.out.2.1, ← HL.out.2.2.2.2.2.2.2.1, ← HL.out.2.2.2.2.2.2.1] at hX
   have HX := Lib.hid hX
   clear hX
   have HB0 := Lib.hid HB2.out
   have c0 := HB0.out.1.cell 0 _ rfl
   have c1 := HB0.out.1.cell 1 _ rfl
   have c2 := HB0.out.1.cell 2 _ rfl
   have c3 := HB0.out.1.cell 3 _ rfl
   have c4 := HB0.out.1.cell 4 _ rfl
   have c5 := HB0.out.1.cell 5 _ rfl
   have c6 := HB0.out.1.cell 6 _ rfl
   have c7 := HB0.out.1.cell 7 _ rfl
   go_wp2_with fail
   all_goals first | (exfalso; go_light; omega) | skip
   refine (CN.out _ _).mono ?_
   rintro e w1' ⟨rfl, rfl⟩
   go_wp2_with fail
   all_goals first | (exfalso; go_light; omega) | skip
   go_ret
   exact ⟨by show Ending.returned (Value.string _) = Ending.returned (Value.string L); rw [HX.out], HB0.out.2⟩
  --END
end Go.Proofs.YtkgddcemocfgfaaGreatDoor
end

