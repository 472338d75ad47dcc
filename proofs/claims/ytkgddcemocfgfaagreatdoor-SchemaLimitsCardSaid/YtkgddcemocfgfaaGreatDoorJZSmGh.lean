import Derived.Test.YtkgddcemocfgfaaGreatDoorJZSmGq
import Derived.Test.YtkgddcemocfgfaaGreatDoorJZSmPl

section
/- The program's reader: fieldOf; what it reads. -/


namespace Go.Proofs.YtkgddcemocfgfaaGreatDoor
open Go.RowKit
set_option linter.unusedVariables false
set_option linter.unusedSimpArgs false
set_option maxRecDepth 100000

namespace Sm
def picksG (T : List ByteArray) : Nat → List (ByteArray × Int) → PS → List (ByteArray × Int) × PS
 | 0, a, p => (a, p)
 | n + 1, a, p => picksG T n (a ++ [(nameW T p, numG T (nameP T p))]) (numP T (nameP T p))
def g2 (T : List ByteArray) (x : Shp) (p : PS) : PS := useP T x.up (nameP T p)
def g3 (T : List ByteArray) (x : Shp) (p : PS) : PS := useP T x.of (g2 T x p)
def g4 (T : List ByteArray) (x : Shp) (p : PS) : PS := if 0 < x.numbers then numP T (g3 T x p) else g3 T x p
def g5 (T : List ByteArray) (x : Shp) (p : PS) : PS := if 1 < x.numbers then numP T (g4 T x p) else g4 T x p
def g6 (T : List ByteArray) (x : Shp) (p : PS) : List (ByteArray × Int) × PS := if x.words = true then picksG T (cntG T (g5 T x p)).toNat [] (cntP T (g5 T x p)) else ([], g5 T x p)
/-- The field that is read behind its first word. -/
def fieldG (T : List ByteArray) (k : Int) (x : Shp) (p : PS) : Fd × PS :=
 ({ name := nameW T p, of := useW T x.of (g2 T x p), up := useW T x.up (nameP T p), kind := k, lo := if 0 < x.numbers then numG T (g3 T x p) else 0, hi := if 1 < x.numbers then numG T (g4 T x p) else 0,
    words := (g6 T x p).1.map (·.1), weights := (g6 T x p).1.map (·.2) }, (g6 T x p).2)
end Sm
/-- What a reader's function answers: a field. -/
def GdA (rb : Nat) (s : ByteArray) (ts : List (Nat × Nat)) (stop : Nat) (f : Sm.Fd) (p : Sm.PS) (W : World) (e : Ending) (w' : World) : Prop :=
 ∃ c, e = .returned (.agg c.toArray) ∧ FdS (Fresh W w') w' f c ∧ RdAt rb s ts stop p w' ∧ But rb W w'
/-- fieldOf under way. -/
structure GfSt (rb : Nat) (s : ByteArray) (ts : List (Nat × Nat)) (stop : Nat) (x : Shp) (W : World) (xb ob fb : Nat) (p : Sm.PS) (cs : List Value) (w : World) : Prop where
 pa : RdAt rb s ts stop p w
 but : But rb W w
 box : Blk w xb x.cells 186
 fld : Blk w fb cs 74
 res : Blk w ob fdZ 74
 news : rb < W.heap.size ∧ W.heap.size ≤ xb ∧ xb < ob ∧ ob < fb
section
variable {rb : Nat} {s : ByteArray} {ts : List (Nat × Nat)} {stop : Nat} {x : Shp} {W : World} {xb ob fb : Nat} {p p' : Sm.PS} {cs : List Value} {w w' : World}
theorem GfSt.call (h : GfSt rb s ts stop x W xb ob fb p cs w) (ha : RdAt rb s ts stop p' w') (hb : But rb w w') : GfSt rb s ts stop x W xb ob fb p' cs w' :=
 ⟨ha, h.but.trans hb, h.box.but hb (by have := h.news; omega), h.fld.but hb (by have := h.news; omega), h.res.but hb (by have := h.news; omega), h.news⟩
theorem GfSt.set (h : GfSt rb s ts stop x W xb ob fb p cs w) (j : Nat) (v : Value) : GfSt rb s ts stop x W xb ob fb p (cs.set j v) (w.setCell ⟨fb, j, none⟩ v) :=
 ⟨h.pa.set _ _ (by have := h.news; show rb ≠ fb; omega), h.but.other _ _ (by have := h.news; show W.heap.size ≤ fb; omega), h.box.other _ _ (by have := h.news; show xb ≠ fb; omega), h.fld.set j v, h.res.other _ _ (by have := h.news; show ob ≠ fb; omega), h.news⟩
end
theorem GfSt.grown {rb : Nat} {s : ByteArray} {ts : List (Nat × Nat)} {stop : Nat} {x : Shp} {W : World} {xb ob fb : Nat} {p : Sm.PS} {cs : List Value} {w w' : World} {row : Option Nat} (h : GfSt rb s ts stop x W xb ob fb p cs w) (hg : w.grownBy w' row) (hr : ∀ k, row = some k → fb < k) : GfSt rb s ts stop x W xb ob fb p cs w' :=
 ⟨h.pa.grown hg (fun k hk => by have := hr k hk; have := h.news; omega), h.but.grown hg (fun k hk => by have := hr k hk; have := h.news; omega), h.box.grown hg (fun x => by have := hr _ x; have := h.news; omega), h.fld.grown hg (fun x => by have := hr _ x; omega), h.res.grown hg (fun x => by have := hr _ x; have := h.news; omega), h.news⟩
/-- Two rows under way. -/
structure GkSt (rb : Nat) (s : ByteArray) (ts : List (Nat × Nat)) (stop : Nat) (x : Shp) (W : World) (xb ob fb : Nat) (n1 no nu : ByteArray) (kq : Int) (p : Sm.PS) (vw vg : Value) (Lw : List ByteArray) (Lg : List Int) (w : World) : Prop where
 fd : GfSt rb s ts stop x W xb ob fb p (fdCs n1 no nu kq 0 0 vw vg) w
 ow : w.ownsRow (fb + 1) 9 1 vw Lw.length (Lw.map sv)
 og : w.ownsRow (fb + 1) 3 1 vg Lg.length (Lg.map iv)
 ap : ∀ k, vw.ownBlock = some k → vg.ownBlock ≠ some k
theorem picksG_next (T : List ByteArray) (n : Nat) (a : List (ByteArray × Int)) (p : Sm.PS) : Sm.picksG T (n + 1) a p = Sm.picksG T n (a ++ [(Sm.nameW T p, Sm.numG T (Sm.nameP T p))]) (Sm.numP T (Sm.nameP T p)) := rfl
theorem Sm.cntG_le (T : List ByteArray) (p : Sm.PS) : Sm.cntG T p ≤ 12 := by
 unfold Sm.cntG
 split
 ·omega
 ·rename_i h
  have h2 : (Sm.takeP T ((Sm.valW (sb (Sm.look T p))).2 && Sm.within (Sm.numV T p) 1 12) p).f = false := by cases hf : (Sm.cntP T p).f with | false => exact hf | true => exact absurd hf h
  have := (Sm.takeP_f T _ p h2).2
  rw [Bool.and_eq_true] at this
  exact (of_decide_eq_true this.2).2
theorem gput8_end {rb : Nat} {s : ByteArray} {ts : List (Nat × Nat)} {stop : Nat} {x : Shp} {W : World} {xb ob fb : Nat} {p : Sm.PS} {cs : List Value} {w : World} (h : GfSt rb s ts stop x W xb ob fb p cs w) (a0 a1 a2 a3 a4 a5 a6 a7 : Value) :
  Blk (put8 w ob a0 a1 a2 a3 a4 a5 a6 a7) ob [a0, a1, a2, a3, a4, a5, a6, a7] 74 ∧ RdAt rb s ts stop p (put8 w ob a0 a1 a2 a3 a4 a5 a6 a7) ∧ But rb W (put8 w ob a0 a1 a2 a3 a4 a5 a6 a7) ∧ (∀ k, k ≠ ob → k < w.heap.size → (put8 w ob a0 a1 a2 a3 a4 a5 a6 a7).heap[k]? = w.heap[k]?) ∧ (put8 w ob a0 a1 a2 a3 a4 a5 a6 a7).heap.size = w.heap.size := by
 have h1 := h.news
 have hp : ∀ j : Nat, rb ≠ (⟨ob, j, none⟩ : Addr).block := fun j => by show rb ≠ ob; omega
 have hb : ∀ j : Nat, W.heap.size ≤ (⟨ob, j, none⟩ : Addr).block := fun j => by show W.heap.size ≤ ob; omega
 refine ⟨?_, ?_, ?_, ?_, ?_⟩
 ·exact (((((((h.res.set 0 a0).set 1 a1).set 2 a2).set 3 a3).set 4 a4).set 5 a5).set 6 a6).set 7 a7
 ·exact (((((((h.pa.set _ _ (hp 0)).set _ _ (hp 1)).set _ _ (hp 2)).set _ _ (hp 3)).set _ _ (hp 4)).set _ _ (hp 5)).set _ _ (hp 6)).set _ _ (hp 7)
 ·exact (((((((h.but.other _ _ (hb 0)).other _ _ (hb 1)).other _ _ (hb 2)).other _ _ (hb 3)).other _ _ (hb 4)).other _ _ (hb 5)).other _ _ (hb 6)).other _ _ (hb 7)
 ·intro k hk _
  unfold put8
  rw [heap_setCell_other _ ⟨ob, 7, none⟩ k _ hk, heap_setCell_other _ ⟨ob, 6, none⟩ k _ hk, heap_setCell_other _ ⟨ob, 5, none⟩ k _ hk, heap_setCell_other _ ⟨ob, 4, none⟩ k _ hk, heap_setCell_other _ ⟨ob, 3, none⟩ k _ hk, heap_setCell_other _ ⟨ob, 2, none⟩ k _ hk, heap_setCell_other _ ⟨ob, 1, none⟩ k _ hk, heap_setCell_other _ ⟨ob, 0, none⟩ k _ hk]
 ·unfold put8
  simp only [size_setCell]
theorem run_field_shp (W : World) (b i : Nat) (hi : i = 1 ∨ i = 2) : (Instr.fieldAt 186 (.pointer (some ⟨b, 0, none⟩)) i).run Tryz.prog W = .ok (.pointer (some ⟨b, i, none⟩)) W := by
 rcases hi with rfl | rfl <;> go_simp
theorem run_load_int (W : World) (a : Addr) (v : Value) (h : W.cell? a = some v) : (Instr.loadAt 3 (.pointer (some a))).run Tryz.prog W = .ok v W := by go_simp

theorem run_build_fd4 (W : World) (k : Int) (n u o : ByteArray) : (Instr.build 74 #[(3, .int .i64 k), (0, .string n), (2, .string u), (1, .string o)]).run Tryz.prog W = .ok (.agg (fdCs n o u k 0 0 (.slice none 0 0) (.slice none 0 0)).toArray) W := by
 go_simp
 rfl

set_option maxHeartbeats 8000000 in
theorem gFieldOf_any (rb : Nat) (s : ByteArray) (ts : List (Nat × Nat)) (stop : Nat) (p : Sm.PS) (W : World) (h : RdAt rb s ts stop p W) (hD : SDoor W) (hg : doorB ≤ rb) (x : Shp) (kq : Int)
  (hx : x.words = false ∧ (x.numbers = 0 ∨ x.numbers = 1 ∨ x.numbers = 2) ∨ x.words = true ∧ x.numbers = 0) :
  Calls Tryz.prog 186 #[.pointer (some ⟨rb, 0, none⟩), .int .i64 kq, .agg x.cells.toArray] W (GdA rb s ts stop (Sm.fieldG (tokT s ts) kq x p).1 (Sm.fieldG (tokT s ts) kq x p).2 W) := by
 obtain ⟨T, hT⟩ : ∃ T, T = tokT s ts := ⟨_, rfl⟩
 have cN := fun q V (hV : RdAt rb s ts stop q V) => gName_any rb s ts stop q V hV
 have cU := fun q u V (hV : RdAt rb s ts stop q V) => gNameFor_any rb s ts stop q V hV u
 have hgs : 5 < rb := by unfold doorB at hg; omega
 have cM := fun q V (hV : RdAt rb s ts stop q V) (hb : But rb W V) => gNumber_any rb s ts stop q V hV (hD.syn.below (hb.below (Nat.le_refl _) (Nat.le_of_lt h.blk.lt)) hgs) hgs
 have cC := fun q V (hV : RdAt rb s ts stop q V) (hb : But rb W V) => gCount_any rb s ts stop q V hV (hD.syn.below (hb.below (Nat.le_refl _) (Nat.le_of_lt h.blk.lt)) hgs) hgs
 rw [← hT]
 simp only [← hT] at cN cU cM cC
 obtain ⟨R, hR⟩ : ∃ R, R = Sm.fieldG T kq x p := ⟨_, rfl⟩
 rw [← hR]
 obtain ⟨q1, hq1⟩ : ∃ q, q = Sm.nameP T p := ⟨_, rfl⟩
 obtain ⟨q2, hq2⟩ : ∃ q, q = Sm.g2 T x p := ⟨_, rfl⟩
 obtain ⟨q3, hq3⟩ : ∃ q, q = Sm.g3 T x p := ⟨_, rfl⟩
 obtain ⟨n1, hn1⟩ : ∃ n, n = Sm.nameW T p := ⟨_, rfl⟩
 obtain ⟨nu, hnu⟩ : ∃ n, n = Sm.useW T x.up q1 := ⟨_, rfl⟩
 obtain ⟨no, hno⟩ : ∃ n, n = Sm.useW T x.of q2 := ⟨_, rfl⟩
 have c1 := fun V hV => cN p V hV
 rw [← hq1, ← hn1] at c1
 have c2 := fun V hV => cU q1 x.up V hV
 have e2 : Sm.useP T x.up q1 = q2 := by rw [hq2, hq1]; rfl
 rw [← hnu, e2] at c2
 have c3 := fun V hV => cU q2 x.of V hV
 have e3 : Sm.useP T x.of q2 = q3 := by rw [hq3, hq2]; rfl
 rw [← hno, e3] at c3
 have C1 := Lib.hid c1
 have C2 := Lib.hid c2
 have C3 := Lib.hid c3
 have CN := Lib.hid cN
 have CM := Lib.hid cM
 have CC := Lib.hid cC
 have HH := Lib.hid h
 have HRR := Lib.hid (And.intro hR (And.intro hq1 (And.intro hq2 (And.intro hq3 (And.intro hn1 (And.intro hnu hno))))))
 have HX := Lib.hid hx
 clear c1 c2 c3 cN cU cM cC h hR hq1 hq2 hq3 hn1 hnu hno e2 e3 hx hD hg hgs hT
 obtain ⟨xc, hxc⟩ : ∃ c, c = x.cells := ⟨_, rfl⟩
 have hxc2 : xc = [.string x.word, .int .i64 x.up, .int .i64 x.of, .int .i64 x.numbers, .int .i64 x.least, .int .i64 x.most, .bool x.words] := hxc
 rw [← hxc, hxc2]
 clear hxc hxc2
 go_enter Tryz.func186, Tryz.ntmps186
 go_wp2_with fail
 obtain ⟨x0, hx0⟩ : ∃ w, w = (W.alloc (.cells #[.string x.word, .int .i64 x.up, .int .i64 x.of, .int .i64 x.numbers, .int .i64 x.least, .int .i64 x.most, .bool x.words] 186)).alloc (.cells #[.string ⟨#[]⟩, .string ⟨#[]⟩, .string ⟨#[]⟩, .int .i64 0, .int .i64 0, .int .i64 0, .slice none 0 0, .slice none 0 0] 74) := ⟨_, rfl⟩
 rw [← hx0]
 have hk1 : RdAt rb s ts stop p x0 := by rw [hx0]; exact (HH.out.alloc _).alloc _
 have hk2 : But rb W x0 := by rw [hx0]; exact But.of (((Below.refl _ _).alloc (Nat.le_refl _) _).alloc (by simp) _)
 have hk3 : Blk x0 W.heap.size x.cells 186 := by rw [hx0]; exact (Blk.new W x.cells _).alloc _
 have hk4 : Blk x0 (W.heap.size + 1) fdZ 74 := by
  have := Blk.new (W.alloc (.cells #[.string x.word, .int .i64 x.up, .int .i64 x.of, .int .i64 x.numbers, .int .i64 x.least, .int .i64 x.most, .bool x.words] 186)) fdZ 74
  rw [World.size_alloc] at this
  rw [hx0]; exact this
 have hr0 := HH.out.blk.lt
 obtain ⟨xb, hxb⟩ : ∃ n, n = W.heap.size := ⟨_, rfl⟩
 obtain ⟨ob, hob⟩ : ∃ n, n = W.heap.size + 1 := ⟨_, rfl⟩
 rw [← hxb] at hk3
 rw [← hob] at hk4
 have HK := Lib.hid (And.intro hk1 (And.intro hk2 (And.intro hk3 (And.intro hk4 (show rb < W.heap.size ∧ W.heap.size ≤ xb ∧ xb < ob by omega)))))
 rw [← hob, ← hxb]
 clear hx0 hk1 hk2 hk3 hk4 hr0 hxb hob
 refine wp_region_statelist [8, 9, 10, 11, 12, 13, 14, 15, 16, 17, 18, 19, 7] (fun d _ w' => But rb x0 w' ∧ RdAt rb s ts stop (if d 10 = true then q3 else if d 6 = true then q2 else if d 2 = true then q1 else p) w' ∧ (d 6 = true → d 2 = true) ∧ (d 10 = true → d 6 = true)) (fun w' w'' => But rb w' w'' ∧ w'.heap.size ≤ w''.heap.size)
  [fun u _ => u = .int .i64 kq, fun u _ => u = .pointer (some ⟨rb, 0, none⟩), fun u _ => u = .string n1, fun u _ => u = .pointer (some ⟨rb, 0, none⟩), fun u _ => u = .pointer (some ⟨xb, 1, none⟩), fun u _ => u = .int .i64 x.up, fun u _ => u = .string nu, fun u _ => u = .pointer (some ⟨rb, 0, none⟩), fun u _ => u = .pointer (some ⟨xb, 2, none⟩), fun u _ => u = .int .i64 x.of, fun u _ => u = .string no, fun u _ => u = .agg (fdCs n1 no nu kq 0 0 (.slice none 0 0) (.slice none 0 0)).toArray,
   fun u w' => ∃ g, u = .pointer (some ⟨g, 0, none⟩) ∧ Blk w' g fdZ 74 ∧ x0.heap.size ≤ g]
   (by
    intro f hf u w' w'' h hr
    simp only [List.mem_cons, List.not_mem_nil, or_false] at hf
    rcases hf with rfl | rfl | rfl | rfl | rfl | rfl | rfl | rfl | rfl | rfl | rfl | rfl | rfl
    iterate 12 (exact h)
    obtain ⟨g, h1, h2, h3⟩ := h
    exact ⟨g, h1, h2.but hr.1 (by have := HK.out.1.blk.lt; omega), h3⟩)
   (fun _ => ⟨(But.refl rb x0).drewn, HK.out.1.drew, fun x => absurd x (by decide), fun x => absurd x (by decide)⟩) (by kernel_rfl) (by kernel_rfl) ?_ ?_
 ·intro y hy d vals b w' hJ hu hd hall hx o ho
  match y, hy with
  | 0, _ =>
   obtain rfl := Option.some.inj ho
   exact ⟨hx 1 rfl, ⟨But.refl _ _, Nat.le_refl _⟩, hJ⟩
  | 1, _ =>
   obtain rfl := Option.some.inj ho
   exact ⟨hx 0 rfl, ⟨But.refl _ _, Nat.le_refl _⟩, hJ⟩
  | 2, _ =>
   obtain rfl := Option.some.inj ho
   have hu : d 2 = false := hu
   have e : b.tmps.getD 9 undef = .pointer (some ⟨rb, 0, none⟩) := (hd 1 (by kernel_rfl) (by decide)).2
   have h6 : d 6 = false := by cases h : d 6 with | false => rfl | true => have := hJ.2.2.1 h; rw [hu] at this; cases this
   have h10 : d 10 = false := by cases h : d 10 with | false => rfl | true => have := hJ.2.2.2 h; rw [h6] at this; cases this
   have hpa := hJ.2.1
   rw [h10, h6, hu] at hpa
   refine runs_call rfl (fun _ _ => rfl) ?_
   show Calls _ _ #[b.tmps.getD 9 undef] w' _
   rw [e]
   refine (C1.out w' hpa).mono ?_
   rintro e w'' ⟨rfl, ha, hb⟩
   exact ⟨_, rfl, rfl, ⟨hb, hb.size⟩, hJ.1.trans hb, by show RdAt rb s ts stop (if d 10 = true then q3 else if d 6 = true then q2 else q1) w''; rw [h10, h6]; exact ha, fun x => by simp, fun x => by show d 6 = true; exact hJ.2.2.2 x⟩
  | 3, _ =>
   obtain rfl := Option.some.inj ho
   exact ⟨hx 0 rfl, ⟨But.refl _ _, Nat.le_refl _⟩, hJ⟩
  | 4, _ =>
   obtain rfl := Option.some.inj ho
   have e : b.tmps.getD 5 undef = .pointer (some ⟨xb, 0, none⟩) := hx 5 rfl
   have hr := run_field_shp w' xb 1 (by decide)
   rw [← e] at hr
   exact runs_value rfl hr ⟨rfl, ⟨But.refl _ _, Nat.le_refl _⟩, hJ⟩
  | 5, _ =>
   obtain rfl := Option.some.inj ho
   have e : b.tmps.getD 12 undef = .pointer (some ⟨xb, 1, none⟩) := (hd 4 (by kernel_rfl) (by decide)).2
   have hr := run_load_int w' ⟨xb, 1, none⟩ (.int .i64 x.up) ((HK.out.2.2.1.but hJ.1 (by have := HK.out.2.2.2.2; omega)).cell 1 _ rfl)
   rw [← e] at hr
   exact runs_value rfl hr ⟨rfl, ⟨But.refl _ _, Nat.le_refl _⟩, hJ⟩
  | 6, _ =>
   obtain rfl := Option.some.inj ho
   have hu : d 6 = false := hu
   have e : b.tmps.getD 11 undef = .pointer (some ⟨rb, 0, none⟩) := (hd 3 (by kernel_rfl) (by decide)).2
   have e' : b.tmps.getD 13 undef = .int .i64 x.up := (hd 5 (by kernel_rfl) (by decide)).2
   have h2 : d 2 = true := (hd 2 (by kernel_rfl) (by decide)).1
   have h10 : d 10 = false := by cases h : d 10 with | false => rfl | true => have := hJ.2.2.2 h; rw [hu] at this; cases this
   have hpa := hJ.2.1
   rw [h10, hu, h2] at hpa
   refine runs_call rfl (fun _ _ => rfl) ?_
   show Calls _ _ #[b.tmps.getD 11 undef, b.tmps.getD 13 undef] w' _
   rw [e, e']
   refine (C2.out w' hpa).mono ?_
   rintro e w'' ⟨rfl, ha, hb⟩
   exact ⟨_, rfl, rfl, ⟨hb, hb.size⟩, hJ.1.trans hb, by show RdAt rb s ts stop (if d 10 = true then q3 else q2) w''; rw [h10]; exact ha, fun x => by show d 2 = true; exact h2, fun x => by simp⟩
  | 7, _ =>
   obtain rfl := Option.some.inj ho
   exact ⟨hx 0 rfl, ⟨But.refl _ _, Nat.le_refl _⟩, hJ⟩
  | 8, _ =>
   obtain rfl := Option.some.inj ho
   have e : b.tmps.getD 5 undef = .pointer (some ⟨xb, 0, none⟩) := hx 5 rfl
   have hr := run_field_shp w' xb 2 (by decide)
   rw [← e] at hr
   exact runs_value rfl hr ⟨rfl, ⟨But.refl _ _, Nat.le_refl _⟩, hJ⟩
  | 9, _ =>
   obtain rfl := Option.some.inj ho
   have e : b.tmps.getD 16 undef = .pointer (some ⟨xb, 2, none⟩) := (hd 8 (by kernel_rfl) (by decide)).2
   have hr := run_load_int w' ⟨xb, 2, none⟩ (.int .i64 x.of) ((HK.out.2.2.1.but hJ.1 (by have := HK.out.2.2.2.2; omega)).cell 2 _ rfl)
   rw [← e] at hr
   exact runs_value rfl hr ⟨rfl, ⟨But.refl _ _, Nat.le_refl _⟩, hJ⟩
  | 10, _ =>
   obtain rfl := Option.some.inj ho
   have hu : d 10 = false := hu
   have e : b.tmps.getD 15 undef = .pointer (some ⟨rb, 0, none⟩) := (hd 7 (by kernel_rfl) (by decide)).2
   have e' : b.tmps.getD 17 undef = .int .i64 x.of := (hd 9 (by kernel_rfl) (by decide)).2
   have h6 : d 6 = true := (hd 6 (by kernel_rfl) (by decide)).1
   have hpa := hJ.2.1
   rw [hu, h6] at hpa
   refine runs_call rfl (fun _ _ => rfl) ?_
   show Calls _ _ #[b.tmps.getD 15 undef, b.tmps.getD 17 undef] w' _
   rw [e, e']
   refine (C3.out w' hpa).mono ?_
   rintro e w'' ⟨rfl, ha, hb⟩
   exact ⟨_, rfl, rfl, ⟨hb, hb.size⟩, hJ.1.trans hb, ha, fun x => by show d 2 = true; exact hJ.2.2.1 x, fun x => by show d 6 = true; exact h6⟩
  | 11, _ =>
   obtain rfl := Option.some.inj ho
   have e8 : b.tmps.getD 8 undef = .int .i64 kq := (hd 0 (by kernel_rfl) (by decide)).2
   have e10 : b.tmps.getD 10 undef = .string n1 := (hd 2 (by kernel_rfl) (by decide)).2
   have e14 : b.tmps.getD 14 undef = .string nu := (hd 6 (by kernel_rfl) (by decide)).2
   have e18 : b.tmps.getD 18 undef = .string no := (hd 10 (by kernel_rfl) (by decide)).2
   have hr := run_build_fd4 w' kq n1 nu no
   exact runs_value (X := Instr.build 74 #[(3, b.tmps.getD 8 undef), (0, b.tmps.getD 10 undef), (2, b.tmps.getD 14 undef), (1, b.tmps.getD 18 undef)]) (by unfold execOp; simp [Act.eval]) (by rw [e8, e10, e14, e18]; exact hr) ⟨rfl, ⟨But.refl _ _, Nat.le_refl _⟩, hJ⟩
  | 12, _ =>
   obtain rfl := Option.some.inj ho
   have hbel : Below w'.heap.size w' (w'.alloc (.cells fdZ.toArray 74)) := (Below.refl _ _).alloc (Nat.le_refl _) _
   exact runs_ok (w' := w'.alloc (.cells fdZ.toArray 74)) (by unfold execOp; go_simp; rfl) ⟨⟨w'.heap.size, rfl, Blk.new w' fdZ _, hJ.1.size⟩, ⟨But.of hbel, hbel.size⟩, hJ.1.trans (But.of hbel), hJ.2.1.below hbel, hJ.2.2.1, hJ.2.2.2⟩
 ·intro d vals w' hJ hall hf
  have v11 : vals 11 = .agg (fdCs n1 no nu kq 0 0 (.slice none 0 0) (.slice none 0 0)).toArray := hf 11 (by decide)
  obtain ⟨fb, v12, hfb, hfb2⟩ := hf 12 (by decide)
  have hpa := hJ.2.1
  rw [hall 10 (by decide)] at hpa
  have hpa : RdAt rb s ts stop q3 w' := hpa
  simp only [puts, List.length_cons, List.length_nil, Nat.zero_add, Nat.reduceAdd, List.drop_succ_cons, List.drop_zero, v11, v12]
  have hst : GfSt rb s ts stop x W xb ob fb q3 fdZ w' := ⟨hpa, HK.out.2.1.trans hJ.1, HK.out.2.2.1.but hJ.1 (by have := HK.out.2.2.2.2; omega), hfb, HK.out.2.2.2.1.but hJ.1 (by have := HK.out.2.2.2.2; omega), HK.out.2.2.2.2.1, HK.out.2.2.2.2.2.1, HK.out.2.2.2.2.2.2, by have := HK.out.2.2.2.1.lt; omega⟩
  have hput : GfSt rb s ts stop x W xb ob fb q3 (fdCs n1 no nu kq 0 0 (.slice none 0 0) (.slice none 0 0)) (put8 w' fb (.string n1) (.string no) (.string nu) (.int .i64 kq) (.int .i64 0) (.int .i64 0) (.slice none 0 0) (.slice none 0 0)) :=
   (((((((hst.set 0 (.string n1)).set 1 (.string no)).set 2 (.string nu)).set 3 (.int .i64 kq)).set 4 (.int .i64 0)).set 5 (.int .i64 0)).set 6 (.slice none 0 0)).set 7 (.slice none 0 0)
  have HS := Lib.hid hst
  have HP := Lib.hid hput
  have hn1 : xb ≠ fb := by have := hst.news; omega
  have hn2 : ob ≠ fb := by have := hst.news; omega
  have hn3 : xb ≠ ob := by have := hst.news; omega
  obtain ⟨d0, d1, d2, d3, d4, d5, d6, d7⟩ := cells8z hst.fld
  obtain ⟨e0, e1, e2, e3, e4, e5, e6, e7⟩ := frozen8 hst.fld
  have b3 := hst.box.cell 3 _ rfl
  have b6 := hst.box.cell 6 _ rfl
  clear hst hput hpa hJ hall hf v11 v12 hfb hfb2 HK C1 C2 C3
  try simp only [fdCs]
  rcases HX.out with ⟨hw, hm⟩ | ⟨hw, hm⟩
  ·rw [hw] at b6
   rcases hm with hm | hm | hm
   ·rw [hm] at b3
    have HE := Lib.hid (show R = (⟨n1, no, nu, kq, 0, 0, [], []⟩, q3) by
     obtain ⟨hR, a1, a2, a3, a4, a5, a6⟩ := HRR.out
     have y4 : Sm.g4 T x p = q3 := by unfold Sm.g4; rw [hm, ← a3]; rfl
     have y5 : Sm.g5 T x p = q3 := by unfold Sm.g5; rw [hm, y4]; rfl
     have y6 : Sm.g6 T x p = ([], q3) := by unfold Sm.g6; rw [hw, y5]; rfl
     rw [hR, a4, a5, a6, a2, a1]
     unfold Sm.fieldG
     rw [y6, hm]
     rfl)
    clear hm hw
    obtain ⟨r0, r1, r2, r3, r4, r5, r6, r7⟩ := cells8z HS.out.res
    obtain ⟨g0, g1, g2, g3, g4, g5, g6, g7⟩ := frozen8 HS.out.res
    go_wp2_with fail
    obtain ⟨z1, z2, z3, -, -⟩ := gput8_end HP.out (.string n1) (.string no) (.string nu) (.int .i64 kq) (.int .i64 0) (.int .i64 0) (.slice none 0 0) (.slice none 0 0)
    rw [HE.out]
    exact bodyPost_ret (results_cell_row rfl _ _ ob 74 #[.string n1, .string no, .string nu, .int .i64 kq, .int .i64 0, .int .i64 0, .slice none 0 0, .slice none 0 0] (0, 0) _ rfl z1 Tryz.underlying74 rfl (by kernel_rfl)) rfl
     ⟨_, rfl, ⟨none, 0, none, 0, rfl, RdS.nil, RdS.nil, Nat.le_refl _, by decide, Nat.le_refl _, by decide⟩, z2, z3⟩
   ·rw [hm] at b3
    obtain ⟨q4, hq4⟩ : ∃ q, q = Sm.numP T q3 := ⟨_, rfl⟩
    obtain ⟨lo, hlo⟩ : ∃ n, n = Sm.numG T q3 := ⟨_, rfl⟩
    have HE := Lib.hid (show R = (⟨n1, no, nu, kq, lo, 0, [], []⟩, q4) by
     obtain ⟨hR, a1, a2, a3, a4, a5, a6⟩ := HRR.out
     have y4 : Sm.g4 T x p = q4 := by unfold Sm.g4; rw [hm, ← a3, hq4]; rfl
     have y5 : Sm.g5 T x p = q4 := by unfold Sm.g5; rw [hm, y4]; rfl
     have y6 : Sm.g6 T x p = ([], q4) := by unfold Sm.g6; rw [hw, y5]; rfl
     rw [hR, a4, a5, a6, a2, a1, hlo, a3]
     unfold Sm.fieldG
     rw [y6, hm]
     rfl)
    have cm := fun V hV hb => CM.out q3 V hV hb
    rw [← hq4, ← hlo] at cm
    have CM1 := Lib.hid cm
    have HMW := Lib.hid (And.intro hm hw)
    clear cm hq4 hlo hm hw
    go_wp2_with fail
    refine (CM1.out _ HP.out.pa HP.out.but).mono ?_
    rintro e x1 ⟨rfl, ha, hb⟩
    have hst := HP.out.call ha hb
    have HS1 := Lib.hid hst
    have HP1 := Lib.hid (hst.set 4 (.int .i64 lo))
    clear d0 d1 d2 d3 d4 d5 d6 d7 e0 e1 e2 e3 e4 e5 e6 e7 b3 b6 ha hb CM1
    obtain ⟨d0, d1, d2, d3, d4, d5, d6, d7⟩ := cells8 hst.fld
    obtain ⟨e0, e1, e2, e3, e4, e5, e6, e7⟩ := frozen8 hst.fld
    have b3 := hst.box.cell 3 _ rfl
    have b6 := hst.box.cell 6 _ rfl
    rw [HMW.out.1] at b3
    rw [HMW.out.2] at b6
    clear hst
    obtain ⟨r0, r1, r2, r3, r4, r5, r6, r7⟩ := cells8z HS1.out.res
    obtain ⟨g0, g1, g2, g3, g4, g5, g6, g7⟩ := frozen8 HS1.out.res
    go_wp2_with fail
    obtain ⟨z1, z2, z3, -, -⟩ := gput8_end HP1.out (.string n1) (.string no) (.string nu) (.int .i64 kq) (.int .i64 lo) (.int .i64 0) (.slice none 0 0) (.slice none 0 0)
    rw [HE.out]
    exact bodyPost_ret (results_cell_row rfl _ _ ob 74 #[.string n1, .string no, .string nu, .int .i64 kq, .int .i64 lo, .int .i64 0, .slice none 0 0, .slice none 0 0] (0, 0) _ rfl z1 Tryz.underlying74 rfl (by kernel_rfl)) rfl
     ⟨_, rfl, ⟨none, 0, none, 0, rfl, RdS.nil, RdS.nil, Nat.le_refl _, by decide, Nat.le_refl _, by decide⟩, z2, z3⟩
   ·rw [hm] at b3
    obtain ⟨q4, hq4⟩ : ∃ q, q = Sm.numP T q3 := ⟨_, rfl⟩
    obtain ⟨lo, hlo⟩ : ∃ n, n = Sm.numG T q3 := ⟨_, rfl⟩
    obtain ⟨q5, hq5⟩ : ∃ q, q = Sm.numP T q4 := ⟨_, rfl⟩
    obtain ⟨hi, hhi⟩ : ∃ n, n = Sm.numG T q4 := ⟨_, rfl⟩
    have HE := Lib.hid (show R = (⟨n1, no, nu, kq, lo, hi, [], []⟩, q5) by
     obtain ⟨hR, a1, a2, a3, a4, a5, a6⟩ := HRR.out
     have y4 : Sm.g4 T x p = q4 := by unfold Sm.g4; rw [hm, ← a3, hq4]; rfl
     have y5 : Sm.g5 T x p = q5 := by unfold Sm.g5; rw [hm, y4, hq5]; rfl
     have y6 : Sm.g6 T x p = ([], q5) := by unfold Sm.g6; rw [hw, y5]; rfl
     rw [hR, a4, a5, a6, a2, a1, hlo, hhi, a3]
     unfold Sm.fieldG
     rw [y6, y4, hm]
     rfl)
    have cm := fun V hV hb => CM.out q3 V hV hb
    rw [← hq4, ← hlo] at cm
    have cm2 := fun V hV hb => CM.out q4 V hV hb
    rw [← hq5, ← hhi] at cm2
    have CM1 := Lib.hid cm
    have CM2 := Lib.hid cm2
    have HMW := Lib.hid (And.intro hm hw)
    clear cm cm2 hq4 hlo hq5 hhi hm hw
    go_wp2_with fail
    refine (CM1.out _ HP.out.pa HP.out.but).mono ?_
    rintro e x1 ⟨rfl, ha, hb⟩
    have hst := HP.out.call ha hb
    have HP1 := Lib.hid (hst.set 4 (.int .i64 lo))
    clear d0 d1 d2 d3 d4 d5 d6 d7 e0 e1 e2 e3 e4 e5 e6 e7 b3 b6 ha hb CM1
    have d4 := hst.fld.cell 4 _ rfl
    have e4 := hst.fld.frozen 4
    have b3 := hst.box.cell 3 _ rfl
    rw [HMW.out.1] at b3
    clear hst
    go_wp2_with fail
    refine (CM2.out _ HP1.out.pa HP1.out.but).mono ?_
    rintro e x2 ⟨rfl, ha, hb⟩
    have hst := HP1.out.call ha hb
    have HS2 := Lib.hid hst
    have HP2 := Lib.hid (hst.set 5 (.int .i64 hi))
    clear d4 e4 b3 ha hb CM2
    obtain ⟨d0, d1, d2, d3, d4, d5, d6, d7⟩ := cells8 hst.fld
    obtain ⟨e0, e1, e2, e3, e4, e5, e6, e7⟩ := frozen8 hst.fld
    have b3 := hst.box.cell 3 _ rfl
    have b6 := hst.box.cell 6 _ rfl
    rw [HMW.out.1] at b3
    rw [HMW.out.2] at b6
    clear hst
    obtain ⟨r0, r1, r2, r3, r4, r5, r6, r7⟩ := cells8z HS2.out.res
    obtain ⟨g0, g1, g2, g3, g4, g5, g6, g7⟩ := frozen8 HS2.out.res
    go_wp2_with fail
    obtain ⟨z1, z2, z3, -, -⟩ := gput8_end HP2.out (.string n1) (.string no) (.string nu) (.int .i64 kq) (.int .i64 lo) (.int .i64 hi) (.slice none 0 0) (.slice none 0 0)
    rw [HE.out]
    exact bodyPost_ret (results_cell_row rfl _ _ ob 74 #[.string n1, .string no, .string nu, .int .i64 kq, .int .i64 lo, .int .i64 hi, .slice none 0 0, .slice none 0 0] (0, 0) _ rfl z1 Tryz.underlying74 rfl (by kernel_rfl)) rfl
     ⟨_, rfl, ⟨none, 0, none, 0, rfl, RdS.nil, RdS.nil, Nat.le_refl _, by decide, Nat.le_refl _, by decide⟩, z2, z3⟩
  ·rw [hw] at b6
   rw [hm] at b3
   obtain ⟨q4, hq4⟩ : ∃ q, q = Sm.cntP T q3 := ⟨_, rfl⟩
   obtain ⟨cn, hcn⟩ : ∃ n, n = Sm.cntG T q3 := ⟨_, rfl⟩
   have hc12 : cn ≤ 12 := by rw [hcn]; exact Sm.cntG_le T q3
   obtain ⟨Rp, hRp⟩ : ∃ R, R = Sm.picksG T cn.toNat [] q4 := ⟨_, rfl⟩
   have HE := Lib.hid (show R = (⟨n1, no, nu, kq, 0, 0, Rp.1.map (·.1), Rp.1.map (·.2)⟩, Rp.2) by
    obtain ⟨hR, a1, a2, a3, a4, a5, a6⟩ := HRR.out
    have y4 : Sm.g4 T x p = q3 := by unfold Sm.g4; rw [hm, ← a3]; rfl
    have y5 : Sm.g5 T x p = q3 := by unfold Sm.g5; rw [hm, y4]; rfl
    have y6 : Sm.g6 T x p = Rp := by unfold Sm.g6; rw [hw, y5, hRp, hcn, hq4]; rfl
    rw [hR, a4, a5, a6, a2, a1]
    unfold Sm.fieldG
    rw [y6, hm]
    rfl)
   have cc := fun V hV hb => CC.out q3 V hV hb
   rw [← hq4, ← hcn] at cc
   have CC1 := Lib.hid cc
   have HRp0 := Lib.hid hRp
   clear cc hq4 hcn hm hw hRp
   go_wp2_with fail
   refine (CC1.out _ HP.out.pa HP.out.but).mono ?_
   rintro e x1 ⟨rfl, ha, hb⟩
   have hst := HP.out.call ha hb
   have HS1 := Lib.hid (show GkSt rb s ts stop x W xb ob fb n1 no nu kq q4 (.slice none 0 0) (.slice none 0 0) [] [] x1 from ⟨hst, World.ownsRow_nil _ _ _ _, World.ownsRow_nil _ _ _ _, fun k hk => by cases hk⟩)
   have HPB := Lib.hid (show rb < W.heap.size from HH.out.blk.lt)
   clear d0 d1 d2 d3 d4 d5 d6 d7 e0 e1 e2 e3 e4 e5 e6 e7 b3 b6 ha hb hst CC1 HP HS
   obtain ⟨i0, hi0, hz0, hz1, hz2⟩ := info_parts info_i64
   have HI := Lib.hid (And.intro hi0 (And.intro hz0 (And.intro hz1 hz2)))
   obtain ⟨j0, hj0, hy0, hy1, hy2⟩ := info_parts pa_info_str
   have HJ := Lib.hid (And.intro hj0 (And.intro hy0 (And.intro hy1 hy2)))
   clear hi0 hz0 hz1 hz2 hj0 hy0 hy1 hy2
   have HC12 := Lib.hid hc12
   clear hc12
   go_wp2_with fail
   go_loopw [36] (fun i wr => ∃ (k : Nat) (q : Sm.PS) (vw vg : Value) (L : List (ByteArray × Int)), i = .int .i64 k ∧ GkSt rb s ts stop x W xb ob fb n1 no nu kq q vw vg (L.map (·.1)) (L.map (·.2)) wr ∧ Rp = Sm.picksG T (cn.toNat - k) L q ∧ L.length = k ∧ k ≤ 12) (fun i _ => 13 - (intOf i).toNat)
   case atStart => exact ⟨0, q4, _, _, [], rfl, HS1.out, HRp0.out, rfl, by omega⟩
   case round =>
    clear HS1
    obtain ⟨k, q, vw, vg, L, rfl, hst, hR, hL, hk12⟩ := hrel
    obtain ⟨x5, rfl⟩ : ∃ x5 : World, x5 = wr := ⟨_, rfl⟩
    have HK := Lib.hid hst
    clear hst
    have hcn := HC12.out
    by_cases hlt : (k : Int) < cn
    ·have HCN := Lib.hid hcn
     have hpn := picksG_next T (cn.toNat - (k + 1)) L q
     rw [show cn.toNat - (k + 1) + 1 = cn.toNat - k by omega] at hpn
     rw [hpn] at hR
     have cN := fun V hV => CN.out q V hV
     obtain ⟨nn, hnn⟩ : ∃ n, n = Sm.nameW T q := ⟨_, rfl⟩
     obtain ⟨qb, hqb⟩ : ∃ z, z = Sm.nameP T q := ⟨_, rfl⟩
     have cM := fun V hV hb => CM.out qb V hV hb
     obtain ⟨nm, hnm⟩ : ∃ n, n = Sm.numG T qb := ⟨_, rfl⟩
     obtain ⟨qc, hqc⟩ : ∃ z, z = Sm.numP T qb := ⟨_, rfl⟩
     simp only [← hnn, ← hqb] at cN
     simp only [← hnm, ← hqc] at cM
     rw [← hnn, ← hqb, ← hnm, ← hqc] at hR
     have CNq := Lib.hid cN
     have CMq := Lib.hid cM
     have HX := Lib.hid (And.intro hR hL)
     clear cN cM hR hL hnn hqb hnm hqc hpn
     go_wp2_with fail
     try go_frame
     refine wp_region_statelist [38, 39, 40, 41, 42] (fun d _ w' => But rb x5 w' ∧ RdAt rb s ts stop (if d 3 = true then qb else q) w') (fun w' w'' => But rb w' w'' ∧ w'.heap.size ≤ w''.heap.size) [fun u _ => u = .pointer (some ⟨fb, 6, none⟩), fun u _ => u = vw, fun u _ => u = .pointer (some ⟨rb, 0, none⟩), fun u _ => u = .string nn, fun u w' => ∃ g, u = .slice (some ⟨g, 0, none⟩) 1 1 ∧ w'.cell? ⟨g, 0, none⟩ = some (.string nn) ∧ x5.heap.size ≤ g ∧ g < w'.heap.size]
      (by
       intro f hf u w' w'' h hr
       simp only [List.mem_cons, List.not_mem_nil, or_false] at hf
       rcases hf with rfl | rfl | rfl | rfl | rfl
       ·exact h
       ·exact h
       ·exact h
       ·exact h
       ·obtain ⟨g, h1, h2, h3, h4⟩ := h
        exact ⟨g, h1, (hr.1.cell (p := ⟨g, 0, none⟩) h4 (by show g ≠ rb; have := HPB.out; have := HK.out.fd.but.size; omega)).trans h2, h3, Nat.lt_of_lt_of_le h4 hr.2⟩)
      (fun _ => ⟨(But.refl rb x5).drewn, HK.out.fd.pa.drew⟩) (by kernel_rfl) (by kernel_rfl) ?_ ?_
     ·intro y hy d vals b w' hJ hu hd hall hx o ho
      match y, hy with
      | 0, _ =>
       obtain rfl := Option.some.inj ho
       have e : b.tmps.getD 7 undef = .pointer (some ⟨fb, 0, none⟩) := hx 7 rfl
       have hr := run_field_row w' fb 6 (by decide)
       rw [← e] at hr
       exact runs_value rfl hr ⟨rfl, ⟨But.refl _ _, Nat.le_refl _⟩, hJ⟩
      | 1, _ =>
       obtain rfl := Option.some.inj ho
       have e : b.tmps.getD 38 undef = .pointer (some ⟨fb, 6, none⟩) := (hd 0 (by kernel_rfl) (by decide)).2
       have hr := run_load_strs w' ⟨fb, 6, none⟩ vw ((HK.out.fd.fld.but hJ.1 (by have := HK.out.fd.news; omega)).cell 6 _ rfl)
       rw [← e] at hr
       exact runs_value rfl hr ⟨rfl, ⟨But.refl _ _, Nat.le_refl _⟩, hJ⟩
      | 2, _ =>
       obtain rfl := Option.some.inj ho
       exact ⟨hx 0 rfl, ⟨But.refl _ _, Nat.le_refl _⟩, hJ⟩
      | 3, _ =>
       obtain rfl := Option.some.inj ho
       have hu : d 3 = false := hu
       have e : b.tmps.getD 40 undef = .pointer (some ⟨rb, 0, none⟩) := (hd 2 (by kernel_rfl) (by decide)).2
       have hpa := hJ.2
       rw [hu] at hpa
       refine runs_call rfl (fun _ _ => rfl) ?_
       show Calls _ _ #[b.tmps.getD 40 undef] w' _
       rw [e]
       exact (CNq.out w' hpa).mono fun e w'' h => ⟨_, h.1, rfl, ⟨h.2.2, h.2.2.size⟩, hJ.1.trans h.2.2, h.2.1⟩
      | 4, _ =>
       obtain rfl := Option.some.inj ho
       have e : b.tmps.getD 41 undef = .string nn := (hd 3 (by kernel_rfl) (by decide)).2
       have hbs := run_build_str w' nn
       have hbel : Below w'.heap.size w' (w'.alloc (.cells #[.string nn] 9)) := (Below.refl _ _).alloc (Nat.le_refl _) _
       refine runs_value (X := Instr.buildSlice 45 1 #[(0, b.tmps.getD 41 undef)]) (by unfold execOp; simp [Act.eval]) (by rw [e]; exact hbs) ⟨⟨w'.heap.size, rfl, (Blk.new w' [.string nn] 9).cell 0 _ rfl, hJ.1.size, by rw [World.size_alloc]; omega⟩, ⟨But.of hbel, hbel.size⟩, hJ.1.trans (But.of hbel), hJ.2.below hbel⟩
     ·intro d vals w' hJ hall hf
      have v1 : vals 1 = vw := hf 1 (by decide)
      obtain ⟨g, v4, hcg, hg1, hg2⟩ := hf 4 (by decide)
      have hpa := hJ.2
      rw [hall 3 (by decide)] at hpa
      have hpa : RdAt rb s ts stop qb w' := hpa
      simp only [puts, List.length_cons, List.length_nil, Nat.zero_add, Nat.reduceAdd, List.drop_succ_cons, List.drop_zero, v1, v4]
      have hst := HK.out.fd.call hpa hJ.1
      have how := own_but HK.out.ow hJ.1 (by have := HK.out.fd.news; omega)
      have hog := own_but HK.out.og hJ.1 (by have := HK.out.fd.news; omega)
      have hg3 : fb + 1 ≤ w'.heap.size := hst.fld.lt
      have H8 := Lib.hid (And.intro hst (And.intro how (And.intro hog (And.intro hg3 (And.intro hcg (And.intro hg1 hg2))))))
      clear v1 v4 hst how hog hcg hpa hJ hall hf
      try go_frame

      refine wpList_append_own_at _ rfl (.tmp 39) (.tmp 42) 45 rfl (fb + 1) 9 j0 (.string ByteArray.empty) 1 16 Tryz.underlying45 HJ.out.1 HJ.out.2.1 HJ.out.2.2.1 HJ.out.2.2.2 rfl (by decide) vw (L.map (·.1)).length ((L.map (·.1)).map sv) rfl H8.out.2.1 ⟨g, 0, none⟩ 1 1 [.string nn] rfl rfl (by
       intro j u hj
       match j, hj with
       | 0, hj => obtain rfl := Option.some.inj hj; exact H8.out.2.2.2.2.1
       | j + 1, hj => simp at hj) (by intro u hu; simp at hu; subst hu; rfl) (by rw [List.length_map, HX.out.2]; unfold maxLen; omega) (by rw [List.length_map, HX.out.2]; omega) H8.out.2.2.2.1 ?_
      intro v' w4 hown' hgrow _ hat
      have HA := Lib.hid (And.intro hown' (And.intro hgrow hat))
      clear hown' hgrow hat

      have hfd4 := H8.out.1.grown HA.out.2.1 (fun j hj => by have := (H8.out.2.1.lt j hj).1; omega)
      obtain ⟨nl, hnl⟩ : ∃ n, n = (L.map (·.1)).length + 1 := ⟨_, rfl⟩
      have hown := HA.out.1
      rw [← hnl] at hown
      obtain ⟨Av, cv, rfl, -, -, -⟩ := own_rdS hown
      have HNL := Lib.hid hnl
      clear hown hnl
      have c6 := hfd4.fld.cell 6 _ rfl
      have f6 := hfd4.fld.frozen 6
      have HD4 := Lib.hid hfd4
      clear hfd4
      go_wp2_with fail
      clear c6 f6
      obtain ⟨v', hv'⟩ : ∃ v, v = Value.slice Av nl cv := ⟨_, rfl⟩
      try rw [← hv']
      obtain ⟨x6, hx6⟩ : ∃ x, x = w4.setCell ⟨fb, 6, none⟩ v' := ⟨_, rfl⟩
      have how : w4.ownsRow (fb + 1) 9 1 v' (L.map (·.1) ++ [nn]).length ((L.map (·.1) ++ [nn]).map sv) := by
       rw [hv', List.map_append, List.length_append]; exact HA.out.1
      have hog : w4.ownsRow (fb + 1) 3 1 vg (L.map (·.2)).length ((L.map (·.2)).map iv) := own_grown H8.out.2.2.1 HA.out.2.1 (fun j hj hn => HK.out.ap j hn hj)
      have hap : ∀ j, v'.ownBlock = some j → vg.ownBlock ≠ some j := fun j hj hn => by
       rw [hv'] at hj
       rcases HA.out.2.2 with hh | hh
       ·rw [hh] at hj; exact HK.out.ap j hj hn
       ·rw [hh] at hj
        have := (H8.out.2.2.1.lt j hn).2
        injection hj with hj
        omega
      have hst6 : GkSt rb s ts stop x W xb ob fb n1 no nu kq qb v' vg (L.map (·.1) ++ [nn]) (L.map (·.2)) x6 := by
       rw [hx6]
       exact ⟨HD4.out.set 6 v', own_setCell how _ _ (Nat.lt_succ_self fb), own_setCell hog _ _ (Nat.lt_succ_self fb), hap⟩
      try rw [← hx6]
      have HL := Lib.hid hst6
      clear hst6 how hog hap hx6 HD4 HA H8 hv' hg1 hg2 hg3 HK CNq
      try go_frame
      refine wp_region_statelist [45, 46, 47, 48, 49] (fun d _ w' => But rb x6 w' ∧ RdAt rb s ts stop (if d 3 = true then qc else qb) w') (fun w' w'' => But rb w' w'' ∧ w'.heap.size ≤ w''.heap.size) [fun u _ => u = .pointer (some ⟨fb, 7, none⟩), fun u _ => u = vg, fun u _ => u = .pointer (some ⟨rb, 0, none⟩), fun u _ => u = .int .i64 nm, fun u w' => ∃ g, u = .slice (some ⟨g, 0, none⟩) 1 1 ∧ w'.cell? ⟨g, 0, none⟩ = some (.int .i64 nm) ∧ x6.heap.size ≤ g ∧ g < w'.heap.size]
       (by
        intro f hf u w' w'' h hr
        simp only [List.mem_cons, List.not_mem_nil, or_false] at hf
        rcases hf with rfl | rfl | rfl | rfl | rfl
        ·exact h
        ·exact h
        ·exact h
        ·exact h
        ·obtain ⟨g, h1, h2, h3, h4⟩ := h
         exact ⟨g, h1, (hr.1.cell (p := ⟨g, 0, none⟩) h4 (by show g ≠ rb; have := HPB.out; have := HL.out.fd.but.size; omega)).trans h2, h3, Nat.lt_of_lt_of_le h4 hr.2⟩)
       (fun _ => ⟨(But.refl rb x6).drewn, HL.out.fd.pa.drew⟩) (by kernel_rfl) (by kernel_rfl) ?_ ?_
      ·intro y hy d vals b w' hJ hu hd hall hx o ho
       match y, hy with
       | 0, _ =>
        obtain rfl := Option.some.inj ho
        have e : b.tmps.getD 7 undef = .pointer (some ⟨fb, 0, none⟩) := hx 7 rfl
        have hr := run_field_row w' fb 7 (by decide)
        rw [← e] at hr
        exact runs_value rfl hr ⟨rfl, ⟨But.refl _ _, Nat.le_refl _⟩, hJ⟩
       | 1, _ =>
        obtain rfl := Option.some.inj ho
        have e : b.tmps.getD 45 undef = .pointer (some ⟨fb, 7, none⟩) := (hd 0 (by kernel_rfl) (by decide)).2
        have hr := run_load_ints w' ⟨fb, 7, none⟩ vg ((HL.out.fd.fld.but hJ.1 (by have := HL.out.fd.news; omega)).cell 7 _ rfl)
        rw [← e] at hr
        exact runs_value rfl hr ⟨rfl, ⟨But.refl _ _, Nat.le_refl _⟩, hJ⟩
       | 2, _ =>
        obtain rfl := Option.some.inj ho
        exact ⟨hx 0 rfl, ⟨But.refl _ _, Nat.le_refl _⟩, hJ⟩
       | 3, _ =>
        obtain rfl := Option.some.inj ho
        have hu : d 3 = false := hu
        have e : b.tmps.getD 47 undef = .pointer (some ⟨rb, 0, none⟩) := (hd 2 (by kernel_rfl) (by decide)).2
        have hpa := hJ.2
        rw [hu] at hpa
        refine runs_call rfl (fun _ _ => rfl) ?_
        show Calls _ _ #[b.tmps.getD 47 undef] w' _
        rw [e]
        exact (CMq.out w' hpa (HL.out.fd.but.trans hJ.1)).mono fun e w'' h => ⟨_, h.1, rfl, ⟨h.2.2, h.2.2.size⟩, hJ.1.trans h.2.2, h.2.1⟩
       | 4, _ =>
        obtain rfl := Option.some.inj ho
        have e : b.tmps.getD 48 undef = .int .i64 nm := (hd 3 (by kernel_rfl) (by decide)).2
        have hbs := run_build_int w' nm
        have hbel : Below w'.heap.size w' (w'.alloc (.cells #[.int .i64 nm] 3)) := (Below.refl _ _).alloc (Nat.le_refl _) _
        refine runs_value (X := Instr.buildSlice 22 1 #[(0, b.tmps.getD 48 undef)]) (by unfold execOp; simp [Act.eval]) (by rw [e]; exact hbs) ⟨⟨w'.heap.size, rfl, (Blk.new w' [.int .i64 nm] 3).cell 0 _ rfl, hJ.1.size, by rw [World.size_alloc]; omega⟩, ⟨But.of hbel, hbel.size⟩, hJ.1.trans (But.of hbel), hJ.2.below hbel⟩
      ·intro d vals w' hJ hall hf
       have v1 : vals 1 = vg := hf 1 (by decide)
       obtain ⟨g, v4, hcg, hg1, hg2⟩ := hf 4 (by decide)
       have hpa := hJ.2
       rw [hall 3 (by decide)] at hpa
       have hpa : RdAt rb s ts stop qc w' := hpa
       simp only [puts, List.length_cons, List.length_nil, Nat.zero_add, Nat.reduceAdd, List.drop_succ_cons, List.drop_zero, v1, v4]
       have hst := HL.out.fd.call hpa hJ.1
       have how := own_but HL.out.ow hJ.1 (by have := HL.out.fd.news; omega)
       have hog := own_but HL.out.og hJ.1 (by have := HL.out.fd.news; omega)
       have hg3 : fb + 1 ≤ w'.heap.size := hst.fld.lt
       have H8 := Lib.hid (And.intro hst (And.intro how (And.intro hog (And.intro hg3 (And.intro hcg (And.intro hg1 hg2))))))
       clear v1 v4 hst how hog hcg hpa hJ hall hf
       try go_frame
       refine wpList_append_own_at _ rfl (.tmp 46) (.tmp 49) 22 rfl (fb + 1) 3 i0 (.int .i64 0) 1 8 Tryz.underlying22 HI.out.1 HI.out.2.1 HI.out.2.2.1 HI.out.2.2.2 rfl (by decide) vg (L.map (·.2)).length ((L.map (·.2)).map iv) rfl H8.out.2.2.1 ⟨g, 0, none⟩ 1 1 [.int .i64 nm] rfl rfl (by
        intro j u hj
        match j, hj with
        | 0, hj => obtain rfl := Option.some.inj hj; exact H8.out.2.2.2.2.1
        | j + 1, hj => simp at hj) (by intro u hu; simp at hu; subst hu; rfl) (by rw [List.length_map, HX.out.2]; unfold maxLen; omega) (by rw [List.length_map, HX.out.2]; omega) H8.out.2.2.2.1 ?_
       intro v2 w4 hown' hgrow _ hat
       have HA := Lib.hid (And.intro hown' (And.intro hgrow hat))
       clear hown' hgrow hat
       have hfd4 := H8.out.1.grown HA.out.2.1 (fun j hj => by have := (H8.out.2.2.1.lt j hj).1; omega)
       obtain ⟨nl2, hnl2⟩ : ∃ n, n = (L.map (·.2)).length + 1 := ⟨_, rfl⟩
       have hown := HA.out.1
       rw [← hnl2] at hown
       obtain ⟨Av, cv, rfl, -, -, -⟩ := own_rdS hown
       have HNL2 := Lib.hid hnl2
       clear hown hnl2
       have c7 := hfd4.fld.cell 7 _ rfl
       have f7 := hfd4.fld.frozen 7
       have HD4 := Lib.hid hfd4
       clear hfd4
       go_wp2_with fail
       refine ⟨⟨k + 1, qc, v', .slice Av nl2 cv, L ++ [(nn, nm)], by go_num, ?_, HX.out.1, by rw [List.length_append, HX.out.2]; rfl, by omega⟩, by simp [intOf]; omega⟩
       rw [List.map_append, List.map_append]
       refine ⟨HD4.out.set 7 _, own_setCell (own_grown H8.out.2.1 HA.out.2.1 (fun j hj hn => HL.out.ap j hj hn)) _ _ (Nat.lt_succ_self fb), own_setCell ?_ _ _ (Nat.lt_succ_self fb), ?_⟩
       ·rw [List.map_append, List.length_append]; exact HA.out.1
       ·intro j hj hn
        rcases HA.out.2.2 with hh | hh
        ·rw [hh] at hn; exact HL.out.ap j hj hn
        ·rw [hh] at hn
         have := (H8.out.2.1.lt j hj).2
         injection hn with hn
         omega
    ·have hRR : Rp = (L, q) := by rw [hR, show cn.toNat - k = 0 by omega]; rfl
     have HRp := Lib.hid hRR
     clear hRR
     obtain ⟨nw, hnw⟩ : ∃ n, n = (L.map (·.1)).length := ⟨_, rfl⟩
     obtain ⟨ng, hng⟩ : ∃ n, n = (L.map (·.2)).length := ⟨_, rfl⟩
     have how := HK.out.ow
     have hog := HK.out.og
     rw [← hnw] at how
     rw [← hng] at hog
     obtain ⟨Aw, cw, rfl, hw1, hw2, hw3⟩ := own_rdS how
     obtain ⟨Ag, cg, rfl, hg1, hg2, hg3⟩ := own_rdS hog
     obtain ⟨d0, d1, d2, d3, d4, d5, d6, d7⟩ := cells8 HK.out.fd.fld
     obtain ⟨r0, r1, r2, r3, r4, r5, r6, r7⟩ := cells8z HK.out.fd.res
     obtain ⟨g0, g1, g2, g3, g4, g5, g6, g7⟩ := frozen8 HK.out.fd.res
     have hnr : ob ≠ fb := by have := HK.out.fd.news; omega
     have HF := Lib.hid (And.intro hw1 (And.intro hw2 (And.intro hw3 (And.intro hg1 (And.intro hg2 (And.intro hg3 (And.intro hnw hng)))))))
     clear how hog hw1 hw2 hw3 hg1 hg2 hg3 hnw hng hR hL CN CM CC
     go_wp2_with fail
     obtain ⟨e1, e2, e3, e4, e5⟩ := gput8_end HK.out.fd (.string n1) (.string no) (.string nu) (.int .i64 kq) (.int .i64 0) (.int .i64 0) (.slice Aw nw cw) (.slice Ag ng cg)
     have hks : KeepS (fun k => fb < k ∧ k < x5.heap.size) x5 (put8 x5 ob (.string n1) (.string no) (.string nu) (.int .i64 kq) (.int .i64 0) (.int .i64 0) (.slice Aw nw cw) (.slice Ag ng cg)) := fun a ha => by
      unfold World.cell?
      rw [e4 a.block (by have := HK.out.fd.news; omega) ha.2]
     have hmo : ∀ k, (fb < k ∧ k < x5.heap.size) → Fresh W (put8 x5 ob (.string n1) (.string no) (.string nu) (.int .i64 kq) (.int .i64 0) (.int .i64 0) (.slice Aw nw cw) (.slice Ag ng cg)) k := fun k hk => ⟨by have := HK.out.fd.news; omega, by rw [e5]; exact hk.2⟩
     rw [HE.out, HRp.out]
     exact bodyPost_ret (results_cell_row rfl _ _ ob 74 #[.string n1, .string no, .string nu, .int .i64 kq, .int .i64 0, .int .i64 0, .slice Aw nw cw, .slice Ag ng cg] (0, 0) _ rfl e1 Tryz.underlying74 rfl (by kernel_rfl)) rfl
      ⟨_, rfl, ⟨Aw, cw, Ag, cg, by rw [HF.out.2.2.2.2.2.2.1, HF.out.2.2.2.2.2.2.2], (HF.out.1.keep hks).mono hmo, (HF.out.2.2.2.1.keep hks).mono hmo, by show (L.map (·.1)).length ≤ cw; rw [← HF.out.2.2.2.2.2.2.1]; exact HF.out.2.1, HF.out.2.2.1, by show (L.map (·.2)).length ≤ cg; rw [← HF.out.2.2.2.2.2.2.2]; exact HF.out.2.2.2.2.1, HF.out.2.2.2.2.2.1⟩, e2, e3⟩
end Go.Proofs.YtkgddcemocfgfaaGreatDoor
end

