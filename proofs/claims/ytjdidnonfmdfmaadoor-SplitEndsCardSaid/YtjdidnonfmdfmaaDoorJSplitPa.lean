import Derived.Laws.Small
import Derived.Test.YtjdidnonfmdfmaaDoorJDrawB
import Derived.Test.YtjdidnonfmdfmaaDoorJSplitL1

section
/- split: nodes; root, halves. -/



namespace Go.Proofs.YtjdidnonfmdfmaaDoor
open Go.RowKit
set_option linter.unusedVariables false
set_option maxRecDepth 100000

/-- A node's cells. -/
def Nc (f n b t : Int) : List Value := [.int .i64 f, .int .i64 n, .int .i64 b, .int .i64 t]
/-- A node as a value. -/
def nd (f n b t : Int) : Value := .agg #[.int .i64 f, .int .i64 n, .int .i64 b, .int .i64 t]
theorem nd_def (f n b t : Int) : nd f n b t = .agg #[.int .i64 f, .int .i64 n, .int .i64 b, .int .i64 t] := rfl
/-- A split's cells. -/
def Sc (s : ByteArray) (A : Option Addr) (len cap : Nat) (t n lo hi : Int) : List Value := [.string s, .slice A len cap, .int .i64 t, .int .i64 n, .int .i64 lo, .int .i64 hi]
theorem spl_def (s : ByteArray) (A : Option Addr) (len cap : Nat) (t n lo hi : Int) : spl s A len cap t n lo hi = .agg #[.string s, .slice A len cap, .int .i64 t, .int .i64 n, .int .i64 lo, .int .i64 hi] := rfl

/-- The four cells of a variable are written. -/
theorem Nc_set {W : World} {g : Nat} {us : List Value} {t : TypeId} (h : Blk W g us t) (h4 : us.length = 4) (a b c d : Value) :
    Blk ((((W.setCell ⟨g, 0, none⟩ a).setCell ⟨g, 1, none⟩ b).setCell ⟨g, 2, none⟩ c).setCell ⟨g, 3, none⟩ d) g [a, b, c, d] t := by
  obtain ⟨u0, u1, u2, u3, rfl⟩ : ∃ u0 u1 u2 u3, us = [u0, u1, u2, u3] := by
    match us, h4 with
    | [u0, u1, u2, u3], _ => exact ⟨u0, u1, u2, u3, rfl⟩
  exact (((h.set 0 a).set 1 b).set 2 c).set 3 d
theorem Nc_other {W : World} {g k : Nat} {us : List Value} {t : TypeId} (h : Blk W g us t) (hn : g ≠ k) (a b c d : Value) :
    Blk ((((W.setCell ⟨k, 0, none⟩ a).setCell ⟨k, 1, none⟩ b).setCell ⟨k, 2, none⟩ c).setCell ⟨k, 3, none⟩ d) g us t := (((h.other _ _ hn).other _ _ hn).other _ _ hn).other _ _ hn
theorem Nc_below {W w : World} {B k : Nat} (h : Below B w W) (hk : B ≤ k) (a b c d : Value) : Below B w ((((W.setCell ⟨k, 0, none⟩ a).setCell ⟨k, 1, none⟩ b).setCell ⟨k, 2, none⟩ c).setCell ⟨k, 3, none⟩ d) :=
  (((h.setCell hk _).setCell hk _).setCell hk _).setCell hk _
theorem Nc_facts {W : World} {g : Nat} {a b c d : Value} {t : TypeId} (h : Blk W g [a, b, c, d] t) :
    (W.cell? ⟨g, 0, none⟩ = some a ∧ W.cell? ⟨g, 1, none⟩ = some b ∧ W.cell? ⟨g, 2, none⟩ = some c ∧ W.cell? ⟨g, 3, none⟩ = some d) ∧ (W.frozen? ⟨g, 0, none⟩ = false ∧ W.frozen? ⟨g, 1, none⟩ = false ∧ W.frozen? ⟨g, 2, none⟩ = false ∧ W.frozen? ⟨g, 3, none⟩ = false) :=
  ⟨⟨h.cell 0 _ rfl, h.cell 1 _ rfl, h.cell 2 _ rfl, h.cell 3 _ rfl⟩, h.frozen 0, h.frozen 1, h.frozen 2, h.frozen 3⟩

theorem results_nodes {fn : Func} {p q : Tmp} (h : fn.results = #[.cell p 59, .cell q 59]) (tmps : Array Value) (W : World) (g k : Nat) (f n b t f' n' b' t' : Int)
    (hp : tmps.getD p undef = .pointer (some ⟨g, 0, none⟩)) (hq : tmps.getD q undef = .pointer (some ⟨k, 0, none⟩)) (hg : Blk W g (Nc f n b t) 59) (hk : Blk W k (Nc f' n' b' t') 59) :
    (results fn tmps).run Tryd.prog W = .ok (.tuple #[nd f n b t, nd f' n' b' t']) W := by
  have e1 := run_loadVar_row (P := Tryd.prog) W g 59 59 (Nc f n b t).toArray (0, 0) _ hg Tryd.underlying59 rfl (by kernel_rfl)
  have e2 := run_loadVar_row (P := Tryd.prog) W k 59 59 (Nc f' n' b' t').toArray (0, 0) _ hk Tryd.underlying59 rfl (by kernel_rfl)
  rw [Array.getD_eq_getD_getElem?] at hp hq
  simp only [results, h]
  simp [Sem.run_bind, Result.andThen, hp, hq, asAddr, e1, e2]
  exact ⟨rfl, rfl⟩

theorem root_any (s : ByteArray) (A : Option Addr) (len cap : Nat) (t n lo hi : Int) (w : World) :
    Calls Tryd.prog 40 #[spl s A len cap t n lo hi] w fun e w' => e = .returned (nd 0 n 0 t) ∧ Below w.heap.size w w' := by
  rw [spl_def, nd_def]
  go_enter Tryd.func40, Tryd.ntmps40
  go_wp2_with fail
  exact bodyPost_ret (results_cell_row rfl _ _ (w.heap.size + 1) 59 #[.int .i64 0, .int .i64 n, .int .i64 0, .int .i64 t] (0, 0) _ rfl (by simpa using heap_alloc_new (w.alloc (.cells #[.string s, .slice A len cap, .int .i64 t, .int .i64 n, .int .i64 lo, .int .i64 hi] 28)) (.cells #[.int .i64 0, .int .i64 n, .int .i64 0, .int .i64 t] 59)) Tryd.underlying59 rfl (by kernel_rfl)) rfl
    ⟨rfl, ((Below.refl _ _).alloc (Nat.le_refl _) _).alloc (by simp) _⟩

/-- What is drawn at a node. -/
def Drawn (s : ByteArray) (q : List Int) (L H x : Int) (w : World) : Prop :=
  ∀ (W : World) (B : Option Addr) (c : Nat), Below w.heap.size w W → Rd W W.heap.size B (q.map iv) → q.length ≤ c → c ≤ maxLen →
    Calls Tryd.prog 26 #[.string s, .slice B q.length c, .int .i64 L, .int .i64 H] W fun e w' => e = .returned (.tuple #[.int .i64 x, .int .i64 0]) ∧ Below W.heap.size W w'
theorem Drawn.below {s : ByteArray} {q : List Int} {L H x : Int} {w w' : World} (h : Drawn s q L H x w) (hb : Below w.heap.size w w') : Drawn s q L H x w' := fun W B c hW => h W B c (hb.trans (hW.mono hb.size))

theorem mul_in {l v : Int} (h0 : 0 ≤ l) (h1 : l ≤ 65536) (h2 : -1048576 ≤ v) (h3 : v ≤ 1048576) : -68719476736 ≤ l * v ∧ l * v ≤ 68719476736 := by
  have a : l * -1048576 ≤ l * v := Int.mul_le_mul_of_nonneg_left h2 h0
  have b : l * v ≤ l * 1048576 := Int.mul_le_mul_of_nonneg_left h3 h0
  omega
theorem wrap_id {x : Int} (h1 : -9223372036854775808 ≤ x) (h2 : x ≤ 9223372036854775807) : wrap64 x = x := by unfold wrap64; omega
theorem six_new (w : World) (X0 X1 X2 X3 X4 X5 : List Value) (t0 t1 t2 t3 t4 t5 : TypeId) (W : World) (hW : W = (((((w.alloc (.cells X0.toArray t0)).alloc (.cells X1.toArray t1)).alloc (.cells X2.toArray t2)).alloc (.cells X3.toArray t3)).alloc (.cells X4.toArray t4)).alloc (.cells X5.toArray t5)) :
    Blk W w.heap.size X0 t0 ∧ Blk W (w.heap.size + 1) X1 t1 ∧ Blk W (w.heap.size + 2) X2 t2 ∧ Blk W (w.heap.size + 3) X3 t3 ∧ Blk W (w.heap.size + 4) X4 t4 ∧ Blk W (w.heap.size + 5) X5 t5 ∧ Below w.heap.size w W ∧ W.heap.size = w.heap.size + 6 := by
  have k0 := Blk.new w X0 t0
  have k1 := Blk.new (w.alloc (.cells X0.toArray t0)) X1 t1
  have k2 := Blk.new ((w.alloc (.cells X0.toArray t0)).alloc (.cells X1.toArray t1)) X2 t2
  have k3 := Blk.new (((w.alloc (.cells X0.toArray t0)).alloc (.cells X1.toArray t1)).alloc (.cells X2.toArray t2)) X3 t3
  have k4 := Blk.new ((((w.alloc (.cells X0.toArray t0)).alloc (.cells X1.toArray t1)).alloc (.cells X2.toArray t2)).alloc (.cells X3.toArray t3)) X4 t4
  have k5 := Blk.new (((((w.alloc (.cells X0.toArray t0)).alloc (.cells X1.toArray t1)).alloc (.cells X2.toArray t2)).alloc (.cells X3.toArray t3)).alloc (.cells X4.toArray t4)) X5 t5
  simp only [World.size_alloc] at k1 k2 k3 k4 k5
  subst hW
  refine ⟨((((k0.alloc _).alloc _).alloc _).alloc _).alloc _, (((k1.alloc _).alloc _).alloc _).alloc _, ((k2.alloc _).alloc _).alloc _, (k3.alloc _).alloc _, k4.alloc _, k5, ?_, by simp⟩
  exact ((((((Below.refl _ _).alloc (Nat.le_refl _) _).alloc (by simp) _).alloc (by simp; omega) _).alloc (by simp; omega) _).alloc (by simp; omega) _).alloc (by simp; omega) _

set_option maxHeartbeats 4000000 in
theorem halves_any (s : ByteArray) (A : Option Addr) (cap : Nat) (P : List Int) (T N lo hi f n b t l r L H x : Int) (w : World) (hrd : Rd w w.heap.size A (P.map iv)) (hc : P.length ≤ cap) (hcm : cap ≤ maxLen) (hP : P.length ≤ 1000)
    (hl : n.tdiv 2 = l) (hr : n - l = r) (hl0 : 0 ≤ l) (hl1 : l ≤ 65536) (hr0 : 0 ≤ r) (hr1 : r ≤ 65536) (hlo : -1048576 ≤ lo) (hlo2 : lo ≤ 1048576) (hhi : -1048576 ≤ hi) (hhi2 : hi ≤ 1048576) (hf0 : 0 ≤ f) (hf1 : f ≤ 65536)
    (ht0 : -1000000000000 ≤ t) (ht1 : t ≤ 1000000000000) (hb0 : -1000000000000 ≤ b) (hb1 : b ≤ 1000000000000) (hx0 : -1000000000000 ≤ x) (hx1 : x ≤ 1000000000000)
    (hL : max (l * lo) (t - r * hi) = L) (hH : min (l * hi) (t - r * lo) = H) (hD : Drawn s (P ++ [f, n]) L H x w) :
    Calls Tryd.prog 43 #[spl s A P.length cap T N lo hi, nd f n b t] w fun e w' => e = .returned (.tuple #[nd f l b x, nd (f + l) r (b + x) (t - x)]) ∧ Below w.heap.size w w' := by
  have m1 := mul_in hl0 hl1 hlo hlo2
  have m2 := mul_in hr0 hr1 hhi hhi2
  have m3 := mul_in hl0 hl1 hhi hhi2
  have m4 := mul_in hr0 hr1 hlo hlo2
  obtain ⟨a1, e1⟩ : ∃ a, a = l * lo := ⟨_, rfl⟩
  obtain ⟨a2, e2⟩ : ∃ a, a = r * hi := ⟨_, rfl⟩
  obtain ⟨a3, e3⟩ : ∃ a, a = l * hi := ⟨_, rfl⟩
  obtain ⟨a4, e4⟩ : ∃ a, a = r * lo := ⟨_, rfl⟩
  rw [← e1] at m1 hL
  rw [← e2] at m2 hL
  rw [← e3] at m3 hH
  rw [← e4] at m4 hH
  have p1 : wrap64 (l * lo) = a1 := by rw [← e1]; exact wrap_id (by omega) (by omega)
  have p2 : wrap64 (r * hi) = a2 := by rw [← e2]; exact wrap_id (by omega) (by omega)
  have p3 : wrap64 (l * hi) = a3 := by rw [← e3]; exact wrap_id (by omega) (by omega)
  have p4 : wrap64 (r * lo) = a4 := by rw [← e4]; exact wrap_id (by omega) (by omega)
  have p5 : wrap64 (t - a2) = t - a2 := wrap_id (by omega) (by omega)
  have p6 : wrap64 (t - a4) = t - a4 := wrap_id (by omega) (by omega)
  have p7 : wrap64 l = l := wrap_id (by omega) (by omega)
  have p8 : wrap64 r = r := wrap_id (by omega) (by omega)
  have p9 : wrap64 (f + l) = f + l := wrap_id (by omega) (by omega)
  have p10 : wrap64 (b + x) = b + x := wrap_id (by omega) (by omega)
  have p11 : wrap64 (t - x) = t - x := wrap_id (by omega) (by omega)
  obtain ⟨M, hM⟩ : ∃ M, M = P.length := ⟨_, rfl⟩
  have HR := Lib.hid (And.intro hrd (And.intro hc (And.intro hcm (And.intro hP (And.intro hD hM)))))
  rw [← hM]
  rw [spl_def, nd_def]
  clear m1 m2 m3 m4 e1 e2 e3 e4 hrd hc hcm hP hD hM hl0 hl1 hr0 hr1 hlo hlo2 hhi hhi2 hf0 hf1 ht0 ht1 hb0 hb1 hx0 hx1
  go_enter Tryd.func43, Tryd.ntmps43
  go_wp2_with fail
  obtain ⟨W6, hW6⟩ : ∃ W6, W6 = (((((w.alloc (.cells (Sc s A M cap T N lo hi).toArray 28)).alloc (.cells (Nc f n b t).toArray 59)).alloc (.cells (Nc 0 0 0 0).toArray 59)).alloc (.cells (Nc 0 0 0 0).toArray 59)).alloc (.cells ([f, n].map iv).toArray 3)).alloc (.cells ([Part.v ⟨A, cap, P⟩, Part.v ⟨some ⟨w.heap.size + 4, 0, none⟩, 2, [f, n]⟩]).toArray 22) := ⟨_, rfl⟩
  obtain ⟨k0, k1, k2, k3, k4, k5, hb6, hs6⟩ := six_new w _ _ _ _ _ _ _ _ _ _ _ _ W6 hW6
  have hW7 : W6 = (((((w.alloc (.cells #[.string s, .slice A M cap, .int .i64 T, .int .i64 N, .int .i64 lo, .int .i64 hi] 28)).alloc (.cells #[.int .i64 f, .int .i64 n, .int .i64 b, .int .i64 t] 59)).alloc (.cells #[.int .i64 0, .int .i64 0, .int .i64 0, .int .i64 0] 59)).alloc (.cells #[.int .i64 0, .int .i64 0, .int .i64 0, .int .i64 0] 59)).alloc (.cells #[.int .i64 f, .int .i64 n] 3)).alloc (.cells #[.slice A M cap, .slice (some ⟨w.heap.size + 1 + 1 + 1 + 1, 0, none⟩) 2 2] 22) := by
    rw [hW6]
    have e : (Part.v ⟨A, cap, P⟩ : Value) = .slice A M cap := by unfold Part.v; rw [HR.out.2.2.2.2.2]
    rw [e]
    rfl
  rw [← hW7]
  have hrow : Rd W6 W6.heap.size (some ⟨w.heap.size + 5, 0, none⟩) ([(⟨A, cap, P⟩ : Part), ⟨some ⟨w.heap.size + 4, 0, none⟩, 2, [f, n]⟩].map Part.v) := fun _ => ⟨w.heap.size + 5, 0, rfl, k5.lt, fun j u hu => by rw [Nat.zero_add]; exact k5.cell j u hu⟩
  have hfn : Rd W6 W6.heap.size (some ⟨w.heap.size + 4, 0, none⟩) ([f, n].map iv) := fun _ => ⟨w.heap.size + 4, 0, rfl, k4.lt, fun j u hu => by rw [Nat.zero_add]; exact k4.cell j u hu⟩
  have hpr := (HR.out.1.below hb6).more hb6.size
  have cC := concat_any (some ⟨w.heap.size + 5, 0, none⟩) 2 [⟨A, cap, P⟩, ⟨some ⟨w.heap.size + 4, 0, none⟩, 2, [f, n]⟩] W6 hrow (by simp) (by
    intro p hp
    rcases List.mem_cons.1 hp with rfl | hp
    · exact hpr
    · rcases List.mem_cons.1 hp with rfl | hp
      · exact hfn
      · cases hp) (by have := HR.out.2.2.2.1; simp [joined]; omega)
  rw [show joined [(⟨A, cap, P⟩ : Part), ⟨some ⟨w.heap.size + 4, 0, none⟩, 2, [f, n]⟩] = P ++ [f, n] by simp [joined]] at cC
  have HK := Lib.hid (And.intro k0 (And.intro k1 (And.intro k2 (And.intro k3 (And.intro hb6 hs6)))))
  clear hW6 hW7 k0 k1 k2 k3 k4 k5 hb6 hs6 hrow hfn hpr
  refine Calls.mono cC ?_
  rintro e w1 ⟨v, rfl, hown, hb⟩
  obtain ⟨B, c, rfl, hB, hBc, hcm⟩ := own_rd (B := 0) hown
  have g0 := HK.out.1.below hb HK.out.1.lt
  have g1 := HK.out.2.1.below hb HK.out.2.1.lt
  have g2 := HK.out.2.2.1.below hb HK.out.2.2.1.lt
  have g3 := HK.out.2.2.2.1.below hb HK.out.2.2.2.1.lt
  have hb1 := HK.out.2.2.2.2.1.trans (hb.mono HK.out.2.2.2.2.1.size)
  have cD := HR.out.2.2.2.2.1 w1 B c hb1 hB hBc hcm
  obtain ⟨Q, hQ⟩ : ∃ Q, Q = (P ++ [f, n]).length := ⟨_, rfl⟩
  rw [← hQ] at cD ⊢
  have CD := Lib.hid cD
  have cs := g0.cell 0 _ rfl
  have HG := Lib.hid (And.intro g0 (And.intro g1 (And.intro g2 (And.intro g3 (And.intro hb1 HK.out.2.2.2.2.2)))))
  clear cD hown hB hBc hcm hb hb1 g0 g1 g2 g3 hQ HK
  go_wp2_with fail
  refine CD.out.mono ?_
  rintro e w2 ⟨rfl, hb⟩
  have g0 := HG.out.1.below hb HG.out.1.lt
  have g1 := HG.out.2.1.below hb HG.out.2.1.lt
  have g2 := HG.out.2.2.1.below hb HG.out.2.2.1.lt
  have g3 := HG.out.2.2.2.1.below hb HG.out.2.2.2.1.lt
  have hb2 := HG.out.2.2.2.2.1.trans (hb.mono HG.out.2.2.2.2.1.size)
  clear CD HG hb cs
  obtain ⟨⟨c10, c11, c12, c13⟩, -⟩ := Nc_facts g1
  obtain ⟨⟨c20, c21, c22, c23⟩, f20, f21, f22, f23⟩ := Nc_facts g2
  obtain ⟨⟨c30, c31, c32, c33⟩, f30, f31, f32, f33⟩ := Nc_facts g3
  have G := Lib.hid (And.intro g1 (And.intro g2 (And.intro g3 hb2)))
  clear g0 g1 g2 g3 hb2
  go_wp2_with fail
  obtain ⟨W8, hW8⟩ : ∃ W8, W8 = ((((((((w2.setCell ⟨w.heap.size + 1 + 1, 0, none⟩ (.int .i64 f)).setCell ⟨w.heap.size + 1 + 1, 1, none⟩ (.int .i64 l)).setCell ⟨w.heap.size + 1 + 1, 2, none⟩ (.int .i64 b)).setCell ⟨w.heap.size + 1 + 1, 3, none⟩ (.int .i64 x)).setCell ⟨w.heap.size + 1 + 1 + 1, 0, none⟩ (.int .i64 (f + l))).setCell ⟨w.heap.size + 1 + 1 + 1, 1, none⟩ (.int .i64 r)).setCell ⟨w.heap.size + 1 + 1 + 1, 2, none⟩ (.int .i64 (b + x))).setCell ⟨w.heap.size + 1 + 1 + 1, 3, none⟩ (.int .i64 (t - x))) := ⟨_, rfl⟩
  have n2 : Blk W8 (w.heap.size + 1 + 1) (Nc f l b x) 59 := by
    rw [hW8]
    exact Nc_other (Nc_set G.out.2.1 rfl _ _ _ _) (by omega) _ _ _ _
  have n3 : Blk W8 (w.heap.size + 1 + 1 + 1) (Nc (f + l) r (b + x) (t - x)) 59 := by
    rw [hW8]
    exact Nc_set (Nc_other G.out.2.2.1 (by omega) _ _ _ _) rfl _ _ _ _
  have hb8 : Below w.heap.size w W8 := by
    rw [hW8]
    exact Nc_below (Nc_below G.out.2.2.2 (by omega) _ _ _ _) (by omega) _ _ _ _
  rw [← hW8]
  clear hW8 c10 c11 c12 c13 c20 c21 c22 c23 c30 c31 c32 c33 f20 f21 f22 f23 f30 f31 f32 f33 G
  obtain ⟨⟨c20, c21, c22, c23⟩, f20, f21, f22, f23⟩ := Nc_facts n2
  obtain ⟨⟨c30, c31, c32, c33⟩, f30, f31, f32, f33⟩ := Nc_facts n3
  have N := Lib.hid (And.intro (Nc_other (Nc_set n2 rfl (.int .i64 f) (.int .i64 l) (.int .i64 b) (.int .i64 x)) (show w.heap.size + 1 + 1 ≠ w.heap.size + 1 + 1 + 1 by omega) (.int .i64 (f + l)) (.int .i64 r) (.int .i64 (b + x)) (.int .i64 (t - x)))
    (And.intro (Nc_set (Nc_other n3 (show w.heap.size + 1 + 1 + 1 ≠ w.heap.size + 1 + 1 by omega) (.int .i64 f) (.int .i64 l) (.int .i64 b) (.int .i64 x)) rfl (.int .i64 (f + l)) (.int .i64 r) (.int .i64 (b + x)) (.int .i64 (t - x)))
      (Nc_below (Nc_below hb8 (show w.heap.size ≤ w.heap.size + 1 + 1 by omega) (.int .i64 f) (.int .i64 l) (.int .i64 b) (.int .i64 x)) (show w.heap.size ≤ w.heap.size + 1 + 1 + 1 by omega) (.int .i64 (f + l)) (.int .i64 r) (.int .i64 (b + x)) (.int .i64 (t - x)))))
  clear n2 n3 hb8
  go_region
  go_wp2_with fail
  exact bodyPost_ret (results_nodes rfl _ _ (w.heap.size + 1 + 1) (w.heap.size + 1 + 1 + 1) f l b x (f + l) r (b + x) (t - x) rfl rfl N.out.1.drew N.out.2.1.drew) rfl ⟨rfl, N.out.2.2.drew⟩
end Go.Proofs.YtjdidnonfmdfmaaDoor
end

