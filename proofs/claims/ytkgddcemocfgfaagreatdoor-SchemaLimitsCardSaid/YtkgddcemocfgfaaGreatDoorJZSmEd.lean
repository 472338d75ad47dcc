import Derived.Deep.QuietTactic
import Derived.BigQuiet
import Derived.Test.YtkgddcemocfgfaaGreatDoorJZShort
import Derived.Test.YtkgddcemocfgfaaGreatDoorJZSmEc
import Derived.Test.YtkgddcemocfgfaaGreatDoorJZSmGx
import Derived.Test.YtkgddcemocfgfaaGreatDoorJZSmHc

section
/- The program: Valid, Print; Parse. -/


namespace Go.Proofs.YtkgddcemocfgfaaGreatDoor
open Go.RowKit
set_option linter.unusedVariables false
set_option linter.unusedSimpArgs false
set_option maxRecDepth 100000

theorem rowsK_at {w W : World} {A : Option Addr} {l : List Sm.Kd} (h : Rows KdC w w.heap.size A l) (hb : Below w.heap.size w W) : Rows KdC W W.heap.size A l :=
 (h.keep (Keep.of hb) fun _ _ k => KdC.keep k (Keep.of hb)).more hb.size fun _ _ k => KdC.more k hb.size
theorem rowsL_at {w W : World} {A : Option Addr} {l : List Sm.Lf} (h : Rows LfC w w.heap.size A l) (hb : Below w.heap.size w W) : Rows LfC W W.heap.size A l :=
 (h.keep (Keep.of hb) fun _ _ k => LfC.keep k (Keep.of hb)).more hb.size fun _ _ k => LfC.more k hb.size
theorem rowsR_at {w W : World} {A : Option Addr} {l : List Sm.Ru} (h : Rows RuC w w.heap.size A l) (hb : Below w.heap.size w W) : Rows RuC W W.heap.size A l :=
 (h.keep (Keep.of hb) fun _ _ k => k).more hb.size fun _ _ (k : RuC W w.heap.size _ _) => (k : RuC W W.heap.size _ _)

set_option maxHeartbeats 4000000 in
theorem gValid_any : GValid := by
 intro x Ak ck Al cl Ar cr w hD hg hK hL hR hF l1 l2 l3
 have cP := fun W (hb : Below w.heap.size w W) => gParts_any x Ak ck Al cl Ar cr W (hD.below hb hg) (Nat.le_trans hg hb.size) (rowsK_at hK hb) (rowsL_at hL hb) (rowsR_at hR hb) hF l1 l2 l3
 have cS := fun (h : Sm.shaped x = true) W (hb : Below w.heap.size w W) => gSource_any x Ak ck Al cl Ar cr W (hD.below hb hg) (Nat.le_trans hg hb.size) (rowsK_at hK hb) (rowsL_at hL hb) (rowsR_at hR hb) (Sm.shaped_small h)
 simp only [Sm.parts_ok] at cP
 have hz1 : Sm.shaped x = false → Sm.validE x = 1 := fun h => by unfold Sm.validE; rw [if_pos h]
 have hz2 : Sm.shaped x = true → Sm.validE x = if 8192 < (Sm.sourceG x).size then 4 else 0 := fun h => by unfold Sm.validE; rw [if_neg (by rw [h]; decide), Sm.source_put h]
 obtain ⟨z, hz⟩ : ∃ z, z = Sm.validE x := ⟨_, rfl⟩
 obtain ⟨s, hs⟩ : ∃ z, z = Sm.shaped x := ⟨_, rfl⟩
 obtain ⟨src, hsrc⟩ : ∃ z, z = Sm.sourceG x := ⟨_, rfl⟩
 rw [← hz, ← hs] at hz1
 rw [← hz, ← hs, ← hsrc] at hz2
 rw [← hz]
 simp only [← hs] at cP
 simp only [← hs, ← hsrc] at cS
 have g := box_new' w x Ak ck Al cl Ar cr
 obtain ⟨version, kinds, lives, rules⟩ := x
 dsimp only at cP cS g ⊢
 obtain ⟨NK, hNK⟩ : ∃ n, n = kinds.length := ⟨_, rfl⟩
 obtain ⟨NL, hNL⟩ : ∃ n, n = lives.length := ⟨_, rfl⟩
 obtain ⟨NR, hNR⟩ : ∃ n, n = rules.length := ⟨_, rfl⟩
 rw [← hNK, ← hNL, ← hNR] at g ⊢
 simp only [← hNK, ← hNL, ← hNR] at cP cS
 have CP := Lib.hid cP
 have CS := Lib.hid cS
 have HZ := Lib.hid (And.intro hz1 hz2)
 have HG := Lib.hid g
 clear hD hg hK hL hR hF l1 l2 l3 cP cS hz1 hz2 hz hs hsrc hNK hNL hNR g
 go_enter Tryz.func12, Tryz.ntmps12
 go_wp2_with fail
 refine (CP.out _ HG.out.2).mono ?_
 rintro e w2 ⟨rfl, hb⟩
 have k := HG.out.1.below hb HG.out.1.lt
 have c0 := k.cell 0 _ rfl
 have c1 := k.cell 1 _ rfl
 have c2 := k.cell 2 _ rfl
 have c3 := k.cell 3 _ rfl
 have HB := Lib.hid (HG.out.2.trans (hb.mono HG.out.2.size))
 clear k hb HG CP
 cases s with
 | false =>
  obtain rfl := HZ.out.1 (by first | rfl | trivial)
  go_wp2_with fail
  go_ret
  exact ⟨rfl, HB.out⟩
 | true =>
  have hz := HZ.out.2 (by first | rfl | trivial)
  have HZZ := Lib.hid hz
  clear hz HZ
  go_wp2_with fail
  refine (CS.out (by first | rfl | trivial) _ HB.out).mono ?_
  rintro e w3 ⟨rfl, hb⟩
  have HB3 := Lib.hid (HB.out.trans (hb.mono HB.out.size))
  clear hb CS c0 c1 c2 c3 HB
  by_cases h8 : 8192 < src.size
  ·obtain rfl : z = 4 := by rw [HZZ.out, if_pos h8]
   have h9 : (src.size : Int) > 8192 := by omega
   go_wp2_with fail
   go_ret
   exact ⟨rfl, HB3.out⟩
  ·obtain rfl : z = 0 := by rw [HZZ.out, if_neg h8]
   have h9 : ¬ (src.size : Int) > 8192 := by omega
   go_wp2_with fail
   go_ret
   exact ⟨rfl, HB3.out⟩

set_option maxHeartbeats 4000000 in
theorem gPrint_any (x : Sm.Sc) (Ak : Option Addr) (ck : Nat) (Al : Option Addr) (cl : Nat) (Ar : Option Addr) (cr : Nat) (w : World) (hD : SDoor w) (hg : doorB ≤ w.heap.size) (hK : Rows KdC w w.heap.size Ak x.kinds) (hL : Rows LfC w w.heap.size Al x.lives) (hR : Rows RuC w w.heap.size Ar x.rules) (hF : Sm.FewS x)
  (l1 : x.kinds.length ≤ 1000000000) (l2 : x.lives.length ≤ 1000000000) (l3 : x.rules.length ≤ 1000000000) :
  Calls Tryz.prog 14 #[.agg #[.int .i64 x.version, .slice Ak x.kinds.length ck, .slice Al x.lives.length cl, .slice Ar x.rules.length cr]] w fun e w' => e = .returned (.string (Sm.print x)) ∧ Below w.heap.size w w' := by
 have cV := fun W (hb : Below w.heap.size w W) => gValid_any x Ak ck Al cl Ar cr W (hD.below hb hg) (Nat.le_trans hg hb.size) (rowsK_at hK hb) (rowsL_at hL hb) (rowsR_at hR hb) hF l1 l2 l3
 have cS := fun (h : Sm.shaped x = true) W (hb : Below w.heap.size w W) => gSource_any x Ak ck Al cl Ar cr W (hD.below hb hg) (Nat.le_trans hg hb.size) (rowsK_at hK hb) (rowsL_at hL hb) (rowsR_at hR hb) (Sm.shaped_small h)
 obtain ⟨z, hz⟩ : ∃ z, z = Sm.print x := ⟨_, rfl⟩
 rw [← hz]
 have hz0 : Sm.validE x = 0 → z = Sm.source x := fun h => by rw [hz]; unfold Sm.print; rw [if_pos h]
 have hz1 : ¬ Sm.validE x = 0 → z = ⟨#[]⟩ := fun h => by rw [hz]; unfold Sm.print; rw [if_neg h]
 have hsh : Sm.validE x = 0 → Sm.shaped x = true := fun h => (Sm.valid_shaped h).1
 have hsp : Sm.shaped x = true → Sm.sourceG x = Sm.source x := Sm.source_put
 obtain ⟨v, hv⟩ : ∃ v, v = Sm.validE x := ⟨_, rfl⟩
 rw [← hv] at hz0 hz1 hsh
 simp only [← hv] at cV
 have g := box_new' w x Ak ck Al cl Ar cr
 obtain ⟨version, kinds, lives, rules⟩ := x
 dsimp only at cV cS g ⊢
 obtain ⟨NK, hNK⟩ : ∃ n, n = kinds.length := ⟨_, rfl⟩
 obtain ⟨NL, hNL⟩ : ∃ n, n = lives.length := ⟨_, rfl⟩
 obtain ⟨NR, hNR⟩ : ∃ n, n = rules.length := ⟨_, rfl⟩
 rw [← hNK, ← hNL, ← hNR] at g ⊢
 simp only [← hNK, ← hNL, ← hNR] at cV cS
 have CV := Lib.hid cV
 have CS := Lib.hid cS
 have HZ := Lib.hid (And.intro hz0 (And.intro hz1 (And.intro hsh hsp)))
 have HG := Lib.hid g
 clear hD hg hK hL hR hF l1 l2 l3 cV cS hz hz0 hz1 hsh hsp hv hNK hNL hNR g
 go_enter Tryz.func14, Tryz.ntmps14
 go_wp2_with fail
 refine (CV.out _ HG.out.2).mono ?_
 rintro e w2 ⟨rfl, hb⟩
 have k := HG.out.1.below hb HG.out.1.lt
 have c0 := k.cell 0 _ rfl
 have c1 := k.cell 1 _ rfl
 have c2 := k.cell 2 _ rfl
 have c3 := k.cell 3 _ rfl
 have HB := Lib.hid (HG.out.2.trans (hb.mono HG.out.2.size))
 clear k hb HG CV
 by_cases h0 : v = 0
 ·have cS := CS.out (HZ.out.2.2.1 h0) w2 HB.out
  rw [HZ.out.2.2.2 (HZ.out.2.2.1 h0), ← HZ.out.1 h0] at cS
  have CC := Lib.hid cS
  clear cS CS
  subst h0
  go_wp2_with fail
  refine CC.out.mono ?_
  rintro e w3 ⟨rfl, hb⟩
  have HB3 := Lib.hid (HB.out.trans (hb.mono HB.out.size))
  clear hb CC c0 c1 c2 c3
  go_wp2_with fail
  go_ret
  exact ⟨rfl, HB3.out⟩
 ·obtain rfl := HZ.out.2.1 h0
  go_wp2_with fail
  go_ret
  exact ⟨rfl, HB.out⟩
/-- Parse of the program answers what the document asks. -/
theorem gParse_all (s : ByteArray) (W : World) (hD : SDoor W) (hg : doorB ≤ W.heap.size) : Calls Tryz.prog 26 #[.string s] W (PrA (Sm.parseR s) W) := gParse_any gValid_any s W hD hg
end Go.Proofs.YtkgddcemocfgfaaGreatDoor
end

section
/- The contract of the reference's Same. -/



namespace Go.Proofs.YtkgddcemocfgfaaGreatDoor
open Go.RowKit
set_option linter.unusedVariables false

set_option maxHeartbeats 1000000 in
theorem same_any (A A' : Option Addr) (c c' : Nat) (l l' : List UInt8) (w : World) (hr : RdB w w.heap.size A l) (hr' : RdB w w.heap.size A' l') (hm : l.length ≤ maxLen) (hm' : l'.length ≤ maxLen) :
  Calls Tryz.prog 16 #[.slice A l.length c, .slice A' l'.length c'] w (Tells (decide (l = l')) w) := by
 unfold maxLen at hm hm'
 by_cases hl : l.length = l'.length
 ·have hne : ((l.length : Int) != (l'.length : Int)) = false := by rw [hl]; simp
  have Hl := Lib.hid hl
  have Hr := Lib.hid hr
  have Hr' := Lib.hid hr'
  clear hl hr hr'
  go_enter Tryz.func16, Tryz.ntmps16
  go_wp2_with fail
  go_loopw [5] (fun i wr => ∃ k : Nat, k ≤ l.length ∧ i = .int .i64 k ∧ l.take k = l'.take k ∧ Below w.heap.size w wr) (fun i _ => l.length - (intOf i).toNat)
  case atStart => exact ⟨0, Nat.zero_le _, rfl, by simp, Below.refl _ _⟩
  case round =>
   obtain ⟨k, hk, rfl, ht, hbel⟩ := hrel
   have Ht := Lib.hid ht
   clear ht
   by_cases hlt : k < l.length
   ·have hlt' : k < l'.length := by have := Hl.out; omega
    obtain ⟨b, off, rfl, hb, hcell⟩ := Hr.out (by simp; omega)
    obtain ⟨b', off', rfl, hb', hcell'⟩ := Hr'.out (by simp; omega)
    have hc1 : wr.cell? ⟨b, off + k, none⟩ = some (.int .u8 ((l[k]).toNat : Int)) := (hbel.cell hb).trans (hcell k (bv l[k]) (by simp [hlt]))
    have hc2 : wr.cell? ⟨b', off' + k, none⟩ = some (.int .u8 ((l'[k]).toNat : Int)) := (hbel.cell hb').trans (hcell' k (bv l'[k]) (by simp [hlt']))
    obtain ⟨x, hx⟩ : ∃ x, x = l[k] := ⟨_, rfl⟩
    obtain ⟨y, hy⟩ : ∃ y, y = l'[k] := ⟨_, rfl⟩
    rw [← hx] at hc1
    rw [← hy] at hc2
    have i0 : (0 : Int) ≤ k := by omega
    have i1 : (k : Int) < l.length := by omega
    have i2 : (k : Int) < l'.length := by omega
    have Hx := Lib.hid hx
    have Hy := Lib.hid hy
    clear hcell hcell' hx hy
    by_cases hxy : x = y
    ·have hn : ((x.toNat : Int) != (y.toNat : Int)) = false := by rw [hxy]; simp
     have Hxy := Lib.hid hxy
     clear hxy
     go_wp2_with fail
     go_quiet (fail)
     go_wp2_with fail
     go_roundw
     case rel => exact ⟨k + 1, by omega, by go_num, by rw [List.take_succ_eq_append_getElem hlt, List.take_succ_eq_append_getElem hlt', Ht.out, ← Hx.out, ← Hy.out, Hxy.out], below_drewN hbel _⟩
     case measure => simp [intOf]; omega
    ·have hn : ((x.toNat : Int) != (y.toNat : Int)) = true := by
      simp
      intro h
      exact hxy (UInt8.toNat_inj.1 (by omega))
     have hd : decide (l = l') = false := by
      simp
      intro h
      apply hxy
      rw [Hx.out, Hy.out]
      subst h
      rfl
     have Hd := Lib.hid hd
     clear hxy hd
     go_wp2_with fail
     go_quiet (fail)
     go_wp2_with fail
     go_ret
     exact ⟨by first | (rw [Hd.out]; done) | (rw [Hd.out]; rfl), below_drewN hbel _⟩
   ·obtain rfl : k = l.length := by omega
    have hd : decide (l = l') = true := by
     have := Ht.out
     rw [List.take_length, Hl.out, List.take_length] at this
     simp [this]
    have Hd := Lib.hid hd
    clear hd
    go_wp2_with fail
    go_ret
    exact ⟨by first | (rw [Hd.out]; done) | (rw [Hd.out]; rfl), hbel⟩
 ·have hne : ((l.length : Int) != (l'.length : Int)) = true := by simp; omega
  have hd : decide (l = l') = false := by
   simp
   intro h
   exact hl (by rw [h])
  have Hd := Lib.hid hd
  clear hd hl
  go_enter Tryz.func16, Tryz.ntmps16
  go_wp2_with fail
  go_ret
  exact ⟨by first | (rw [Hd.out]; done) | (rw [Hd.out]; rfl), Below.refl _ _⟩

end Go.Proofs.YtkgddcemocfgfaaGreatDoor
end

section
/- The reference: Same. -/



namespace Go.Proofs.YtkgddcemocfgfaaGreatDoor
open Go.RowKit
set_option linter.unusedVariables false
set_option linter.unusedSimpArgs false
set_option maxRecDepth 100000

/-- A schema as an argument, its rows ready. -/
def ScIn (W : World) (x : Sm.Sc) (c : List Value) : Prop := ∃ Ak ck Al cl Ar cr, c = [.int .i64 x.version, .slice Ak x.kinds.length ck, .slice Al x.lives.length cl, .slice Ar x.rules.length cr] ∧ Rows KdC W W.heap.size Ak x.kinds ∧ Rows LfC W W.heap.size Al x.lives ∧ Rows RuC W W.heap.size Ar x.rules
theorem ScIn.below {W w : World} {x : Sm.Sc} {c : List Value} (h : ScIn W x c) (hb : Below W.heap.size W w) : ScIn w x c := by
 obtain ⟨Ak, ck, Al, cl, Ar, cr, h1, h2, h3, h4⟩ := h
 exact ⟨Ak, ck, Al, cl, Ar, cr, h1, rowsK_at h2 hb, rowsL_at h3 hb, rowsR_at h4 hb⟩
theorem smEncodeV_any (x : Sm.Sc) (c : List Value) (w : World) (h : ScIn w x c) (hS : Sm.LaxS x) : Calls Tryz.prog 18 #[.agg c.toArray] w (Makes (Sm.encSc x) w) := by
 obtain ⟨Ak, ck, Al, cl, Ar, cr, rfl, h2, h3, h4⟩ := h
 exact smEncode_any x Ak ck Al cl Ar cr w h2 h3 h4 hS
theorem ScIn.four {W : World} {x : Sm.Sc} {c : List Value} (h : ScIn W x c) : ∃ a b d e, c = [a, b, d, e] := by
 obtain ⟨Ak, ck, Al, cl, Ar, cr, rfl, -⟩ := h
 exact ⟨_, _, _, _, rfl⟩
theorem run_load_sc (w : World) (b : Nat) (a1 a2 a3 a4 : Value) (h : Blk w b [a1, a2, a3, a4] 27) : (Instr.loadAt 27 (.pointer (some ⟨b, 0, none⟩))).run Tryz.prog w = .ok (.agg #[a1, a2, a3, a4]) w := by
 have c0 := h.cell 0 _ rfl
 have c1 := h.cell 1 _ rfl
 have c2 := h.cell 2 _ rfl
 have c3 := h.cell 3 _ rfl
 go_simp

set_option maxHeartbeats 4000000 in
theorem smSame_any (x y : Sm.Sc) (c d : List Value) (W : World) (hx : ScIn W x c) (hy : ScIn W y d) (hX : Sm.LaxS x) (hY : Sm.LaxS y) :
  Calls Tryz.prog 28 #[.agg c.toArray, .agg d.toArray] W fun e w' => e = .returned (.bool (decide (Sm.encSc x = Sm.encSc y))) ∧ Below W.heap.size W w' := by
 have cX := fun w (hb : Below W.heap.size W w) => smEncodeV_any x c w (hx.below hb) hX
 have cY := fun w (hb : Below W.heap.size W w) => smEncodeV_any y d w (hy.below hb) hY
 have nX := Sm.encSc_le hX
 have nY := Sm.encSc_le hY
 obtain ⟨X, hX1⟩ : ∃ l, l = Sm.encSc x := ⟨_, rfl⟩
 obtain ⟨Y, hY1⟩ : ∃ l, l = Sm.encSc y := ⟨_, rfl⟩
 rw [← hX1] at nX ⊢
 rw [← hY1] at nY ⊢
 simp only [← hX1] at cX
 simp only [← hY1] at cY
 obtain ⟨a1, a2, a3, a4, rfl⟩ := hx.four
 obtain ⟨b1, b2, b3, b4, rfl⟩ := hy.four
 obtain ⟨z, hz⟩ : ∃ z, z = decide (X = Y) := ⟨_, rfl⟩
 rw [← hz]
 have k1 : Blk ((W.alloc (.cells #[a1, a2, a3, a4] 27)).alloc (.cells #[b1, b2, b3, b4] 27)) W.heap.size [a1, a2, a3, a4] 27 := (Blk.new W [a1, a2, a3, a4] _).alloc _
 have k2 : Blk ((W.alloc (.cells #[a1, a2, a3, a4] 27)).alloc (.cells #[b1, b2, b3, b4] 27)) (W.heap.size + 1) [b1, b2, b3, b4] 27 := by
  have := Blk.new (W.alloc (.cells #[a1, a2, a3, a4] 27)) [b1, b2, b3, b4] 27
  rw [World.size_alloc] at this
  exact this
 have k3 : Below W.heap.size W ((W.alloc (.cells #[a1, a2, a3, a4] 27)).alloc (.cells #[b1, b2, b3, b4] 27)) := ((Below.refl _ _).alloc (Nat.le_refl _) _).alloc (by simp) _
 have HK := Lib.hid (And.intro k1 (And.intro k2 k3))
 have CX := Lib.hid cX
 have CY := Lib.hid cY
 have HZ := Lib.hid hz
 clear hx hy hX hY cX cY hX1 hY1 hz k1 k2 k3
 go_enter Tryz.func28, Tryz.ntmps28
 go_upto_region 1 with fail
 obtain ⟨w0, hw0⟩ : ∃ w, w = (W.alloc (.cells #[a1, a2, a3, a4] 27)).alloc (.cells #[b1, b2, b3, b4] 27) := ⟨_, rfl⟩
 have hk := HK.out
 rw [← hw0] at hk ⊢
 clear hw0 HK
 obtain ⟨xb, hxb⟩ : ∃ n, n = W.heap.size := ⟨_, rfl⟩
 rw [← hxb] at hk
 have hWb := Lib.hid hxb
 rw [← hxb]
 have HK := Lib.hid hk
 clear hk hxb
 refine wp_region_list [5, 6, 7, 8, 9] [.is (.agg #[a1, a2, a3, a4]), .rowB X, .is (.agg #[b1, b2, b3, b4]), .rowB Y, .is (.bool z)] (by kernel_rfl) (by kernel_rfl) ?_ ?_
 ·intro y0 hy0 b w' hb hd hx o ho
  match y0, hy0 with
  | 0, _ =>
   obtain rfl := Option.some.inj ho
   have e : b.tmps.getD 2 undef = .pointer (some ⟨xb, 0, none⟩) := hx 2 rfl
   refine runs_value rfl ?_ ⟨rfl, Below.refl _ _⟩
   rw [show b.eval (.tmp 2) = _ from e]
   exact run_load_sc w' xb _ _ _ _ (HK.out.1.below hb HK.out.1.lt)
  | 1, _ =>
   obtain rfl := Option.some.inj ho
   have e : b.tmps.getD 5 undef = .agg #[a1, a2, a3, a4] := hd 0 (by kernel_rfl) (by decide)
   refine runs_call rfl (fun _ _ => rfl) ?_
   show Calls _ _ #[b.tmps.getD 5 undef] w' _
   rw [e]
   exact (CX.out w' (by rw [← hWb.out]; exact HK.out.2.2.trans (hb.mono (Nat.le_of_lt HK.out.1.lt)))).mono fun e w'' h => by
    obtain ⟨v, h1, h2, h3⟩ := h
    exact (let ⟨A, c, e1, q1, q2, q3⟩ := own_rd (B := 0) h2; ⟨v, h1, ⟨A, c, e1, q1, q2, q3⟩, h3⟩)
  | 2, _ =>
   obtain rfl := Option.some.inj ho
   have e : b.tmps.getD 3 undef = .pointer (some ⟨xb + 1, 0, none⟩) := hx 3 rfl
   refine runs_value rfl ?_ ⟨rfl, Below.refl _ _⟩
   rw [show b.eval (.tmp 3) = _ from e]
   exact run_load_sc w' (xb + 1) _ _ _ _ (HK.out.2.1.below hb HK.out.2.1.lt)
  | 3, _ =>
   obtain rfl := Option.some.inj ho
   have e : b.tmps.getD 7 undef = .agg #[b1, b2, b3, b4] := hd 2 (by kernel_rfl) (by decide)
   refine runs_call rfl (fun _ _ => rfl) ?_
   show Calls _ _ #[b.tmps.getD 7 undef] w' _
   rw [e]
   exact (CY.out w' (by rw [← hWb.out]; exact HK.out.2.2.trans (hb.mono (Nat.le_of_lt HK.out.1.lt)))).mono fun e w'' h => by
    obtain ⟨v, h1, h2, h3⟩ := h
    exact (let ⟨A, c, e1, q1, q2, q3⟩ := own_rd (B := 0) h2; ⟨v, h1, ⟨A, c, e1, q1, q2, q3⟩, h3⟩)
  | 4, _ =>
   obtain rfl := Option.some.inj ho
   obtain ⟨A1, c1, e1', r1, -, -⟩ := hd 1 (by kernel_rfl) (by decide)
   obtain ⟨A2, c2, e2', r2, -, -⟩ := hd 3 (by kernel_rfl) (by decide)
   have e1 : b.tmps.getD 6 undef = .slice A1 X.length c1 := e1'
   have e2 : b.tmps.getD 8 undef = .slice A2 Y.length c2 := e2'
   refine runs_call rfl (fun _ _ => rfl) ?_
   show Calls _ _ #[b.tmps.getD 6 undef, b.tmps.getD 8 undef] w' _
   rw [e1, e2]
   exact (same_any A1 A2 c1 c2 X Y w' r1 r2 (by unfold maxLen; omega) (by unfold maxLen; omega)).mono fun e w'' h => ⟨_, h.1, by rw [HZ.out]; rfl, h.2⟩
  | n + 5, h => exact absurd h (by simp)
 intro vals w' hb hf
 have t4 : vals 4 = .bool z := hf 4 (by decide)
 simp only [puts, List.length_cons, List.length_nil, Nat.zero_add, Nat.reduceAdd, List.drop_succ_cons, List.drop_zero, t4]
 have HB := Lib.hid (HK.out.2.2.trans (hb.mono (Nat.le_of_lt HK.out.1.lt)))
 clear hf t4 hb CX CY HK
 try go_frame
 go_wp2_with fail
 go_ret
 exact ⟨rfl, hWb.out ▸ HB.out⟩
theorem smSelf_any (x : Sm.Sc) (c d : List Value) (W : World) (hx : ScIn W x c) (hy : ScIn W x d) (hX : Sm.LaxS x) :
  Calls Tryz.prog 28 #[.agg c.toArray, .agg d.toArray] W fun e w' => e = .returned (.bool true) ∧ Below W.heap.size W w' :=
 (smSame_any x x c d W hx hy hX hX).mono fun e w' ⟨h1, h2⟩ => ⟨by rw [h1, decide_eq_true rfl], h2⟩
end Go.Proofs.YtkgddcemocfgfaaGreatDoor
end

