import Derived.Test.YtkgddcemocfgfaaGreatDoorJZSmGi

section
/- The program's reader: lists of elements. (gen_glist.py writes this text.) -/

namespace Go.Proofs.YtkgddcemocfgfaaGreatDoor
open Go.RowKit
set_option linter.unusedVariables false
set_option linter.unusedSimpArgs false
set_option maxRecDepth 100000

namespace Sm
section
variable {α : Type} {B : PS → Bool} {V : PS → α × PS}
/-- What a loop reads as long as an element begins: at most n more. -/
def whileB (B : PS → Bool) (V : PS → α × PS) : Nat → List α → PS → List α × PS
 | 0, a, p => (a, p)
 | n + 1, a, p => if B p = true then whileB B V n (a ++ [(V p).1]) (V p).2 else (a, p)
theorem whileB_end (n : Nat) (a : List α) (p : PS) (h : B p = false) : whileB B V n a p = (a, p) := by
 cases n with
 | zero => rfl
 | succ n => unfold whileB; rw [if_neg (by rw [h]; decide)]
theorem whileB_next (n : Nat) (a : List α) (p : PS) (h : B p = true) : whileB B V (n + 1) a p = whileB B V n (a ++ [(V p).1]) (V p).2 := by
 conv => lhs; unfold whileB
 rw [if_pos h]
end
def zeroKd : Kd := ⟨⟨#[]⟩, 0, 0, []⟩
def zeroLf : Lf := ⟨⟨#[]⟩, [], []⟩
def zeroRu : Ru := ⟨⟨#[]⟩, ⟨#[]⟩, ⟨#[]⟩, ⟨#[]⟩, 0⟩
end Sm
def MvS (S : Nat → Prop) (w : World) (m : Int × Int) (c : List Value) : Prop := c = [.int .i64 m.1, .int .i64 m.2]
theorem MvS.keep {S : Nat → Prop} {w w' : World} {k : Int × Int} {c : List Value} (h : MvS S w k c) (_ : KeepS S w w') : MvS S w' k c := h
theorem MvS.mono {S S' : Nat → Prop} {w : World} {k : Int × Int} {c : List Value} (h : MvS S w k c) (_ : ∀ k, S k → S' k) : MvS S' w k c := h
theorem MvS.one {S : Nat → Prop} {w : World} {k : Int × Int} {c : List Value} (h : MvS S w k c) : c.length = 2 ∧ ∀ u ∈ c, u.oneCell' = true := by
 unfold MvS at h
 subst h
 exact ⟨rfl, by intro u hu; simp at hu; rcases hu with rfl | rfl <;> rfl⟩
theorem FdS.one {S : Nat → Prop} {w : World} {k : Sm.Fd} {c : List Value} (h : FdS S w k c) : c.length = 8 ∧ ∀ u ∈ c, u.oneCell' = true := by
 obtain ⟨Aw, cw, Ag, cg, rfl, -⟩ := h
 exact ⟨rfl, by intro u hu; simp at hu; rcases hu with rfl | rfl | rfl | rfl | rfl | rfl | rfl | rfl <;> rfl⟩
def mvZL : List Value := [.int .i64 0, .int .i64 0]
theorem info_mvL : ((Tryz.prog.info? 68).map fun i => (i.zero, i.size, i.bytes)) = some (some (.agg mvZL.toArray), 2, 16) := by kernel_rfl
/-- What the program's lists answer. -/
def LsA {α : Type} (C : (Nat → Prop) → World → α → List Value → Prop) (rb : Nat) (s : ByteArray) (ts : List (Nat × Nat)) (stop : Nat) (L : List α) (p : Sm.PS) (W : World) (e : Ending) (w' : World) : Prop :=
 ∃ A cap, e = .returned (.slice A L.length cap) ∧ RowsS (Fresh W w') (C (Fresh W w')) w' A L ∧ L.length ≤ cap ∧ cap ≤ maxLen ∧ RdAt rb s ts stop p w' ∧ But rb W w'

set_option maxHeartbeats 8000000 in
theorem gListKd_any (rb : Nat) (s : ByteArray) (ts : List (Nat × Nat)) (stop : Nat) (p : Sm.PS) (W : World) (h : RdAt rb s ts stop p W) (hs8 : ts.length ≤ 8192) (G : FuncId) (hcf : ∀ (args : Array Value) (V : World), (callFunc G args).run Tryz.prog V = .ok (.enter G args) V) (Bf : Sm.PS → Bool) (Vf : Sm.PS → Sm.Kd × Sm.PS) (zf : Sm.Kd)
  (hG : ∀ q V, RdAt rb s ts stop q V → But rb W V → Calls Tryz.prog G #[.pointer (some ⟨rb, 0, none⟩)] V (ElA KdS rb s ts stop (Bf q) (if Bf q = true then (Vf q).1 else zf) (if Bf q = true then (Vf q).2 else q) V))
  (hon : ∀ q, q.i ≤ ts.length → Bf q = true → q.i + 1 ≤ (Vf q).2.i ∧ (Vf q).2.i ≤ ts.length) :
  Calls Tryz.prog 113 #[.func (.func G) #[.pointer (some ⟨rb, 0, none⟩)] #[]] W (LsA KdS rb s ts stop (Sm.whileB Bf Vf (ts.length + 1) [] p).1 (Sm.whileB Bf Vf (ts.length + 1) [] p).2 W) := by
 obtain ⟨R, hR⟩ : ∃ R, R = Sm.whileB Bf Vf (ts.length + 1) [] p := ⟨_, rfl⟩
 rw [← hR]
 have hr0 := h.blk.lt
 obtain ⟨B, hB⟩ : ∃ B, B = W.heap.size := ⟨_, rfl⟩
 obtain ⟨i0, hi0, hz0, hz1, hz2⟩ := info_parts8 info_kd
 have HI := Lib.hid (And.intro hi0 (And.intro hz0 (And.intro hz1 hz2)))
 have HG := Lib.hid hG
 have HCF := Lib.hid hcf
 have HON := Lib.hid hon
 have H0 := Lib.hid (And.intro h (And.intro hR (And.intro (show rb < B by omega) (And.intro hB hs8))))
 clear h hR hr0 hB hi0 hz0 hz1 hz2 hG hcf hon hs8
 go_enter Tryz.func113, Tryz.ntmps113
 go_wp2_with fail
 go_loopg [3] (ts.length + 1) (fun m z wr => ∃ (v : Value) (q : Sm.PS) (L : List Sm.Kd) (F : Nat), z = v ∧ RdAt rb s ts stop q wr ∧ But rb W wr ∧ GRow KdS 63 4 B v L wr ∧ B ≤ wr.heap.size ∧ R = Sm.whileB Bf Vf F L q ∧ ts.length < q.i + F ∧ L.length ≤ q.i ∧ ts.length + 1 - q.i ≤ m)
 case atStart => exact ⟨_, p, [], ts.length + 1, rfl, H0.out.1, But.refl _ _, GRow.nil _ _ _ _ _, by rw [H0.out.2.2.2.1]; exact Nat.le_refl _, H0.out.2.1, by omega, Nat.zero_le _, by omega⟩
 case round =>
  obtain ⟨v, q, L, F, hzv, hpa, hbu, hrow, hBw, hR, hF, hL, hm⟩ := hrel
  replace hzv := hzv.symm
  subst hzv
  obtain ⟨wo, rfl⟩ : ∃ wo : World, wo = wr := ⟨_, rfl⟩
  have hqi := hpa.le
  have HK := Lib.hid (And.intro hpa (And.intro hbu (And.intro hrow (And.intro hBw (And.intro hR (And.intro hF (And.intro hL (And.intro hm hqi))))))))
  have cg := HG.out q wo hpa hbu
  have hc0 := HCF.out #[.pointer (some ⟨rb, 0, none⟩)] wo
  obtain ⟨bb, hbb⟩ : ∃ b, b = Bf q := ⟨_, rfl⟩
  obtain ⟨ev, hev⟩ : ∃ f, f = (if Bf q = true then (Vf q).1 else zf) := ⟨_, rfl⟩
  obtain ⟨ep, hep⟩ : ∃ f, f = (if Bf q = true then (Vf q).2 else q) := ⟨_, rfl⟩
  rw [← hev, ← hep, ← hbb] at cg
  have CG := Lib.hid cg
  have HB := Lib.hid (And.intro hbb (And.intro hev hep))
  clear cg hbb hev hep hpa hbu hrow hBw hR hF hL hm hqi
  go_wp2_with fail
  refine CG.out.mono ?_
  rintro e w1 ⟨c, rfl, HC1, ha, hb⟩
  have HONE := KdS.one HC1
  have hcc := HC1
  have H1 := Lib.hid (And.intro ha hb)
  clear ha hb hc0 CG
  obtain ⟨Aw, cw, rfl, -⟩ := hcc
  obtain ⟨en, elo, ehi, efs⟩ := ev
  dsimp only at HC1 HONE ⊢
  obtain ⟨nw, hnw⟩ : ∃ n, n = efs.length := ⟨_, rfl⟩
  rw [← hnw] at HC1 HONE ⊢
  have HNW := Lib.hid hnw
  clear hnw
  have hw1 := H1.out.2.size
  obtain ⟨w2, hw2⟩ : ∃ w, w = w1.alloc (.cells #[.string en, .int .i64 elo, .int .i64 ehi, .slice Aw nw cw] 63) := ⟨_, rfl⟩
  have hsz2 : w2.heap.size = w1.heap.size + 1 := by rw [hw2, World.size_alloc]
  have hbel2 : Below w1.heap.size w1 w2 := by rw [hw2]; exact (Below.refl _ _).alloc (Nat.le_refl _) _
  have hbut2 : But rb wo w2 := H1.out.2.trans (But.of hbel2)
  have hC2 : KdS (Fresh wo w2) w2 _ _ := (HC1.keep (w' := w2) fun a ha => hbel2.cell ha.2).mono (S' := Fresh wo w2) fun k hk => ⟨hk.1, by have := hk.2; omega⟩
  have hpa2 := H1.out.1.below hbel2
  have hblk : True := trivial
  have H2 := Lib.hid (And.intro hpa2 (And.intro hbut2 (And.intro hblk (And.intro hC2 hsz2))))
  have HONE2 := Lib.hid HONE
  try clear hcc
  clear HC1 HONE hblk hsz2 hbel2 hbut2 hC2 hpa2 hw1
  cases bb with
  | true =>
   have hR : R = Sm.whileB Bf Vf F L q := HK.out.2.2.2.2.1
   have hbq := HB.out.1.symm
   obtain ⟨F', rfl⟩ : ∃ F', F = F' + 1 := ⟨F - 1, by have := HK.out.2.2.2.2.2.1; have := HK.out.2.2.2.2.2.2.2.2; omega⟩
   rw [Sm.whileB_next _ _ _ hbq] at hR
   have hev : _ = (Vf q).1 := HB.out.2.1.trans (if_pos hbq)
   have hep : ep = (Vf q).2 := HB.out.2.2.trans (if_pos hbq)
   rw [← hev, ← hep] at hR
   have hon := HON.out q HK.out.2.2.2.2.2.2.2.2 hbq
   rw [← hep] at hon
   have HX := Lib.hid (And.intro hR (And.intro hon (And.intro (show L.length + 1 ≤ ep.i by have := HK.out.2.2.2.2.2.2.1; omega) (show L.length ≤ 8192 by have := HK.out.2.2.2.2.2.2.1; have := HK.out.2.2.2.2.2.2.2.2; have := H0.out.2.2.2.2; omega))))
   clear hR hbq hev hep hon
   obtain ⟨w3, hw3⟩ : ∃ w, w = w2.alloc (.cells #[.string en, .int .i64 elo, .int .i64 ehi, .slice Aw nw cw] 63) := ⟨_, rfl⟩
   have hbel3 : Below w2.heap.size w2 w3 := by rw [hw3]; exact (Below.refl _ _).alloc (Nat.le_refl _) _
   have hnew3 : Blk w3 w2.heap.size [.string en, .int .i64 elo, .int .i64 ehi, .slice Aw nw cw] 63 := by rw [hw3]; exact Blk.new w2 [.string en, .int .i64 elo, .int .i64 ehi, .slice Aw nw cw] _
   have hpa3 := H2.out.1.below hbel3
   have hbut3 : But rb wo w3 := H2.out.2.1.trans (But.of hbel3)
   have hC3 : KdS (Fresh wo w3) w3 _ _ := (H2.out.2.2.2.1.keep (w' := w3) fun a ha => hbel3.cell ha.2).mono (S' := Fresh wo w3) fun k hk => ⟨hk.1, Nat.lt_of_lt_of_le hk.2 hbel3.size⟩
   obtain ⟨cs, hcs1, hcs2, hown⟩ := HK.out.2.2.1.but (fun _ _ _ _ _ h k => h.keep k) (fun _ _ _ _ _ h k => h.mono k) hbut3 H0.out.2.2.1
   have hvl : ∀ k, v.ownBlock = some k → k < wo.heap.size := fun k hk => by
    obtain ⟨cs0, -, -, hown0⟩ := HK.out.2.2.1
    exact (hown0.lt k hk).2
   have hB3 : B ≤ w3.heap.size := Nat.le_trans HK.out.2.2.2.1 hbut3.size
   rw [hw3, hw2] at hpa3 hbut3 hC3 hown hB3 hcs2
   rw [hw3] at hnew3
   have h22 : w2.heap.size = w1.heap.size + 1 := H2.out.2.2.2.2
   rw [h22, hw2] at hnew3
   have H3 := Lib.hid (And.intro hpa3 (And.intro hbut3 (And.intro hC3 (And.intro hown (And.intro hB3 (And.intro hcs1 (And.intro hcs2 (And.intro hvl hnew3))))))))
   clear hbel3 hpa3 hbut3 hC3 hown hB3 hcs1 hcs2 hvl hnew3 h22 hw3 hw2 H2 H1
   go_wp2_with (at_builtin; refine wpList_append_own_at _ rfl (.tmp 14) (.tmp 16) 23 rfl B 63 i0 (.agg kdZ.toArray) 4 56 Tryz.underlying23 HI.out.1 HI.out.2.1 HI.out.2.2.1 HI.out.2.2.2 rfl (by decide) v L.length cs.flatten rfl H3.out.2.2.2.1 ⟨w1.heap.size + 1, 0, none⟩ 1 1 [.string en, .int .i64 elo, .int .i64 ehi, .slice Aw nw cw] rfl rfl (fun j u hj => by
     have := H3.out.2.2.2.2.2.2.2.2.cell j u hj
     have e : (⟨w1.heap.size + 1, 0, none⟩ : Addr).add j = ⟨w1.heap.size + 1, j, none⟩ := by simp [Addr.add]; omega
     rw [e]
     exact this) HONE2.out.2 (by have := HX.out.2.2.2; unfold maxLen; omega) (by have := HX.out.2.2.2; omega) H3.out.2.2.2.2.1 ?_; intro v' w6 hown' hgrow _ hat; have HA := Lib.hid (And.intro hown' (And.intro hgrow hat)); clear hown' hgrow hat)
   have hnewrow := GRow.snoc (C := KdS) (t := 63) (n := 4) (base := B) (fun _ _ _ _ _ h k => h.keep k) (fun _ _ _ _ _ h k => h.mono k) HA.out.2.1 HA.out.2.2 H3.out.2.2.1 HK.out.2.2.2.1 H3.out.2.2.2.2.2.2.2.1 cs H3.out.2.2.2.2.2.1 H3.out.2.2.2.2.2.2.1 HA.out.1
   have hvo : ∀ k, v.ownBlock = some k → B ≤ k := fun k hk => (H3.out.2.2.2.1.lt k hk).1
   go_roundg (ts.length + 1 - ep.i)
   case measure => have := HX.out.2.1; have := HK.out.2.2.2.2.2.2.2.1; omega
   case rel =>
    exact ⟨_, ep, _, F', rfl, H3.out.1.grown HA.out.2.1 (fun k hk => by have := hvo k hk; have := H0.out.2.2.1; omega), (HK.out.2.1.trans H3.out.2.1).grown HA.out.2.1 (fun k hk => by have := hvo k hk; have := H0.out.2.2.2.1; omega), hnewrow, Nat.le_trans H3.out.2.2.2.2.1 HA.out.2.1.size, HX.out.1, by have := HX.out.2.1; have := HK.out.2.2.2.2.2.1; omega, by rw [List.length_append]; exact HX.out.2.2.1, Nat.le_refl _⟩
  | false =>
   have hbq := HB.out.1.symm
   have hep : ep = q := HB.out.2.2.trans (if_neg (by rw [hbq]; decide))
   have hRR : R = (L, q) := by rw [HK.out.2.2.2.2.1, Sm.whileB_end _ _ _ hbq]
   have hrow2 := HK.out.2.2.1.but (fun _ _ _ _ _ h k => h.keep k) (fun _ _ _ _ _ h k => h.mono k) H2.out.2.1 H0.out.2.2.1
   have hbW := HK.out.2.1.trans H2.out.2.1
   have hpaq := H2.out.1
   rw [hep] at hpaq
   rw [hw2] at hrow2 hbW hpaq
   have HF := Lib.hid (And.intro hRR (And.intro hrow2 (And.intro hbW hpaq)))
   clear hbq hep hRR hrow2 hbW hpaq hw2 H2 H1
   go_wp2_with fail
   go_ret
   obtain ⟨A, cap, e1, e2, e3, e4⟩ := HF.out.2.1.rows (fun _ _ _ _ _ h k => h.mono k)
   refine ⟨A, cap, ?_, ?_, ?_, e4, by rw [HF.out.1]; exact HF.out.2.2.2, HF.out.2.2.1⟩
   ·rw [HF.out.1, ← e1]; rfl
   ·rw [HF.out.1]
    exact e2.mono (fun k hk => ⟨by have := hk.1; have := H0.out.2.2.2.1; omega, hk.2⟩) fun _ _ h => h.mono fun k hk => ⟨by have := hk.1; have := H0.out.2.2.2.1; omega, hk.2⟩
   ·rw [HF.out.1]; exact e3

set_option maxHeartbeats 8000000 in
theorem gListLf_any (rb : Nat) (s : ByteArray) (ts : List (Nat × Nat)) (stop : Nat) (p : Sm.PS) (W : World) (h : RdAt rb s ts stop p W) (hs8 : ts.length ≤ 8192) (G : FuncId) (hcf : ∀ (args : Array Value) (V : World), (callFunc G args).run Tryz.prog V = .ok (.enter G args) V) (Bf : Sm.PS → Bool) (Vf : Sm.PS → Sm.Lf × Sm.PS) (zf : Sm.Lf)
  (hG : ∀ q V, RdAt rb s ts stop q V → But rb W V → Calls Tryz.prog G #[.pointer (some ⟨rb, 0, none⟩)] V (ElA LfS rb s ts stop (Bf q) (if Bf q = true then (Vf q).1 else zf) (if Bf q = true then (Vf q).2 else q) V))
  (hon : ∀ q, q.i ≤ ts.length → Bf q = true → q.i + 1 ≤ (Vf q).2.i ∧ (Vf q).2.i ≤ ts.length) :
  Calls Tryz.prog 115 #[.func (.func G) #[.pointer (some ⟨rb, 0, none⟩)] #[]] W (LsA LfS rb s ts stop (Sm.whileB Bf Vf (ts.length + 1) [] p).1 (Sm.whileB Bf Vf (ts.length + 1) [] p).2 W) := by
 obtain ⟨R, hR⟩ : ∃ R, R = Sm.whileB Bf Vf (ts.length + 1) [] p := ⟨_, rfl⟩
 rw [← hR]
 have hr0 := h.blk.lt
 obtain ⟨B, hB⟩ : ∃ B, B = W.heap.size := ⟨_, rfl⟩
 obtain ⟨i0, hi0, hz0, hz1, hz2⟩ := info_parts8 info_lf
 have HI := Lib.hid (And.intro hi0 (And.intro hz0 (And.intro hz1 hz2)))
 have HG := Lib.hid hG
 have HCF := Lib.hid hcf
 have HON := Lib.hid hon
 have H0 := Lib.hid (And.intro h (And.intro hR (And.intro (show rb < B by omega) (And.intro hB hs8))))
 clear h hR hr0 hB hi0 hz0 hz1 hz2 hG hcf hon hs8
 go_enter Tryz.func115, Tryz.ntmps115
 go_wp2_with fail
 go_loopg [3] (ts.length + 1) (fun m z wr => ∃ (v : Value) (q : Sm.PS) (L : List Sm.Lf) (F : Nat), z = v ∧ RdAt rb s ts stop q wr ∧ But rb W wr ∧ GRow LfS 67 3 B v L wr ∧ B ≤ wr.heap.size ∧ R = Sm.whileB Bf Vf F L q ∧ ts.length < q.i + F ∧ L.length ≤ q.i ∧ ts.length + 1 - q.i ≤ m)
 case atStart => exact ⟨_, p, [], ts.length + 1, rfl, H0.out.1, But.refl _ _, GRow.nil _ _ _ _ _, by rw [H0.out.2.2.2.1]; exact Nat.le_refl _, H0.out.2.1, by omega, Nat.zero_le _, by omega⟩
 case round =>
  obtain ⟨v, q, L, F, hzv, hpa, hbu, hrow, hBw, hR, hF, hL, hm⟩ := hrel
  replace hzv := hzv.symm
  subst hzv
  obtain ⟨wo, rfl⟩ : ∃ wo : World, wo = wr := ⟨_, rfl⟩
  have hqi := hpa.le
  have HK := Lib.hid (And.intro hpa (And.intro hbu (And.intro hrow (And.intro hBw (And.intro hR (And.intro hF (And.intro hL (And.intro hm hqi))))))))
  have cg := HG.out q wo hpa hbu
  have hc0 := HCF.out #[.pointer (some ⟨rb, 0, none⟩)] wo
  obtain ⟨bb, hbb⟩ : ∃ b, b = Bf q := ⟨_, rfl⟩
  obtain ⟨ev, hev⟩ : ∃ f, f = (if Bf q = true then (Vf q).1 else zf) := ⟨_, rfl⟩
  obtain ⟨ep, hep⟩ : ∃ f, f = (if Bf q = true then (Vf q).2 else q) := ⟨_, rfl⟩
  rw [← hev, ← hep, ← hbb] at cg
  have CG := Lib.hid cg
  have HB := Lib.hid (And.intro hbb (And.intro hev hep))
  clear cg hbb hev hep hpa hbu hrow hBw hR hF hL hm hqi
  go_wp2_with fail
  refine CG.out.mono ?_
  rintro e w1 ⟨c, rfl, HC1, ha, hb⟩
  have HONE := LfS.one HC1
  have hcc := HC1
  have H1 := Lib.hid (And.intro ha hb)
  clear ha hb hc0 CG
  obtain ⟨Aw, cw, Am, cm, rfl, -⟩ := hcc
  obtain ⟨en, est, emv⟩ := ev
  dsimp only at HC1 HONE ⊢
  obtain ⟨nw, hnw⟩ : ∃ n, n = est.length := ⟨_, rfl⟩
  obtain ⟨nm, hnm⟩ : ∃ n, n = emv.length := ⟨_, rfl⟩
  rw [← hnw, ← hnm] at HC1 HONE ⊢
  have HNW := Lib.hid (And.intro hnw hnm)
  clear hnw hnm
  have hw1 := H1.out.2.size
  obtain ⟨w2, hw2⟩ : ∃ w, w = w1.alloc (.cells #[.string en, .slice Aw nw cw, .slice Am nm cm] 67) := ⟨_, rfl⟩
  have hsz2 : w2.heap.size = w1.heap.size + 1 := by rw [hw2, World.size_alloc]
  have hbel2 : Below w1.heap.size w1 w2 := by rw [hw2]; exact (Below.refl _ _).alloc (Nat.le_refl _) _
  have hbut2 : But rb wo w2 := H1.out.2.trans (But.of hbel2)
  have hC2 : LfS (Fresh wo w2) w2 _ _ := (HC1.keep (w' := w2) fun a ha => hbel2.cell ha.2).mono (S' := Fresh wo w2) fun k hk => ⟨hk.1, by have := hk.2; omega⟩
  have hpa2 := H1.out.1.below hbel2
  have hblk : True := trivial
  have H2 := Lib.hid (And.intro hpa2 (And.intro hbut2 (And.intro hblk (And.intro hC2 hsz2))))
  have HONE2 := Lib.hid HONE
  try clear hcc
  clear HC1 HONE hblk hsz2 hbel2 hbut2 hC2 hpa2 hw1
  cases bb with
  | true =>
   have hR : R = Sm.whileB Bf Vf F L q := HK.out.2.2.2.2.1
   have hbq := HB.out.1.symm
   obtain ⟨F', rfl⟩ : ∃ F', F = F' + 1 := ⟨F - 1, by have := HK.out.2.2.2.2.2.1; have := HK.out.2.2.2.2.2.2.2.2; omega⟩
   rw [Sm.whileB_next _ _ _ hbq] at hR
   have hev : _ = (Vf q).1 := HB.out.2.1.trans (if_pos hbq)
   have hep : ep = (Vf q).2 := HB.out.2.2.trans (if_pos hbq)
   rw [← hev, ← hep] at hR
   have hon := HON.out q HK.out.2.2.2.2.2.2.2.2 hbq
   rw [← hep] at hon
   have HX := Lib.hid (And.intro hR (And.intro hon (And.intro (show L.length + 1 ≤ ep.i by have := HK.out.2.2.2.2.2.2.1; omega) (show L.length ≤ 8192 by have := HK.out.2.2.2.2.2.2.1; have := HK.out.2.2.2.2.2.2.2.2; have := H0.out.2.2.2.2; omega))))
   clear hR hbq hev hep hon
   obtain ⟨w3, hw3⟩ : ∃ w, w = w2.alloc (.cells #[.string en, .slice Aw nw cw, .slice Am nm cm] 67) := ⟨_, rfl⟩
   have hbel3 : Below w2.heap.size w2 w3 := by rw [hw3]; exact (Below.refl _ _).alloc (Nat.le_refl _) _
   have hnew3 : Blk w3 w2.heap.size [.string en, .slice Aw nw cw, .slice Am nm cm] 67 := by rw [hw3]; exact Blk.new w2 [.string en, .slice Aw nw cw, .slice Am nm cm] _
   have hpa3 := H2.out.1.below hbel3
   have hbut3 : But rb wo w3 := H2.out.2.1.trans (But.of hbel3)
   have hC3 : LfS (Fresh wo w3) w3 _ _ := (H2.out.2.2.2.1.keep (w' := w3) fun a ha => hbel3.cell ha.2).mono (S' := Fresh wo w3) fun k hk => ⟨hk.1, Nat.lt_of_lt_of_le hk.2 hbel3.size⟩
   obtain ⟨cs, hcs1, hcs2, hown⟩ := HK.out.2.2.1.but (fun _ _ _ _ _ h k => h.keep k) (fun _ _ _ _ _ h k => h.mono k) hbut3 H0.out.2.2.1
   have hvl : ∀ k, v.ownBlock = some k → k < wo.heap.size := fun k hk => by
    obtain ⟨cs0, -, -, hown0⟩ := HK.out.2.2.1
    exact (hown0.lt k hk).2
   have hB3 : B ≤ w3.heap.size := Nat.le_trans HK.out.2.2.2.1 hbut3.size
   rw [hw3, hw2] at hpa3 hbut3 hC3 hown hB3 hcs2
   rw [hw3] at hnew3
   have h22 : w2.heap.size = w1.heap.size + 1 := H2.out.2.2.2.2
   rw [h22, hw2] at hnew3
   have H3 := Lib.hid (And.intro hpa3 (And.intro hbut3 (And.intro hC3 (And.intro hown (And.intro hB3 (And.intro hcs1 (And.intro hcs2 (And.intro hvl hnew3))))))))
   clear hbel3 hpa3 hbut3 hC3 hown hB3 hcs1 hcs2 hvl hnew3 h22 hw3 hw2 H2 H1
   go_wp2_with (at_builtin; refine wpList_append_own_at _ rfl (.tmp 14) (.tmp 16) 24 rfl B 67 i0 (.agg lfZ.toArray) 3 64 Tryz.underlying24 HI.out.1 HI.out.2.1 HI.out.2.2.1 HI.out.2.2.2 rfl (by decide) v L.length cs.flatten rfl H3.out.2.2.2.1 ⟨w1.heap.size + 1, 0, none⟩ 1 1 [.string en, .slice Aw nw cw, .slice Am nm cm] rfl rfl (fun j u hj => by
     have := H3.out.2.2.2.2.2.2.2.2.cell j u hj
     have e : (⟨w1.heap.size + 1, 0, none⟩ : Addr).add j = ⟨w1.heap.size + 1, j, none⟩ := by simp [Addr.add]; omega
     rw [e]
     exact this) HONE2.out.2 (by have := HX.out.2.2.2; unfold maxLen; omega) (by have := HX.out.2.2.2; omega) H3.out.2.2.2.2.1 ?_; intro v' w6 hown' hgrow _ hat; have HA := Lib.hid (And.intro hown' (And.intro hgrow hat)); clear hown' hgrow hat)
   have hnewrow := GRow.snoc (C := LfS) (t := 67) (n := 3) (base := B) (fun _ _ _ _ _ h k => h.keep k) (fun _ _ _ _ _ h k => h.mono k) HA.out.2.1 HA.out.2.2 H3.out.2.2.1 HK.out.2.2.2.1 H3.out.2.2.2.2.2.2.2.1 cs H3.out.2.2.2.2.2.1 H3.out.2.2.2.2.2.2.1 HA.out.1
   have hvo : ∀ k, v.ownBlock = some k → B ≤ k := fun k hk => (H3.out.2.2.2.1.lt k hk).1
   go_roundg (ts.length + 1 - ep.i)
   case measure => have := HX.out.2.1; have := HK.out.2.2.2.2.2.2.2.1; omega
   case rel =>
    exact ⟨_, ep, _, F', rfl, H3.out.1.grown HA.out.2.1 (fun k hk => by have := hvo k hk; have := H0.out.2.2.1; omega), (HK.out.2.1.trans H3.out.2.1).grown HA.out.2.1 (fun k hk => by have := hvo k hk; have := H0.out.2.2.2.1; omega), hnewrow, Nat.le_trans H3.out.2.2.2.2.1 HA.out.2.1.size, HX.out.1, by have := HX.out.2.1; have := HK.out.2.2.2.2.2.1; omega, by rw [List.length_append]; exact HX.out.2.2.1, Nat.le_refl _⟩
  | false =>
   have hbq := HB.out.1.symm
   have hep : ep = q := HB.out.2.2.trans (if_neg (by rw [hbq]; decide))
   have hRR : R = (L, q) := by rw [HK.out.2.2.2.2.1, Sm.whileB_end _ _ _ hbq]
   have hrow2 := HK.out.2.2.1.but (fun _ _ _ _ _ h k => h.keep k) (fun _ _ _ _ _ h k => h.mono k) H2.out.2.1 H0.out.2.2.1
   have hbW := HK.out.2.1.trans H2.out.2.1
   have hpaq := H2.out.1
   rw [hep] at hpaq
   rw [hw2] at hrow2 hbW hpaq
   have HF := Lib.hid (And.intro hRR (And.intro hrow2 (And.intro hbW hpaq)))
   clear hbq hep hRR hrow2 hbW hpaq hw2 H2 H1
   go_wp2_with fail
   go_ret
   obtain ⟨A, cap, e1, e2, e3, e4⟩ := HF.out.2.1.rows (fun _ _ _ _ _ h k => h.mono k)
   refine ⟨A, cap, ?_, ?_, ?_, e4, by rw [HF.out.1]; exact HF.out.2.2.2, HF.out.2.2.1⟩
   ·rw [HF.out.1, ← e1]; rfl
   ·rw [HF.out.1]
    exact e2.mono (fun k hk => ⟨by have := hk.1; have := H0.out.2.2.2.1; omega, hk.2⟩) fun _ _ h => h.mono fun k hk => ⟨by have := hk.1; have := H0.out.2.2.2.1; omega, hk.2⟩
   ·rw [HF.out.1]; exact e3

set_option maxHeartbeats 8000000 in
theorem gListRu_any (rb : Nat) (s : ByteArray) (ts : List (Nat × Nat)) (stop : Nat) (p : Sm.PS) (W : World) (h : RdAt rb s ts stop p W) (hs8 : ts.length ≤ 8192) (G : FuncId) (hcf : ∀ (args : Array Value) (V : World), (callFunc G args).run Tryz.prog V = .ok (.enter G args) V) (Bf : Sm.PS → Bool) (Vf : Sm.PS → Sm.Ru × Sm.PS) (zf : Sm.Ru)
  (hG : ∀ q V, RdAt rb s ts stop q V → But rb W V → Calls Tryz.prog G #[.pointer (some ⟨rb, 0, none⟩)] V (ElA RuS rb s ts stop (Bf q) (if Bf q = true then (Vf q).1 else zf) (if Bf q = true then (Vf q).2 else q) V))
  (hon : ∀ q, q.i ≤ ts.length → Bf q = true → q.i + 1 ≤ (Vf q).2.i ∧ (Vf q).2.i ≤ ts.length) :
  Calls Tryz.prog 117 #[.func (.func G) #[.pointer (some ⟨rb, 0, none⟩)] #[]] W (LsA RuS rb s ts stop (Sm.whileB Bf Vf (ts.length + 1) [] p).1 (Sm.whileB Bf Vf (ts.length + 1) [] p).2 W) := by
 obtain ⟨R, hR⟩ : ∃ R, R = Sm.whileB Bf Vf (ts.length + 1) [] p := ⟨_, rfl⟩
 rw [← hR]
 have hr0 := h.blk.lt
 obtain ⟨B, hB⟩ : ∃ B, B = W.heap.size := ⟨_, rfl⟩
 obtain ⟨i0, hi0, hz0, hz1, hz2⟩ := info_parts8 info_ru
 have HI := Lib.hid (And.intro hi0 (And.intro hz0 (And.intro hz1 hz2)))
 have HG := Lib.hid hG
 have HCF := Lib.hid hcf
 have HON := Lib.hid hon
 have H0 := Lib.hid (And.intro h (And.intro hR (And.intro (show rb < B by omega) (And.intro hB hs8))))
 clear h hR hr0 hB hi0 hz0 hz1 hz2 hG hcf hon hs8
 go_enter Tryz.func117, Tryz.ntmps117
 go_wp2_with fail
 go_loopg [3] (ts.length + 1) (fun m z wr => ∃ (v : Value) (q : Sm.PS) (L : List Sm.Ru) (F : Nat), z = v ∧ RdAt rb s ts stop q wr ∧ But rb W wr ∧ GRow RuS 70 5 B v L wr ∧ B ≤ wr.heap.size ∧ R = Sm.whileB Bf Vf F L q ∧ ts.length < q.i + F ∧ L.length ≤ q.i ∧ ts.length + 1 - q.i ≤ m)
 case atStart => exact ⟨_, p, [], ts.length + 1, rfl, H0.out.1, But.refl _ _, GRow.nil _ _ _ _ _, by rw [H0.out.2.2.2.1]; exact Nat.le_refl _, H0.out.2.1, by omega, Nat.zero_le _, by omega⟩
 case round =>
  obtain ⟨v, q, L, F, hzv, hpa, hbu, hrow, hBw, hR, hF, hL, hm⟩ := hrel
  replace hzv := hzv.symm
  subst hzv
  obtain ⟨wo, rfl⟩ : ∃ wo : World, wo = wr := ⟨_, rfl⟩
  have hqi := hpa.le
  have HK := Lib.hid (And.intro hpa (And.intro hbu (And.intro hrow (And.intro hBw (And.intro hR (And.intro hF (And.intro hL (And.intro hm hqi))))))))
  have cg := HG.out q wo hpa hbu
  have hc0 := HCF.out #[.pointer (some ⟨rb, 0, none⟩)] wo
  obtain ⟨bb, hbb⟩ : ∃ b, b = Bf q := ⟨_, rfl⟩
  obtain ⟨ev, hev⟩ : ∃ f, f = (if Bf q = true then (Vf q).1 else zf) := ⟨_, rfl⟩
  obtain ⟨ep, hep⟩ : ∃ f, f = (if Bf q = true then (Vf q).2 else q) := ⟨_, rfl⟩
  rw [← hev, ← hep, ← hbb] at cg
  have CG := Lib.hid cg
  have HB := Lib.hid (And.intro hbb (And.intro hev hep))
  clear cg hbb hev hep hpa hbu hrow hBw hR hF hL hm hqi
  go_wp2_with fail
  refine CG.out.mono ?_
  rintro e w1 ⟨c, rfl, HC1, ha, hb⟩
  have HONE := RuS.one HC1
  have hcc := HC1
  have H1 := Lib.hid (And.intro ha hb)
  clear ha hb hc0 CG
  have hcc2 : c = _ := hcc
  subst hcc2
  obtain ⟨en, ek, ea, eb, enn⟩ := ev
  dsimp only at HC1 HONE ⊢
  have hw1 := H1.out.2.size
  obtain ⟨w2, hw2⟩ : ∃ w, w = w1.alloc (.cells #[.string en, .string ek, .string ea, .string eb, .int .i64 enn] 70) := ⟨_, rfl⟩
  have hsz2 : w2.heap.size = w1.heap.size + 1 := by rw [hw2, World.size_alloc]
  have hbel2 : Below w1.heap.size w1 w2 := by rw [hw2]; exact (Below.refl _ _).alloc (Nat.le_refl _) _
  have hbut2 : But rb wo w2 := H1.out.2.trans (But.of hbel2)
  have hC2 : RuS (Fresh wo w2) w2 _ _ := (HC1.keep (w' := w2) fun a ha => hbel2.cell ha.2).mono (S' := Fresh wo w2) fun k hk => ⟨hk.1, by have := hk.2; omega⟩
  have hpa2 := H1.out.1.below hbel2
  have hblk : True := trivial
  have H2 := Lib.hid (And.intro hpa2 (And.intro hbut2 (And.intro hblk (And.intro hC2 hsz2))))
  have HONE2 := Lib.hid HONE
  try clear hcc
  clear HC1 HONE hblk hsz2 hbel2 hbut2 hC2 hpa2 hw1
  cases bb with
  | true =>
   have hR : R = Sm.whileB Bf Vf F L q := HK.out.2.2.2.2.1
   have hbq := HB.out.1.symm
   obtain ⟨F', rfl⟩ : ∃ F', F = F' + 1 := ⟨F - 1, by have := HK.out.2.2.2.2.2.1; have := HK.out.2.2.2.2.2.2.2.2; omega⟩
   rw [Sm.whileB_next _ _ _ hbq] at hR
   have hev : _ = (Vf q).1 := HB.out.2.1.trans (if_pos hbq)
   have hep : ep = (Vf q).2 := HB.out.2.2.trans (if_pos hbq)
   rw [← hev, ← hep] at hR
   have hon := HON.out q HK.out.2.2.2.2.2.2.2.2 hbq
   rw [← hep] at hon
   have HX := Lib.hid (And.intro hR (And.intro hon (And.intro (show L.length + 1 ≤ ep.i by have := HK.out.2.2.2.2.2.2.1; omega) (show L.length ≤ 8192 by have := HK.out.2.2.2.2.2.2.1; have := HK.out.2.2.2.2.2.2.2.2; have := H0.out.2.2.2.2; omega))))
   clear hR hbq hev hep hon
   obtain ⟨w3, hw3⟩ : ∃ w, w = w2.alloc (.cells #[.string en, .string ek, .string ea, .string eb, .int .i64 enn] 70) := ⟨_, rfl⟩
   have hbel3 : Below w2.heap.size w2 w3 := by rw [hw3]; exact (Below.refl _ _).alloc (Nat.le_refl _) _
   have hnew3 : Blk w3 w2.heap.size [.string en, .string ek, .string ea, .string eb, .int .i64 enn] 70 := by rw [hw3]; exact Blk.new w2 [.string en, .string ek, .string ea, .string eb, .int .i64 enn] _
   have hpa3 := H2.out.1.below hbel3
   have hbut3 : But rb wo w3 := H2.out.2.1.trans (But.of hbel3)
   have hC3 : RuS (Fresh wo w3) w3 _ _ := (H2.out.2.2.2.1.keep (w' := w3) fun a ha => hbel3.cell ha.2).mono (S' := Fresh wo w3) fun k hk => ⟨hk.1, Nat.lt_of_lt_of_le hk.2 hbel3.size⟩
   obtain ⟨cs, hcs1, hcs2, hown⟩ := HK.out.2.2.1.but (fun _ _ _ _ _ h k => h.keep k) (fun _ _ _ _ _ h k => h.mono k) hbut3 H0.out.2.2.1
   have hvl : ∀ k, v.ownBlock = some k → k < wo.heap.size := fun k hk => by
    obtain ⟨cs0, -, -, hown0⟩ := HK.out.2.2.1
    exact (hown0.lt k hk).2
   have hB3 : B ≤ w3.heap.size := Nat.le_trans HK.out.2.2.2.1 hbut3.size
   rw [hw3, hw2] at hpa3 hbut3 hC3 hown hB3 hcs2
   rw [hw3] at hnew3
   have h22 : w2.heap.size = w1.heap.size + 1 := H2.out.2.2.2.2
   rw [h22, hw2] at hnew3
   have H3 := Lib.hid (And.intro hpa3 (And.intro hbut3 (And.intro hC3 (And.intro hown (And.intro hB3 (And.intro hcs1 (And.intro hcs2 (And.intro hvl hnew3))))))))
   clear hbel3 hpa3 hbut3 hC3 hown hB3 hcs1 hcs2 hvl hnew3 h22 hw3 hw2 H2 H1
   go_wp2_with (at_builtin; refine wpList_append_own_at _ rfl (.tmp 14) (.tmp 16) 25 rfl B 70 i0 (.agg ruZ.toArray) 5 72 Tryz.underlying25 HI.out.1 HI.out.2.1 HI.out.2.2.1 HI.out.2.2.2 rfl (by decide) v L.length cs.flatten rfl H3.out.2.2.2.1 ⟨w1.heap.size + 1, 0, none⟩ 1 1 [.string en, .string ek, .string ea, .string eb, .int .i64 enn] rfl rfl (fun j u hj => by
     have := H3.out.2.2.2.2.2.2.2.2.cell j u hj
     have e : (⟨w1.heap.size + 1, 0, none⟩ : Addr).add j = ⟨w1.heap.size + 1, j, none⟩ := by simp [Addr.add]; omega
     rw [e]
     exact this) HONE2.out.2 (by have := HX.out.2.2.2; unfold maxLen; omega) (by have := HX.out.2.2.2; omega) H3.out.2.2.2.2.1 ?_; intro v' w6 hown' hgrow _ hat; have HA := Lib.hid (And.intro hown' (And.intro hgrow hat)); clear hown' hgrow hat)
   have hnewrow := GRow.snoc (C := RuS) (t := 70) (n := 5) (base := B) (fun _ _ _ _ _ h k => h.keep k) (fun _ _ _ _ _ h k => h.mono k) HA.out.2.1 HA.out.2.2 H3.out.2.2.1 HK.out.2.2.2.1 H3.out.2.2.2.2.2.2.2.1 cs H3.out.2.2.2.2.2.1 H3.out.2.2.2.2.2.2.1 HA.out.1
   have hvo : ∀ k, v.ownBlock = some k → B ≤ k := fun k hk => (H3.out.2.2.2.1.lt k hk).1
   go_roundg (ts.length + 1 - ep.i)
   case measure => have := HX.out.2.1; have := HK.out.2.2.2.2.2.2.2.1; omega
   case rel =>
    exact ⟨_, ep, _, F', rfl, H3.out.1.grown HA.out.2.1 (fun k hk => by have := hvo k hk; have := H0.out.2.2.1; omega), (HK.out.2.1.trans H3.out.2.1).grown HA.out.2.1 (fun k hk => by have := hvo k hk; have := H0.out.2.2.2.1; omega), hnewrow, Nat.le_trans H3.out.2.2.2.2.1 HA.out.2.1.size, HX.out.1, by have := HX.out.2.1; have := HK.out.2.2.2.2.2.1; omega, by rw [List.length_append]; exact HX.out.2.2.1, Nat.le_refl _⟩
  | false =>
   have hbq := HB.out.1.symm
   have hep : ep = q := HB.out.2.2.trans (if_neg (by rw [hbq]; decide))
   have hRR : R = (L, q) := by rw [HK.out.2.2.2.2.1, Sm.whileB_end _ _ _ hbq]
   have hrow2 := HK.out.2.2.1.but (fun _ _ _ _ _ h k => h.keep k) (fun _ _ _ _ _ h k => h.mono k) H2.out.2.1 H0.out.2.2.1
   have hbW := HK.out.2.1.trans H2.out.2.1
   have hpaq := H2.out.1
   rw [hep] at hpaq
   rw [hw2] at hrow2 hbW hpaq
   have HF := Lib.hid (And.intro hRR (And.intro hrow2 (And.intro hbW hpaq)))
   clear hbq hep hRR hrow2 hbW hpaq hw2 H2 H1
   go_wp2_with fail
   go_ret
   obtain ⟨A, cap, e1, e2, e3, e4⟩ := HF.out.2.1.rows (fun _ _ _ _ _ h k => h.mono k)
   refine ⟨A, cap, ?_, ?_, ?_, e4, by rw [HF.out.1]; exact HF.out.2.2.2, HF.out.2.2.1⟩
   ·rw [HF.out.1, ← e1]; rfl
   ·rw [HF.out.1]
    exact e2.mono (fun k hk => ⟨by have := hk.1; have := H0.out.2.2.2.1; omega, hk.2⟩) fun _ _ h => h.mono fun k hk => ⟨by have := hk.1; have := H0.out.2.2.2.1; omega, hk.2⟩
   ·rw [HF.out.1]; exact e3

set_option maxHeartbeats 8000000 in
theorem gListFd_any (rb : Nat) (s : ByteArray) (ts : List (Nat × Nat)) (stop : Nat) (p : Sm.PS) (W : World) (h : RdAt rb s ts stop p W) (hs8 : ts.length ≤ 8192) (G : FuncId) (hcf : ∀ (args : Array Value) (V : World), (callFunc G args).run Tryz.prog V = .ok (.enter G args) V) (Bf : Sm.PS → Bool) (Vf : Sm.PS → Sm.Fd × Sm.PS) (zf : Sm.Fd)
  (hG : ∀ q V, RdAt rb s ts stop q V → But rb W V → Calls Tryz.prog G #[.pointer (some ⟨rb, 0, none⟩)] V (ElA FdS rb s ts stop (Bf q) (if Bf q = true then (Vf q).1 else zf) (if Bf q = true then (Vf q).2 else q) V))
  (hon : ∀ q, q.i ≤ ts.length → Bf q = true → q.i + 1 ≤ (Vf q).2.i ∧ (Vf q).2.i ≤ ts.length) :
  Calls Tryz.prog 157 #[.func (.func G) #[.pointer (some ⟨rb, 0, none⟩)] #[]] W (LsA FdS rb s ts stop (Sm.whileB Bf Vf (ts.length + 1) [] p).1 (Sm.whileB Bf Vf (ts.length + 1) [] p).2 W) := by
 obtain ⟨R, hR⟩ : ∃ R, R = Sm.whileB Bf Vf (ts.length + 1) [] p := ⟨_, rfl⟩
 rw [← hR]
 have hr0 := h.blk.lt
 obtain ⟨B, hB⟩ : ∃ B, B = W.heap.size := ⟨_, rfl⟩
 obtain ⟨i0, hi0, hz0, hz1, hz2⟩ := info_parts8 info_fd
 have HI := Lib.hid (And.intro hi0 (And.intro hz0 (And.intro hz1 hz2)))
 have HG := Lib.hid hG
 have HCF := Lib.hid hcf
 have HON := Lib.hid hon
 have H0 := Lib.hid (And.intro h (And.intro hR (And.intro (show rb < B by omega) (And.intro hB hs8))))
 clear h hR hr0 hB hi0 hz0 hz1 hz2 hG hcf hon hs8
 go_enter Tryz.func157, Tryz.ntmps157
 go_wp2_with fail
 go_loopg [3] (ts.length + 1) (fun m z wr => ∃ (v : Value) (q : Sm.PS) (L : List Sm.Fd) (F : Nat), z = v ∧ RdAt rb s ts stop q wr ∧ But rb W wr ∧ GRow FdS 74 8 B v L wr ∧ B ≤ wr.heap.size ∧ R = Sm.whileB Bf Vf F L q ∧ ts.length < q.i + F ∧ L.length ≤ q.i ∧ ts.length + 1 - q.i ≤ m)
 case atStart => exact ⟨_, p, [], ts.length + 1, rfl, H0.out.1, But.refl _ _, GRow.nil _ _ _ _ _, by rw [H0.out.2.2.2.1]; exact Nat.le_refl _, H0.out.2.1, by omega, Nat.zero_le _, by omega⟩
 case round =>
  obtain ⟨v, q, L, F, hzv, hpa, hbu, hrow, hBw, hR, hF, hL, hm⟩ := hrel
  replace hzv := hzv.symm
  subst hzv
  obtain ⟨wo, rfl⟩ : ∃ wo : World, wo = wr := ⟨_, rfl⟩
  have hqi := hpa.le
  have HK := Lib.hid (And.intro hpa (And.intro hbu (And.intro hrow (And.intro hBw (And.intro hR (And.intro hF (And.intro hL (And.intro hm hqi))))))))
  have cg := HG.out q wo hpa hbu
  have hc0 := HCF.out #[.pointer (some ⟨rb, 0, none⟩)] wo
  obtain ⟨bb, hbb⟩ : ∃ b, b = Bf q := ⟨_, rfl⟩
  obtain ⟨ev, hev⟩ : ∃ f, f = (if Bf q = true then (Vf q).1 else zf) := ⟨_, rfl⟩
  obtain ⟨ep, hep⟩ : ∃ f, f = (if Bf q = true then (Vf q).2 else q) := ⟨_, rfl⟩
  rw [← hev, ← hep, ← hbb] at cg
  have CG := Lib.hid cg
  have HB := Lib.hid (And.intro hbb (And.intro hev hep))
  clear cg hbb hev hep hpa hbu hrow hBw hR hF hL hm hqi
  go_wp2_with fail
  refine CG.out.mono ?_
  rintro e w1 ⟨c, rfl, HC1, ha, hb⟩
  have HONE := FdS.one HC1
  have hcc := HC1
  have H1 := Lib.hid (And.intro ha hb)
  clear ha hb hc0 CG
  obtain ⟨Aw, cw, Ag, cg, rfl, -⟩ := hcc
  obtain ⟨fn, fof, fup, fk, flo, fhi, fws, fwg⟩ := ev
  dsimp only at HC1 HONE ⊢
  obtain ⟨nw, hnw⟩ : ∃ n, n = fws.length := ⟨_, rfl⟩
  obtain ⟨ng, hng⟩ : ∃ n, n = fwg.length := ⟨_, rfl⟩
  rw [← hnw, ← hng] at HC1 HONE ⊢
  have HNW := Lib.hid (And.intro hnw hng)
  clear hnw hng
  have hw1 := H1.out.2.size
  obtain ⟨w2, hw2⟩ : ∃ w, w = w1.alloc (.cells #[.string fn, .string fof, .string fup, .int .i64 fk, .int .i64 flo, .int .i64 fhi, .slice Aw nw cw, .slice Ag ng cg] 74) := ⟨_, rfl⟩
  have hsz2 : w2.heap.size = w1.heap.size + 1 := by rw [hw2, World.size_alloc]
  have hbel2 : Below w1.heap.size w1 w2 := by rw [hw2]; exact (Below.refl _ _).alloc (Nat.le_refl _) _
  have hbut2 : But rb wo w2 := H1.out.2.trans (But.of hbel2)
  have hC2 : FdS (Fresh wo w2) w2 _ _ := (HC1.keep (w' := w2) fun a ha => hbel2.cell ha.2).mono (S' := Fresh wo w2) fun k hk => ⟨hk.1, by have := hk.2; omega⟩
  have hpa2 := H1.out.1.below hbel2
  have hblk : True := trivial
  have H2 := Lib.hid (And.intro hpa2 (And.intro hbut2 (And.intro hblk (And.intro hC2 hsz2))))
  have HONE2 := Lib.hid HONE
  try clear hcc
  clear HC1 HONE hblk hsz2 hbel2 hbut2 hC2 hpa2 hw1
  cases bb with
  | true =>
   have hR : R = Sm.whileB Bf Vf F L q := HK.out.2.2.2.2.1
   have hbq := HB.out.1.symm
   obtain ⟨F', rfl⟩ : ∃ F', F = F' + 1 := ⟨F - 1, by have := HK.out.2.2.2.2.2.1; have := HK.out.2.2.2.2.2.2.2.2; omega⟩
   rw [Sm.whileB_next _ _ _ hbq] at hR
   have hev : _ = (Vf q).1 := HB.out.2.1.trans (if_pos hbq)
   have hep : ep = (Vf q).2 := HB.out.2.2.trans (if_pos hbq)
   rw [← hev, ← hep] at hR
   have hon := HON.out q HK.out.2.2.2.2.2.2.2.2 hbq
   rw [← hep] at hon
   have HX := Lib.hid (And.intro hR (And.intro hon (And.intro (show L.length + 1 ≤ ep.i by have := HK.out.2.2.2.2.2.2.1; omega) (show L.length ≤ 8192 by have := HK.out.2.2.2.2.2.2.1; have := HK.out.2.2.2.2.2.2.2.2; have := H0.out.2.2.2.2; omega))))
   clear hR hbq hev hep hon
   obtain ⟨w3, hw3⟩ : ∃ w, w = w2.alloc (.cells #[.string fn, .string fof, .string fup, .int .i64 fk, .int .i64 flo, .int .i64 fhi, .slice Aw nw cw, .slice Ag ng cg] 74) := ⟨_, rfl⟩
   have hbel3 : Below w2.heap.size w2 w3 := by rw [hw3]; exact (Below.refl _ _).alloc (Nat.le_refl _) _
   have hnew3 : Blk w3 w2.heap.size [.string fn, .string fof, .string fup, .int .i64 fk, .int .i64 flo, .int .i64 fhi, .slice Aw nw cw, .slice Ag ng cg] 74 := by rw [hw3]; exact Blk.new w2 [.string fn, .string fof, .string fup, .int .i64 fk, .int .i64 flo, .int .i64 fhi, .slice Aw nw cw, .slice Ag ng cg] _
   have hpa3 := H2.out.1.below hbel3
   have hbut3 : But rb wo w3 := H2.out.2.1.trans (But.of hbel3)
   have hC3 : FdS (Fresh wo w3) w3 _ _ := (H2.out.2.2.2.1.keep (w' := w3) fun a ha => hbel3.cell ha.2).mono (S' := Fresh wo w3) fun k hk => ⟨hk.1, Nat.lt_of_lt_of_le hk.2 hbel3.size⟩
   obtain ⟨cs, hcs1, hcs2, hown⟩ := HK.out.2.2.1.but (fun _ _ _ _ _ h k => h.keep k) (fun _ _ _ _ _ h k => h.mono k) hbut3 H0.out.2.2.1
   have hvl : ∀ k, v.ownBlock = some k → k < wo.heap.size := fun k hk => by
    obtain ⟨cs0, -, -, hown0⟩ := HK.out.2.2.1
    exact (hown0.lt k hk).2
   have hB3 : B ≤ w3.heap.size := Nat.le_trans HK.out.2.2.2.1 hbut3.size
   rw [hw3, hw2] at hpa3 hbut3 hC3 hown hB3 hcs2
   rw [hw3] at hnew3
   have h22 : w2.heap.size = w1.heap.size + 1 := H2.out.2.2.2.2
   rw [h22, hw2] at hnew3
   have H3 := Lib.hid (And.intro hpa3 (And.intro hbut3 (And.intro hC3 (And.intro hown (And.intro hB3 (And.intro hcs1 (And.intro hcs2 (And.intro hvl hnew3))))))))
   clear hbel3 hpa3 hbut3 hC3 hown hB3 hcs1 hcs2 hvl hnew3 h22 hw3 hw2 H2 H1
   go_wp2_with (at_builtin; refine wpList_append_own_at _ rfl (.tmp 14) (.tmp 16) 61 rfl B 74 i0 (.agg fdZ.toArray) 8 120 Tryz.underlying61 HI.out.1 HI.out.2.1 HI.out.2.2.1 HI.out.2.2.2 rfl (by decide) v L.length cs.flatten rfl H3.out.2.2.2.1 ⟨w1.heap.size + 1, 0, none⟩ 1 1 [.string fn, .string fof, .string fup, .int .i64 fk, .int .i64 flo, .int .i64 fhi, .slice Aw nw cw, .slice Ag ng cg] rfl rfl (fun j u hj => by
     have := H3.out.2.2.2.2.2.2.2.2.cell j u hj
     have e : (⟨w1.heap.size + 1, 0, none⟩ : Addr).add j = ⟨w1.heap.size + 1, j, none⟩ := by simp [Addr.add]; omega
     rw [e]
     exact this) HONE2.out.2 (by have := HX.out.2.2.2; unfold maxLen; omega) (by have := HX.out.2.2.2; omega) H3.out.2.2.2.2.1 ?_; intro v' w6 hown' hgrow _ hat; have HA := Lib.hid (And.intro hown' (And.intro hgrow hat)); clear hown' hgrow hat)
   have hnewrow := GRow.snoc (C := FdS) (t := 74) (n := 8) (base := B) (fun _ _ _ _ _ h k => h.keep k) (fun _ _ _ _ _ h k => h.mono k) HA.out.2.1 HA.out.2.2 H3.out.2.2.1 HK.out.2.2.2.1 H3.out.2.2.2.2.2.2.2.1 cs H3.out.2.2.2.2.2.1 H3.out.2.2.2.2.2.2.1 HA.out.1
   have hvo : ∀ k, v.ownBlock = some k → B ≤ k := fun k hk => (H3.out.2.2.2.1.lt k hk).1
   go_roundg (ts.length + 1 - ep.i)
   case measure => have := HX.out.2.1; have := HK.out.2.2.2.2.2.2.2.1; omega
   case rel =>
    exact ⟨_, ep, _, F', rfl, H3.out.1.grown HA.out.2.1 (fun k hk => by have := hvo k hk; have := H0.out.2.2.1; omega), (HK.out.2.1.trans H3.out.2.1).grown HA.out.2.1 (fun k hk => by have := hvo k hk; have := H0.out.2.2.2.1; omega), hnewrow, Nat.le_trans H3.out.2.2.2.2.1 HA.out.2.1.size, HX.out.1, by have := HX.out.2.1; have := HK.out.2.2.2.2.2.1; omega, by rw [List.length_append]; exact HX.out.2.2.1, Nat.le_refl _⟩
  | false =>
   have hbq := HB.out.1.symm
   have hep : ep = q := HB.out.2.2.trans (if_neg (by rw [hbq]; decide))
   have hRR : R = (L, q) := by rw [HK.out.2.2.2.2.1, Sm.whileB_end _ _ _ hbq]
   have hrow2 := HK.out.2.2.1.but (fun _ _ _ _ _ h k => h.keep k) (fun _ _ _ _ _ h k => h.mono k) H2.out.2.1 H0.out.2.2.1
   have hbW := HK.out.2.1.trans H2.out.2.1
   have hpaq := H2.out.1
   rw [hep] at hpaq
   rw [hw2] at hrow2 hbW hpaq
   have HF := Lib.hid (And.intro hRR (And.intro hrow2 (And.intro hbW hpaq)))
   clear hbq hep hRR hrow2 hbW hpaq hw2 H2 H1
   go_wp2_with fail
   go_ret
   obtain ⟨A, cap, e1, e2, e3, e4⟩ := HF.out.2.1.rows (fun _ _ _ _ _ h k => h.mono k)
   refine ⟨A, cap, ?_, ?_, ?_, e4, by rw [HF.out.1]; exact HF.out.2.2.2, HF.out.2.2.1⟩
   ·rw [HF.out.1, ← e1]; rfl
   ·rw [HF.out.1]
    exact e2.mono (fun k hk => ⟨by have := hk.1; have := H0.out.2.2.2.1; omega, hk.2⟩) fun _ _ h => h.mono fun k hk => ⟨by have := hk.1; have := H0.out.2.2.2.1; omega, hk.2⟩
   ·rw [HF.out.1]; exact e3

set_option maxHeartbeats 8000000 in
theorem gListMv_any (rb : Nat) (s : ByteArray) (ts : List (Nat × Nat)) (stop : Nat) (p : Sm.PS) (W : World) (h : RdAt rb s ts stop p W) (hs8 : ts.length ≤ 8192) (G : FuncId) (hcf : ∀ (args : Array Value) (V : World), (callFunc G args).run Tryz.prog V = .ok (.enter G args) V) (Bf : Sm.PS → Bool) (Vf : Sm.PS → (Int × Int) × Sm.PS) (zf : (Int × Int))
  (hG : ∀ q V, RdAt rb s ts stop q V → But rb W V → Calls Tryz.prog G #[.pointer (some ⟨rb, 0, none⟩)] V (ElA MvS rb s ts stop (Bf q) (if Bf q = true then (Vf q).1 else zf) (if Bf q = true then (Vf q).2 else q) V))
  (hon : ∀ q, q.i ≤ ts.length → Bf q = true → q.i + 1 ≤ (Vf q).2.i ∧ (Vf q).2.i ≤ ts.length) :
  Calls Tryz.prog 160 #[.func (.func G) #[.pointer (some ⟨rb, 0, none⟩)] #[]] W (LsA MvS rb s ts stop (Sm.whileB Bf Vf (ts.length + 1) [] p).1 (Sm.whileB Bf Vf (ts.length + 1) [] p).2 W) := by
 obtain ⟨R, hR⟩ : ∃ R, R = Sm.whileB Bf Vf (ts.length + 1) [] p := ⟨_, rfl⟩
 rw [← hR]
 have hr0 := h.blk.lt
 obtain ⟨B, hB⟩ : ∃ B, B = W.heap.size := ⟨_, rfl⟩
 obtain ⟨i0, hi0, hz0, hz1, hz2⟩ := info_parts8 info_mvL
 have HI := Lib.hid (And.intro hi0 (And.intro hz0 (And.intro hz1 hz2)))
 have HG := Lib.hid hG
 have HCF := Lib.hid hcf
 have HON := Lib.hid hon
 have H0 := Lib.hid (And.intro h (And.intro hR (And.intro (show rb < B by omega) (And.intro hB hs8))))
 clear h hR hr0 hB hi0 hz0 hz1 hz2 hG hcf hon hs8
 go_enter Tryz.func160, Tryz.ntmps160
 go_wp2_with fail
 go_loopg [3] (ts.length + 1) (fun m z wr => ∃ (v : Value) (q : Sm.PS) (L : List (Int × Int)) (F : Nat), z = v ∧ RdAt rb s ts stop q wr ∧ But rb W wr ∧ GRow MvS 68 2 B v L wr ∧ B ≤ wr.heap.size ∧ R = Sm.whileB Bf Vf F L q ∧ ts.length < q.i + F ∧ L.length ≤ q.i ∧ ts.length + 1 - q.i ≤ m)
 case atStart => exact ⟨_, p, [], ts.length + 1, rfl, H0.out.1, But.refl _ _, GRow.nil _ _ _ _ _, by rw [H0.out.2.2.2.1]; exact Nat.le_refl _, H0.out.2.1, by omega, Nat.zero_le _, by omega⟩
 case round =>
  obtain ⟨v, q, L, F, hzv, hpa, hbu, hrow, hBw, hR, hF, hL, hm⟩ := hrel
  replace hzv := hzv.symm
  subst hzv
  obtain ⟨wo, rfl⟩ : ∃ wo : World, wo = wr := ⟨_, rfl⟩
  have hqi := hpa.le
  have HK := Lib.hid (And.intro hpa (And.intro hbu (And.intro hrow (And.intro hBw (And.intro hR (And.intro hF (And.intro hL (And.intro hm hqi))))))))
  have cg := HG.out q wo hpa hbu
  have hc0 := HCF.out #[.pointer (some ⟨rb, 0, none⟩)] wo
  obtain ⟨bb, hbb⟩ : ∃ b, b = Bf q := ⟨_, rfl⟩
  obtain ⟨ev, hev⟩ : ∃ f, f = (if Bf q = true then (Vf q).1 else zf) := ⟨_, rfl⟩
  obtain ⟨ep, hep⟩ : ∃ f, f = (if Bf q = true then (Vf q).2 else q) := ⟨_, rfl⟩
  rw [← hev, ← hep, ← hbb] at cg
  have CG := Lib.hid cg
  have HB := Lib.hid (And.intro hbb (And.intro hev hep))
  clear cg hbb hev hep hpa hbu hrow hBw hR hF hL hm hqi
  go_wp2_with fail
  refine CG.out.mono ?_
  rintro e w1 ⟨c, rfl, HC1, ha, hb⟩
  have HONE := MvS.one HC1
  have hcc := HC1
  have H1 := Lib.hid (And.intro ha hb)
  clear ha hb hc0 CG
  have hcc2 : c = _ := hcc
  subst hcc2
  obtain ⟨ea, eb⟩ := ev
  dsimp only at HC1 HONE ⊢
  have hw1 := H1.out.2.size
  obtain ⟨w2, hw2⟩ : ∃ w, w = w1.alloc (.cells #[.int .i64 ea, .int .i64 eb] 68) := ⟨_, rfl⟩
  have hsz2 : w2.heap.size = w1.heap.size + 1 := by rw [hw2, World.size_alloc]
  have hbel2 : Below w1.heap.size w1 w2 := by rw [hw2]; exact (Below.refl _ _).alloc (Nat.le_refl _) _
  have hbut2 : But rb wo w2 := H1.out.2.trans (But.of hbel2)
  have hC2 : MvS (Fresh wo w2) w2 _ _ := (HC1.keep (w' := w2) fun a ha => hbel2.cell ha.2).mono (S' := Fresh wo w2) fun k hk => ⟨hk.1, by have := hk.2; omega⟩
  have hpa2 := H1.out.1.below hbel2
  have hblk : True := trivial
  have H2 := Lib.hid (And.intro hpa2 (And.intro hbut2 (And.intro hblk (And.intro hC2 hsz2))))
  have HONE2 := Lib.hid HONE
  try clear hcc
  clear HC1 HONE hblk hsz2 hbel2 hbut2 hC2 hpa2 hw1
  cases bb with
  | true =>
   have hR : R = Sm.whileB Bf Vf F L q := HK.out.2.2.2.2.1
   have hbq := HB.out.1.symm
   obtain ⟨F', rfl⟩ : ∃ F', F = F' + 1 := ⟨F - 1, by have := HK.out.2.2.2.2.2.1; have := HK.out.2.2.2.2.2.2.2.2; omega⟩
   rw [Sm.whileB_next _ _ _ hbq] at hR
   have hev : _ = (Vf q).1 := HB.out.2.1.trans (if_pos hbq)
   have hep : ep = (Vf q).2 := HB.out.2.2.trans (if_pos hbq)
   rw [← hev, ← hep] at hR
   have hon := HON.out q HK.out.2.2.2.2.2.2.2.2 hbq
   rw [← hep] at hon
   have HX := Lib.hid (And.intro hR (And.intro hon (And.intro (show L.length + 1 ≤ ep.i by have := HK.out.2.2.2.2.2.2.1; omega) (show L.length ≤ 8192 by have := HK.out.2.2.2.2.2.2.1; have := HK.out.2.2.2.2.2.2.2.2; have := H0.out.2.2.2.2; omega))))
   clear hR hbq hev hep hon
   obtain ⟨w3, hw3⟩ : ∃ w, w = w2.alloc (.cells #[.int .i64 ea, .int .i64 eb] 68) := ⟨_, rfl⟩
   have hbel3 : Below w2.heap.size w2 w3 := by rw [hw3]; exact (Below.refl _ _).alloc (Nat.le_refl _) _
   have hnew3 : Blk w3 w2.heap.size [.int .i64 ea, .int .i64 eb] 68 := by rw [hw3]; exact Blk.new w2 [.int .i64 ea, .int .i64 eb] _
   have hpa3 := H2.out.1.below hbel3
   have hbut3 : But rb wo w3 := H2.out.2.1.trans (But.of hbel3)
   have hC3 : MvS (Fresh wo w3) w3 _ _ := (H2.out.2.2.2.1.keep (w' := w3) fun a ha => hbel3.cell ha.2).mono (S' := Fresh wo w3) fun k hk => ⟨hk.1, Nat.lt_of_lt_of_le hk.2 hbel3.size⟩
   obtain ⟨cs, hcs1, hcs2, hown⟩ := HK.out.2.2.1.but (fun _ _ _ _ _ h k => h.keep k) (fun _ _ _ _ _ h k => h.mono k) hbut3 H0.out.2.2.1
   have hvl : ∀ k, v.ownBlock = some k → k < wo.heap.size := fun k hk => by
    obtain ⟨cs0, -, -, hown0⟩ := HK.out.2.2.1
    exact (hown0.lt k hk).2
   have hB3 : B ≤ w3.heap.size := Nat.le_trans HK.out.2.2.2.1 hbut3.size
   rw [hw3, hw2] at hpa3 hbut3 hC3 hown hB3 hcs2
   rw [hw3] at hnew3
   have h22 : w2.heap.size = w1.heap.size + 1 := H2.out.2.2.2.2
   rw [h22, hw2] at hnew3
   have H3 := Lib.hid (And.intro hpa3 (And.intro hbut3 (And.intro hC3 (And.intro hown (And.intro hB3 (And.intro hcs1 (And.intro hcs2 (And.intro hvl hnew3))))))))
   clear hbel3 hpa3 hbut3 hC3 hown hB3 hcs1 hcs2 hvl hnew3 h22 hw3 hw2 H2 H1
   go_wp2_with (at_builtin; refine wpList_append_own_at _ rfl (.tmp 14) (.tmp 16) 65 rfl B 68 i0 (.agg mvZL.toArray) 2 16 Tryz.underlying65 HI.out.1 HI.out.2.1 HI.out.2.2.1 HI.out.2.2.2 rfl (by decide) v L.length cs.flatten rfl H3.out.2.2.2.1 ⟨w1.heap.size + 1, 0, none⟩ 1 1 [.int .i64 ea, .int .i64 eb] rfl rfl (fun j u hj => by
     have := H3.out.2.2.2.2.2.2.2.2.cell j u hj
     have e : (⟨w1.heap.size + 1, 0, none⟩ : Addr).add j = ⟨w1.heap.size + 1, j, none⟩ := by simp [Addr.add]; omega
     rw [e]
     exact this) HONE2.out.2 (by have := HX.out.2.2.2; unfold maxLen; omega) (by have := HX.out.2.2.2; omega) H3.out.2.2.2.2.1 ?_; intro v' w6 hown' hgrow _ hat; have HA := Lib.hid (And.intro hown' (And.intro hgrow hat)); clear hown' hgrow hat)
   have hnewrow := GRow.snoc (C := MvS) (t := 68) (n := 2) (base := B) (fun _ _ _ _ _ h k => h.keep k) (fun _ _ _ _ _ h k => h.mono k) HA.out.2.1 HA.out.2.2 H3.out.2.2.1 HK.out.2.2.2.1 H3.out.2.2.2.2.2.2.2.1 cs H3.out.2.2.2.2.2.1 H3.out.2.2.2.2.2.2.1 HA.out.1
   have hvo : ∀ k, v.ownBlock = some k → B ≤ k := fun k hk => (H3.out.2.2.2.1.lt k hk).1
   go_roundg (ts.length + 1 - ep.i)
   case measure => have := HX.out.2.1; have := HK.out.2.2.2.2.2.2.2.1; omega
   case rel =>
    exact ⟨_, ep, _, F', rfl, H3.out.1.grown HA.out.2.1 (fun k hk => by have := hvo k hk; have := H0.out.2.2.1; omega), (HK.out.2.1.trans H3.out.2.1).grown HA.out.2.1 (fun k hk => by have := hvo k hk; have := H0.out.2.2.2.1; omega), hnewrow, Nat.le_trans H3.out.2.2.2.2.1 HA.out.2.1.size, HX.out.1, by have := HX.out.2.1; have := HK.out.2.2.2.2.2.1; omega, by rw [List.length_append]; exact HX.out.2.2.1, Nat.le_refl _⟩
  | false =>
   have hbq := HB.out.1.symm
   have hep : ep = q := HB.out.2.2.trans (if_neg (by rw [hbq]; decide))
   have hRR : R = (L, q) := by rw [HK.out.2.2.2.2.1, Sm.whileB_end _ _ _ hbq]
   have hrow2 := HK.out.2.2.1.but (fun _ _ _ _ _ h k => h.keep k) (fun _ _ _ _ _ h k => h.mono k) H2.out.2.1 H0.out.2.2.1
   have hbW := HK.out.2.1.trans H2.out.2.1
   have hpaq := H2.out.1
   rw [hep] at hpaq
   rw [hw2] at hrow2 hbW hpaq
   have HF := Lib.hid (And.intro hRR (And.intro hrow2 (And.intro hbW hpaq)))
   clear hbq hep hRR hrow2 hbW hpaq hw2 H2 H1
   go_wp2_with fail
   go_ret
   obtain ⟨A, cap, e1, e2, e3, e4⟩ := HF.out.2.1.rows (fun _ _ _ _ _ h k => h.mono k)
   refine ⟨A, cap, ?_, ?_, ?_, e4, by rw [HF.out.1]; exact HF.out.2.2.2, HF.out.2.2.1⟩
   ·rw [HF.out.1, ← e1]; rfl
   ·rw [HF.out.1]
    exact e2.mono (fun k hk => ⟨by have := hk.1; have := H0.out.2.2.2.1; omega, hk.2⟩) fun _ _ h => h.mono fun k hk => ⟨by have := hk.1; have := H0.out.2.2.2.1; omega, hk.2⟩
   ·rw [HF.out.1]; exact e3
end Go.Proofs.YtkgddcemocfgfaaGreatDoor
end

