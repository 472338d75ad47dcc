import Derived.Test.YtkgddcemocfgfaaGreatDoorJZSmEb

section
/- The reference: Encode. -/

namespace Go.Proofs.YtkgddcemocfgfaaGreatDoor
open Go.RowKit
set_option linter.unusedVariables false
set_option linter.unusedSimpArgs false
set_option maxRecDepth 100000

set_option maxHeartbeats 32000000 in
theorem smEncode_any (x : Sm.Sc) (Ak : Option Addr) (ck : Nat) (Al : Option Addr) (cl : Nat) (Ar : Option Addr) (cr : Nat) (W : World) (hK : Rows KdC W W.heap.size Ak x.kinds) (hL : Rows LfC W W.heap.size Al x.lives) (hR : Rows RuC W W.heap.size Ar x.rules) (hS : Sm.LaxS x) :
  Calls Tryz.prog 18 #[.agg #[.int .i64 x.version, .slice Ak x.kinds.length ck, .slice Al x.lives.length cl, .slice Ar x.rules.length cr]] W (Makes (Sm.encSc x) W) := by
 obtain ⟨i0, hi, hz0, hz1, hz2⟩ := info_parts info_i64
 have HI := Lib.hid (And.intro hi (And.intro hz0 (And.intro hz1 hz2)))
 clear hi hz0 hz1 hz2
 obtain ⟨z, hz⟩ : ∃ z, z = Sm.encSc x := ⟨_, rfl⟩
 rw [← hz]
 unfold Sm.encSc M.encL at hz
 obtain ⟨version, kinds, lives, rules⟩ := x
 dsimp only at hz hK hL hR ⊢
 have hv := Sm.num_i64 hS.version
 have hsK := hS.kinds
 have hsL := hS.lives
 have hsR := hS.rules
 have s1 := hS.fewk
 have s2 := hS.fewl
 have s3 := hS.fewr
 dsimp only at hv hsK hsL hsR s1 s2 s3
 obtain ⟨NK, hNK⟩ : ∃ n, n = kinds.length := ⟨_, rfl⟩
 obtain ⟨NL, hNL⟩ : ∃ n, n = lives.length := ⟨_, rfl⟩
 obtain ⟨NR, hNR⟩ : ∃ n, n = rules.length := ⟨_, rfl⟩
 rw [← hNK] at s1
 rw [← hNL] at s2
 rw [← hNR] at s3
 rw [← hNK, ← hNL, ← hNR] at hz ⊢
 obtain ⟨xb, hxb⟩ : ∃ n, n = W.heap.size := ⟨_, rfl⟩
 obtain ⟨xc, hxc⟩ : ∃ c : List Value, c = [.int .i64 version, .slice Ak NK ck, .slice Al NL cl, .slice Ar NR cr] := ⟨_, rfl⟩
 have hxcell : ∀ (v : Value) (L : List UInt8) (w : World), EnO W xb xc v L w → ∀ (i : Nat) (u : Value), [.int .i64 version, .slice Ak NK ck, .slice Al NL cl, .slice Ar NR cr][i]? = some u → w.cell? ⟨xb, i, none⟩ = some u := fun v L w h i u hu => h.1.cell i u (by rw [hxc]; exact hu)
 have hxblk : Blk (W.alloc (.cells #[.int .i64 version, .slice Ak NK ck, .slice Al NL cl, .slice Ar NR cr] 27)) xb xc 27 := by rw [hxb, hxc]; exact Blk.new W _ _
 have hxcl : ∀ (i : Nat) (u : Value), [.int .i64 version, .slice Ak NK ck, .slice Al NL cl, .slice Ar NR cr][i]? = some u → xc[i]? = some u := fun i u hu => by rw [hxc]; exact hu
 have hxbel : Below xb W (W.alloc (.cells #[.int .i64 version, .slice Ak NK ck, .slice Al NL cl, .slice Ar NR cr] 27)) := by rw [hxb]; exact alloc_belowE _ _
 obtain ⟨E1, hE1⟩ : ∃ l, l = M.encI version := ⟨_, rfl⟩
 obtain ⟨E2, hE2⟩ : ∃ l, l = M.encI (NK : Int) := ⟨_, rfl⟩
 have nE1 : E1.length ≤ 9 := by rw [hE1]; exact M.encI_len_le _ hv
 have nE2 : E2.length ≤ 9 := by rw [hE2]; exact Sm.encN_le (by omega)
 have cE1 := fun w => refInt_any version w hv
 have cE2 := fun w => refInt_any (NK : Int) w (M.I64_nat NK (by omega))
 unfold IntPost at cE1 cE2
 simp only [← hE1] at cE1
 simp only [← hE2] at cE2
 have HX := Lib.hid hxcell
 have HXC := Lib.hid hxcl
 have H0 := Lib.hid (And.intro hxblk hxbel)
 have HZ := Lib.hid (And.intro hz (And.intro hNK (And.intro hNL (And.intro hNR (And.intro hE1 hE2)))))
 have HSS := Lib.hid (And.intro hsK (And.intro hsL hsR))
 have HR := Lib.hid (And.intro hK (And.intro hL hR))
 have HXB := Lib.hid hxb
 have CE1 := Lib.hid cE1
 have CE2 := Lib.hid cE2
 clear hK hL hR hS hz hNK hNL hNR hxcell hxblk hxcl hxbel hsK hsL hsR hxc hxb hE1 hE2 cE1 cE2 hv
 go_enter Tryz.func18, Tryz.ntmps18
 go_upto_region 1 with fail
 obtain ⟨w1, hw1⟩ : ∃ w, w = W.alloc (.cells #[.int .i64 version, .slice Ak NK ck, .slice Al NL cl, .slice Ar NR cr] 27) := ⟨_, rfl⟩
 have h0 := H0.out
 rw [← hw1] at h0 ⊢
 clear hw1 H0
 rw [← HXB.out]
 have H0 := Lib.hid h0
 clear h0
 refine wp_region_list [13, 14, 15, 16, 17, 18, 19] [.is (.pointer (some ⟨xb, 0, none⟩)), .is (.int .i64 version), .ownF (xb + 1) E1, .is (.pointer (some ⟨xb, 1, none⟩)), .is (.slice Ak NK ck), .is (.int .i64 (NK : Int)), .rowB E2] (by kernel_rfl) (by kernel_rfl) ?_ ?_
 ·intro y0 hy0 b w' hb hd hx o ho
  match y0, hy0 with
  | 0, _ =>
   obtain rfl := Option.some.inj ho
   have e : b.tmps.getD 1 undef = .pointer (some ⟨xb, 0, none⟩) := hx 1 rfl
   have hr : (Instr.fieldAt 27 (.pointer (some ⟨xb, 0, none⟩)) 0).run Tryz.prog w' = .ok (.pointer (some ⟨xb, 0, none⟩)) w' := by go_simp
   refine runs_value rfl ?_ ⟨rfl, Below.refl _ _⟩
   rw [show b.eval (.tmp 1) = _ from e]
   exact hr
  | 1, _ =>
   obtain rfl := Option.some.inj ho
   have e : b.tmps.getD 13 undef = .pointer (some ⟨xb, 0, none⟩) := hd 0 (by kernel_rfl) (by decide)
   have hc : w'.cell? ⟨xb, 0, none⟩ = some (.int .i64 version) := (H0.out.1.below hb H0.out.1.lt).cell 0 _ (HXC.out 0 _ rfl)
   have hr : (Instr.loadAt 3 (.pointer (some ⟨xb, 0, none⟩))).run Tryz.prog w' = .ok (.int .i64 version) w' := by go_simp
   refine runs_value rfl ?_ ⟨rfl, Below.refl _ _⟩
   rw [show b.eval (.tmp 13) = _ from e]
   exact hr
  | 2, _ =>
   obtain rfl := Option.some.inj ho
   have e : b.tmps.getD 14 undef = .int .i64 version := hd 1 (by kernel_rfl) (by decide)
   refine runs_call rfl (fun _ _ => rfl) ?_
   show Calls _ _ #[b.tmps.getD 14 undef] w' _
   rw [e]
   exact (CE1.out w').mono fun e w'' h => by
    obtain ⟨z, h1, h2, h3⟩ := h
    exact ⟨z, h1, own_base h2 (Nat.le_trans H0.out.1.lt hb.size), h3⟩
  | 3, _ =>
   obtain rfl := Option.some.inj ho
   have e : b.tmps.getD 1 undef = .pointer (some ⟨xb, 0, none⟩) := hx 1 rfl
   have hr : (Instr.fieldAt 27 (.pointer (some ⟨xb, 0, none⟩)) 1).run Tryz.prog w' = .ok (.pointer (some ⟨xb, 1, none⟩)) w' := by go_simp
   refine runs_value rfl ?_ ⟨rfl, Below.refl _ _⟩
   rw [show b.eval (.tmp 1) = _ from e]
   exact hr
  | 4, _ =>
   obtain rfl := Option.some.inj ho
   have e : b.tmps.getD 16 undef = .pointer (some ⟨xb, 1, none⟩) := hd 3 (by kernel_rfl) (by decide)
   have hc : w'.cell? ⟨xb, 1, none⟩ = some (.slice Ak NK ck) := (H0.out.1.below hb H0.out.1.lt).cell 1 _ (HXC.out 1 _ rfl)
   have hr : (Instr.loadAt 23 (.pointer (some ⟨xb, 1, none⟩))).run Tryz.prog w' = .ok (.slice Ak NK ck) w' := by go_simp
   refine runs_value rfl ?_ ⟨rfl, Below.refl _ _⟩
   rw [show b.eval (.tmp 16) = _ from e]
   exact hr
  | 5, _ =>
   obtain rfl := Option.some.inj ho
   have e : b.tmps.getD 17 undef = .slice Ak NK ck := hd 4 (by kernel_rfl) (by decide)
   have hr : (Builtin.len_ #[23] 3 #[.slice Ak NK ck]).run Tryz.prog w' = .ok (.int .i64 (NK : Int)) w' := by go_simp
   rw [← e] at hr
   exact runs_value (X := Builtin.len_ #[23] 3 #[b.tmps.getD 17 undef]) (by unfold execOp; simp [resolve, invoke, builtin, Act.eval]) hr ⟨rfl, Below.refl _ _⟩
  | 6, _ =>
   obtain rfl := Option.some.inj ho
   have e : b.tmps.getD 18 undef = .int .i64 (NK : Int) := hd 5 (by kernel_rfl) (by decide)
   refine runs_call rfl (fun _ _ => rfl) ?_
   show Calls _ _ #[b.tmps.getD 18 undef] w' _
   rw [e]
   exact (CE2.out w').mono fun e w'' h => by
    obtain ⟨z, h1, h2, h3⟩ := h
    exact (let ⟨A, c, e1, q1, q2, q3⟩ := own_rd (B := 0) h2; ⟨z, h1, ⟨A, c, e1, q1, q2, q3⟩, h3⟩)
  | n + 7, h => exact absurd h (by simp)
 intro vals w' hb hf
 have how : w'.ownsRow (xb + 1) 5 1 (vals 2) E1.length (E1.map bv) := hf 2 (by decide)
 obtain ⟨A2, c2, t2, hrd, -, -⟩ := hf 6 (by decide)
 obtain ⟨v1, hv1⟩ : ∃ v, v = vals 2 := ⟨_, rfl⟩
 rw [← hv1] at how
 simp only [puts, List.length_cons, List.length_nil, Nat.zero_add, Nat.reduceAdd, List.drop_succ_cons, List.drop_zero, t2, ← hv1]
 have hen : EnO W xb xc v1 E1 w' := ⟨H0.out.1.below hb H0.out.1.lt, how, H0.out.2.trans (hb.mono (Nat.le_of_lt H0.out.1.lt))⟩
 clear hf t2 hv1 CE1 CE2
 try go_frame
 refine wpList_append_ownB w' rfl (.tmp 15) (.tmp 19) rfl (xb + 1) v1 (E1) (E2) A2 c2 rfl rfl how hrd (by omega) (hen.big) ?_
 intro v2 w2 ho hgr
 have hst := hen.app ho hgr
 obtain ⟨E0, hE0⟩ : ∃ l, l = E1 ++ E2 := ⟨_, rfl⟩
 have nE0 : E0.length ≤ 18 := by rw [hE0, List.length_append]; omega
 rw [← hE0] at hst
 have H5 := Lib.hid hst
 have HE0 := Lib.hid hE0
 clear hen how hrd hb ho hgr hst hE0 H0
 go_wp2_with fail
 go_loopw [3, 4, 5, 6, 7] (fun u i a2 a3 a4 wr => ∃ (v : Value) (j : Nat) (L : List UInt8), u = v ∧ i = .int .i64 j ∧ j ≤ NK ∧ L = E0 ++ (kinds.take j).flatMap Sm.encKd ∧ L.length ≤ 100 + 130200 * j ∧ EnO W xb xc v L wr) (fun _ i _ _ _ _ => NK - (intOf i).toNat)
 case atStart => exact ⟨_, 0, E0, rfl, rfl, Nat.zero_le _, (List.append_nil _).symm, by omega, H5.out⟩
 case round =>
 clear H5
 obtain ⟨v, j, L, hv, rfl, hj, hL, hLs, hst⟩ := hrel
 replace hv := hv.symm
 subst hv
 have HL := Lib.hid hL
 clear hL
 obtain ⟨Wr, hWr⟩ : ∃ W, W = wr := ⟨_, rfl⟩
 rw [← hWr] at hst ⊢
 clear hWr
 have c1 := HX.out _ _ _ hst 1 _ rfl
 by_cases hlt : j < NK
 ·have hlt2 : j < kinds.length := by rw [← HZ.out.2.1]; exact hlt
  have hg : kinds[j]? = some kinds[j] := List.getElem?_eq_getElem hlt2
  have hft := M.flat_take Sm.encKd kinds j hlt2
  have hsk := HSS.out.1 _ (List.getElem_mem hlt2)
  obtain ⟨kd, hkd⟩ : ∃ k, k = kinds[j] := ⟨_, rfl⟩
  rw [← hkd] at hg hft hsk
  have hkl := Sm.encKd_le hsk
  have hbW : Below W.heap.size W Wr := HXB.out ▸ hst.2.2
  obtain ⟨kname, klo, khi, fields⟩ := kd
  obtain ⟨b, off, cs, hA, hbl, ⟨Af, cf, rfl, hrf, -⟩, hcell⟩ := (HR.out.1.keep (Keep.of hbW) fun _ _ k => KdC.keep k (Keep.of hbW)).at (by decide) (fun _ _ => KdC.size) j _ hg
  dsimp only at hcell hrf
  obtain ⟨NF, hNF⟩ : ∃ n, n = fields.length := ⟨_, rfl⟩
  rw [← hNF] at hcell
  have d0 : Wr.cell? ⟨b, off + j * 4, none⟩ = some (.string kname) := hcell 0 _ rfl
  have d1 := hcell 1 _ rfl
  have d2 := hcell 2 _ rfl
  have d3 := hcell 3 _ rfl
  have j1 : (j : Int) < NK := by omega
  have hkn := hsk.name
  have hkf := hsk.few
  have hkfs := hsk.fields
  dsimp only at hkn hkf hkfs
  rw [← hNF] at hkf
  have hI2 : ∀ n ∈ [klo, khi], M.I64 n := by
   have h1 := Sm.num_i64 hsk.lo
   have h2 := Sm.num_i64 hsk.hi
   intro n hn
   simp only [List.mem_cons, List.not_mem_nil, or_false] at hn
   rcases hn with rfl | rfl
   ·exact h1
   ·exact h2
  obtain ⟨B1, hB1⟩ : ∃ l, l = M.encB (sb kname) := ⟨_, rfl⟩
  obtain ⟨B2, hB2⟩ : ∃ l, l = M.encL M.encI [klo, khi] := ⟨_, rfl⟩
  obtain ⟨B3, hB3⟩ : ∃ l, l = M.encI (NF : Int) := ⟨_, rfl⟩
  have nB1 : B1.length ≤ 109 := by rw [hB1]; exact Sm.encB_le hkn
  have nB2 : B2.length ≤ 27 := by rw [hB2]; exact Sm.encK2_le hsk
  have nB3 : B3.length ≤ 9 := by rw [hB3]; exact Sm.encN_le (by omega)
  have cB1 := fun w => refBytes_any kname w (by omega)
  have cB2 := fun g w (hr : Blk w g ([klo, khi].map iv) 3) => refInts_any (some ⟨g, 0, none⟩) 2 [klo, khi] w (blk_rdE hr) (Nat.le_refl _) (by decide) (by show 2 ≤ 100000000; decide) hI2
  have cB3 := fun w => refInt_any (NF : Int) w (M.I64_nat NF (by omega))
  unfold IntPost at cB3
  simp only [← hB1] at cB1
  simp only [← hB2] at cB2
  simp only [← hB3] at cB3
  have hall : L ++ Sm.encKd ⟨kname, klo, khi, fields⟩ = L ++ B1 ++ B2 ++ B3 ++ fields.flatMap Sm.encFd := by
   unfold Sm.encKd Sm.encK1 Sm.encK2
   dsimp only
   rw [hB1, hB2, hB3, hNF]
   show _ = _
   unfold M.encL
   simp only [List.append_assoc]
  have hft2 : E0 ++ (kinds.take (j + 1)).flatMap Sm.encKd = L ++ Sm.encKd ⟨kname, klo, khi, fields⟩ := by rw [hft, HL.out, List.append_assoc]
  have hkb := Blk.new Wr [.string kname, .int .i64 klo, .int .i64 khi, .slice Af NF cf] 63
  have hna := hst.new (alloc_belowE Wr (.cells [.string kname, .int .i64 klo, .int .i64 khi, .slice Af NF cf].toArray 63))
  have hkx : xb < Wr.heap.size := hst.1.lt
  have HQ := Lib.hid (And.intro hft2 (And.intro hkl (And.intro hrf (And.intro hNF (And.intro hkfs (And.intro hall hbW))))))
  have CB1 := Lib.hid cB1
  have CB2 := Lib.hid cB2
  have CB3 := Lib.hid cB3
  rw [hA] at c1
  clear hft hft2 hrf hNF hkfs hkd hcell hg hsk hlt2 hst hkl hbW hA cB1 cB2 cB3 hB1 hB2 hB3 hall hI2
  go_upto_region 6 with fail
  clear d0 d1 d2 d3 c1
  obtain ⟨W2, hW2⟩ : ∃ W, W = Wr.alloc (.cells #[.string kname, .int .i64 klo, .int .i64 khi, .slice Af NF cf] 63) := ⟨_, rfl⟩
  have hW3 : W2 = Wr.alloc (.cells [.string kname, .int .i64 klo, .int .i64 khi, .slice Af NF cf].toArray 63) := hW2
  rw [← hW2]
  rw [← hW3] at hkb hna
  clear hW2 hW3
  obtain ⟨kb, hkbn⟩ : ∃ k, k = Wr.heap.size := ⟨_, rfl⟩
  rw [← hkbn] at hkb hkx ⊢
  clear hkbn
  have HN := Lib.hid (And.intro hna hkb)
  clear hna hkb
  refine wp_region_statelist [33, 34, 35, 36, 37, 38, 39, 40, 41, 42, 43] (fun d vals w' => EnJ (xb + 1) W2 v (L) (L ++ B1) (d 4) (vals 4) w') (fun w' w'' => w'.grownBy w'' v.ownBlock) [fun u _ => u = v, fun u _ => u = .pointer (some ⟨kb, 0, none⟩), fun u _ => u = .string kname, RowF v.ownBlock (B1), fun _ _ => True, fun u _ => u = .pointer (some ⟨kb, 1, none⟩), fun u _ => u = .int .i64 klo, fun u _ => u = .pointer (some ⟨kb, 2, none⟩), fun u _ => u = .int .i64 khi, BltF v.ownBlock ([klo, khi].map iv) 2 3, RowF v.ownBlock (B2)]
   (by
    intro f hf u w' w'' h hr
    simp only [List.mem_cons, List.not_mem_nil, or_false] at hf
    rcases hf with rfl | rfl | rfl | rfl | rfl | rfl | rfl | rfl | rfl | rfl | rfl
    all_goals first | exact h | exact RowF.grow h hr | exact BltF.grow h hr)
   (fun _ => ⟨Grow.drew _ _ _, by rw [if_neg (by decide)]; exact HN.out.1.2.1⟩) (by kernel_rfl) (by kernel_rfl) ?_ ?_
  ·intro y hy d vals b w' hJ hu hd hall hx o ho
   match y, hy with
   | 0, _ =>
    obtain rfl := Option.some.inj ho
    exact ⟨hx 3 rfl, Grow.refl _ _, hJ⟩
   | 1, _ =>
    obtain rfl := Option.some.inj ho
    have e : b.tmps.getD 5 undef = .pointer (some ⟨kb, 0, none⟩) := hx 5 rfl
    have hr : (Instr.fieldAt 63 (.pointer (some ⟨kb, 0, none⟩)) 0).run Tryz.prog w' = .ok (.pointer (some ⟨kb, 0, none⟩)) w' := by go_simp
    refine runs_value rfl ?_ ⟨rfl, Grow.refl _ _, hJ⟩
    rw [show b.eval (.tmp 5) = _ from e]
    exact hr
   | 2, _ =>
    obtain rfl := Option.some.inj ho
    have e : b.tmps.getD 34 undef = .pointer (some ⟨kb, 0, none⟩) := (hd 1 (by kernel_rfl) (by decide)).2
    have hc : w'.cell? ⟨kb, 0, none⟩ = some (.string kname) := ((HN.out.2.growO HN.out.1.2.1 (by decide) hJ.1).cell 0 _ rfl)
    have hr : (Instr.loadAt 9 (.pointer (some ⟨kb, 0, none⟩))).run Tryz.prog w' = .ok (.string kname) w' := by go_simp
    refine runs_value rfl ?_ ⟨rfl, Grow.refl _ _, hJ⟩
    rw [show b.eval (.tmp 34) = _ from e]
    exact hr
   | 3, _ =>
    obtain rfl := Option.some.inj ho
    have e : b.tmps.getD 35 undef = .string kname := (hd 2 (by kernel_rfl) (by decide)).2
    refine runs_call rfl (fun _ _ => rfl) ?_
    show Calls _ _ #[b.tmps.getD 35 undef] w' _
    rw [e]
    exact (CB1.out w').mono fun e w'' h => by
     obtain ⟨z, h1, h2, h3⟩ := h
     exact ⟨z, h1, RowF.own h2 fun k hk => Nat.lt_of_lt_of_le (HN.out.1.old k hk) hJ.1.size, Grow.below h3 _, hJ.new h3⟩
   | 4, _ =>
    obtain rfl := Option.some.inj ho
    have hu : d 4 = false := hu
    have e1 : b.tmps.getD 33 undef = v := (hd 0 (by kernel_rfl) (by decide)).2
    obtain ⟨A1, c1, ex, hrd⟩ := ((hd 3 (by kernel_rfl) (by decide)).2 : RowF _ _ _ _).rd
    have e2 : b.tmps.getD 36 undef = .slice A1 _ c1 := ex
    have how := hJ.2
    rw [hu, if_neg (by decide)] at how
    obtain ⟨z, w'', hrun, ho, hgr⟩ := run_append_ownB w' 35 (xb + 1) v _ _ A1 c1 how hrd (by omega) (Nat.le_trans HN.out.1.big hJ.1.size)
    refine runs_value (X := Builtin.append_ #[35, 35] 35 #[b.tmps.getD 33 undef, b.tmps.getD 36 undef]) (by unfold execOp; simp [resolve, invoke, builtin, Act.eval]) (by rw [e1, e2]; exact hrun) ⟨trivial, hgr, Grow.trans hJ.1 hgr, by rw [if_pos (by first | rfl | simp)]; exact ho⟩
   | 5, _ =>
    obtain rfl := Option.some.inj ho
    have e : b.tmps.getD 5 undef = .pointer (some ⟨kb, 0, none⟩) := hx 5 rfl
    have hr : (Instr.fieldAt 63 (.pointer (some ⟨kb, 0, none⟩)) 1).run Tryz.prog w' = .ok (.pointer (some ⟨kb, 1, none⟩)) w' := by go_simp
    refine runs_value rfl ?_ ⟨rfl, Grow.refl _ _, hJ⟩
    rw [show b.eval (.tmp 5) = _ from e]
    exact hr
   | 6, _ =>
    obtain rfl := Option.some.inj ho
    have e : b.tmps.getD 38 undef = .pointer (some ⟨kb, 1, none⟩) := (hd 5 (by kernel_rfl) (by decide)).2
    have hc : w'.cell? ⟨kb, 1, none⟩ = some (.int .i64 klo) := ((HN.out.2.growO HN.out.1.2.1 (by decide) hJ.1).cell 1 _ rfl)
    have hr : (Instr.loadAt 3 (.pointer (some ⟨kb, 1, none⟩))).run Tryz.prog w' = .ok (.int .i64 klo) w' := by go_simp
    refine runs_value rfl ?_ ⟨rfl, Grow.refl _ _, hJ⟩
    rw [show b.eval (.tmp 38) = _ from e]
    exact hr
   | 7, _ =>
    obtain rfl := Option.some.inj ho
    have e : b.tmps.getD 5 undef = .pointer (some ⟨kb, 0, none⟩) := hx 5 rfl
    have hr : (Instr.fieldAt 63 (.pointer (some ⟨kb, 0, none⟩)) 2).run Tryz.prog w' = .ok (.pointer (some ⟨kb, 2, none⟩)) w' := by go_simp
    refine runs_value rfl ?_ ⟨rfl, Grow.refl _ _, hJ⟩
    rw [show b.eval (.tmp 5) = _ from e]
    exact hr
   | 8, _ =>
    obtain rfl := Option.some.inj ho
    have e : b.tmps.getD 40 undef = .pointer (some ⟨kb, 2, none⟩) := (hd 7 (by kernel_rfl) (by decide)).2
    have hc : w'.cell? ⟨kb, 2, none⟩ = some (.int .i64 khi) := ((HN.out.2.growO HN.out.1.2.1 (by decide) hJ.1).cell 2 _ rfl)
    have hr : (Instr.loadAt 3 (.pointer (some ⟨kb, 2, none⟩))).run Tryz.prog w' = .ok (.int .i64 khi) w' := by go_simp
    refine runs_value rfl ?_ ⟨rfl, Grow.refl _ _, hJ⟩
    rw [show b.eval (.tmp 40) = _ from e]
    exact hr
   | 9, _ =>
    obtain rfl := Option.some.inj ho
    have e0 : b.tmps.getD 39 undef = .int .i64 klo := (hd 6 (by kernel_rfl) (by decide)).2
    have e1 : b.tmps.getD 41 undef = .int .i64 khi := (hd 8 (by kernel_rfl) (by decide)).2
    have hbs : (Instr.buildSlice 22 2 #[(0, .int .i64 klo), (1, .int .i64 khi)]).run Tryz.prog w' = .ok (.slice (some ⟨w'.heap.size, 0, none⟩) 2 2) (w'.alloc (.cells #[.int .i64 klo, .int .i64 khi] 3)) := by go_simp
    rw [← e0, ← e1] at hbs
    have hbel := alloc_belowE w' (.cells #[.int .i64 klo, .int .i64 khi] 3)
    have hblk : Blk (w'.alloc (.cells #[.int .i64 klo, .int .i64 khi] 3)) w'.heap.size ([klo, khi].map iv) 3 := Blk.new w' ([klo, khi].map iv) _
    rw [← e0, ← e1] at hbel hblk
    refine runs_value (X := Instr.buildSlice 22 2 #[(0, b.tmps.getD 39 undef), (1, b.tmps.getD 41 undef)]) (by unfold execOp; simp [Act.eval]) hbs ⟨⟨w'.heap.size, rfl, hblk, fun x => ?_⟩, Grow.below hbel _, hJ.new hbel⟩
    exact absurd (Nat.lt_of_lt_of_le (HN.out.1.old _ x.symm) hJ.1.size) (Nat.lt_irrefl _)
   | 10, _ =>
    obtain rfl := Option.some.inj ho
    obtain ⟨g1, ex, hgb, -⟩ := (hd 9 (by kernel_rfl) (by decide)).2
    have e : b.tmps.getD 42 undef = .slice (some ⟨g1, 0, none⟩) _ _ := ex
    refine runs_call rfl (fun _ _ => rfl) ?_
    show Calls _ _ #[b.tmps.getD 42 undef] w' _
    rw [e]
    exact (CB2.out g1 w' hgb).mono fun e w'' h => by
     obtain ⟨z, h1, h2, h3⟩ := h
     exact ⟨z, h1, RowF.own h2 fun k hk => Nat.lt_of_lt_of_le (HN.out.1.old k hk) hJ.1.size, Grow.below h3 _, hJ.new h3⟩
   | n + 11, h => exact absurd h (by simp)
  intro d vals w' hJ hall hf
  have hk : d 4 = true := hall 4 (by decide)
  rw [hk] at hJ
  obtain ⟨A2, c2, t2, hrd⟩ := (hf 10 (by decide) : RowF _ _ _ _).rd
  have how := hJ.2
  rw [if_pos rfl] at how
  obtain ⟨v1, hv1⟩ : ∃ v, v = vals 4 := ⟨_, rfl⟩
  rw [← hv1] at how hJ
  simp only [puts, List.length_cons, List.length_nil, Nat.zero_add, Nat.reduceAdd, List.drop_succ_cons, List.drop_zero, t2, ← hv1]
  have h1 := HN.out.1.app how hJ.1
  have k1 := HN.out.2.growO HN.out.1.2.1 (by decide) hJ.1
  have n1 : (L ++ B1).length ≤ L.length + 109 := by rw [List.length_append]; omega
  clear t2 hf hall hJ hv1 hk CB1 CB2
  try go_frame
  refine wpList_append_ownB w' rfl (.tmp 37) (.tmp 43) rfl (xb + 1) v1 (L ++ B1) (B2) A2 c2 rfl rfl how hrd (by omega) (h1.big) ?_
  intro v2 w2 ho hgr
  have h2 := h1.app ho hgr
  have k2 := k1.growO h1.2.1 (by decide) hgr
  have n2 : (L ++ B1 ++ B2).length ≤ L.length + 136 := by rw [List.length_append]; omega
  have c3 := k2.cell 3 _ rfl
  have CB3w := Lib.hid (CB3.out w2)
  clear how hrd ho hgr h1 k1 HN CB3 n1
  have HN := Lib.hid (And.intro h2 k2)
  clear h2 k2
  go_wp2_with fail
  refine CB3w.out.mono ?_
  rintro e w3 ⟨v3, rfl, hown, hb3⟩
  obtain ⟨A3, c3', rfl, hr3, -, -⟩ := own_rd (B := 0) hown
  have h3 := HN.out.1.new hb3
  have k3 := HN.out.2.below hb3 HN.out.2.lt
  clear CB3w c3 hown
  have H3 := Lib.hid (And.intro h3 (And.intro k3 hr3))
  clear h3 k3 hr3 hb3 HN
  go_wp2_with (at_builtin; refine wpList_append_ownB _ rfl (.tmp 45) (.tmp 49) rfl (xb + 1) v2 (L ++ B1 ++ B2) B3 A3 c3' rfl rfl H3.out.1.2.1 H3.out.2.2 (by omega) H3.out.1.big ?_; intro v4 w4 ho hgr; have HA := Lib.hid (And.intro ho hgr); clear ho hgr)
  have h4 := H3.out.1.app HA.out.1 HA.out.2
  have k4 := H3.out.2.1.growO H3.out.1.2.1 (by decide) HA.out.2
  obtain ⟨L4, hL4⟩ : ∃ l, l = L ++ B1 ++ B2 ++ B3 := ⟨_, rfl⟩
  have n4 : L4.length ≤ L.length + 145 := by rw [hL4, List.length_append]; omega
  rw [← hL4] at h4
  have HL4 := Lib.hid hL4
  have H4 := Lib.hid (And.intro h4 k4)
  clear h4 k4 hL4 HA H3 n2
  go_loopw [3, 6, 7] (fun u i a2 wr => ∃ (v : Value) (m : Nat) (P : List UInt8), u = v ∧ i = .int .i64 m ∧ m ≤ NF ∧ P = L4 ++ (fields.take m).flatMap Sm.encFd ∧ P.length ≤ L.length + 145 + 13000 * m ∧ EnO W xb xc v P wr ∧ Blk wr kb [.string kname, .int .i64 klo, .int .i64 khi, .slice Af NF cf] 63) (fun _ i _ _ => NF - (intOf i).toNat)
  case atStart => exact ⟨_, 0, L4, rfl, rfl, Nat.zero_le _, (List.append_nil _).symm, by omega, H4.out.1, H4.out.2⟩
  case round =>
  clear H4
  obtain ⟨vf, m, P, hv, rfl, hm, hP, hPs, hst, hkb⟩ := hrel
  replace hv := hv.symm
  subst hv
  have HP := Lib.hid hP
  clear hP
  obtain ⟨Wf, hWf⟩ : ∃ W, W = wr := ⟨_, rfl⟩
  rw [← hWf] at hst hkb ⊢
  clear hWf
  have c3 := hkb.cell 3 _ rfl
  by_cases hlt3 : m < NF
  ·have hlt4 : m < fields.length := by rw [← HQ.out.2.2.2.1]; exact hlt3
   have hg : fields[m]? = some fields[m] := List.getElem?_eq_getElem hlt4
   have hft := M.flat_take Sm.encFd fields m hlt4
   have hsf := HQ.out.2.2.2.2.1 _ (List.getElem_mem hlt4)
   obtain ⟨f, hf⟩ : ∃ f, f = fields[m] := ⟨_, rfl⟩
   rw [← hf] at hg hft hsf
   have hpl := Sm.encFd_le hsf
   have hbW : Below W.heap.size W Wf := HXB.out ▸ hst.2.2
   have hkp : Keep W.heap.size Wr Wf := fun p hp => (hbW.cell hp).trans (HQ.out.2.2.2.2.2.2.cell hp).symm
   obtain ⟨bf, of, cs, hA, hbl2, ⟨Aw, cw, Ag, cg, rfl, r1, r2, hcw, hcw2, hcg, hcg2⟩, hcell⟩ := (HQ.out.2.2.1.keep hkp fun _ _ k => FdC.keep k hkp).at (by decide) (fun _ _ => FdC.size) m f hg
   have d0 : Wf.cell? ⟨bf, of + m * 8, none⟩ = some (.string f.name) := hcell 0 _ rfl
   have d1 := hcell 1 _ rfl
   have d2 := hcell 2 _ rfl
   have d3 := hcell 3 _ rfl
   have d4 := hcell 4 _ rfl
   have d5 := hcell 5 _ rfl
   have d6 := hcell 6 _ rfl
   have d7 := hcell 7 _ rfl
   have hI3 : ∀ n ∈ [f.kind, f.lo, f.hi], M.I64 n := by
    intro n hn
    simp only [List.mem_cons, List.not_mem_nil, or_false] at hn
    rcases hn with rfl | rfl | rfl
    ·exact Sm.num_i64 hsf.kind
    ·exact Sm.num_i64 hsf.lo
    ·exact Sm.num_i64 hsf.hi
   obtain ⟨B1, hB1⟩ : ∃ l, l = M.encL encS [f.name, f.of, f.up] := ⟨_, rfl⟩
   obtain ⟨B2, hB2⟩ : ∃ l, l = M.encL M.encI [f.kind, f.lo, f.hi] := ⟨_, rfl⟩
   obtain ⟨B3, hB3⟩ : ∃ l, l = M.encL encS f.words := ⟨_, rfl⟩
   obtain ⟨B4, hB4⟩ : ∃ l, l = M.encL M.encI f.weights := ⟨_, rfl⟩
   have hall : Sm.encFd f = B1 ++ B2 ++ B3 ++ B4 := by rw [hB1, hB2, hB3, hB4]; rfl
   have hsum : B1.length + B2.length + B3.length + B4.length ≤ 13000 := by rw [hall] at hpl; simp only [List.length_append] at hpl; omega
   have hs3 : ∀ s ∈ [f.name, f.of, f.up], s.size ≤ 100 := by
    intro s hs
    simp only [List.mem_cons, List.not_mem_nil, or_false] at hs
    rcases hs with rfl | rfl | rfl
    ·exact hsf.name
    ·exact hsf.of
    ·exact hsf.up
   have hfl3 := Sm.flat_le encS 109 [f.name, f.of, f.up] fun a ha => Sm.encS_le (hs3 a ha)
   have hflw := Sm.flat_le encS 109 f.words fun a ha => Sm.encS_le (hsf.words a ha)
   have hfw := hsf.few
   have hfg := hsf.fewg
   have hflw2 : (f.words.flatMap encS).length ≤ 900000000 := Nat.le_trans hflw (by have := Nat.mul_le_mul_left 109 hfw; omega)
   have cB1 := fun g w (hr : Blk w g ([f.name, f.of, f.up].map sv) 9) => refStrings_any (some ⟨g, 0, none⟩) 3 [f.name, f.of, f.up] w (blk_rdE hr) (Nat.le_refl _) (by decide) (Nat.le_trans hfl3 (by show 109 * 3 ≤ 900000000; decide)) (by show 3 ≤ 900000000; decide)
   have cB2 := fun g w (hr : Blk w g ([f.kind, f.lo, f.hi].map iv) 3) => refInts_any (some ⟨g, 0, none⟩) 3 [f.kind, f.lo, f.hi] w (blk_rdE hr) (Nat.le_refl _) (by decide) (by show 3 ≤ 100000000; decide) hI3
   have cB3 := fun w (hr : Rd w w.heap.size Aw (f.words.map sv)) => refStrings_any Aw cw f.words w hr hcw hcw2 hflw2 (by omega)
   have cB4 := fun w (hr : Rd w w.heap.size Ag (f.weights.map iv)) => refInts_any Ag cg f.weights w hr hcg hcg2 (by omega) fun n hn => Sm.num_i64 (hsf.weights n hn)
   simp only [← hB1] at cB1
   simp only [← hB2] at cB2
   simp only [← hB3] at cB3
   simp only [← hB4] at cB4
   have hnx : P ++ B1 ++ B2 ++ B3 ++ B4 = L4 ++ (fields.take (m + 1)).flatMap Sm.encFd := by rw [hft, HP.out, hall]; simp only [List.append_assoc]
   have hxl : (P ++ B1 ++ B2 ++ B3 ++ B4).length ≤ P.length + 13000 := by simp only [List.length_append]; omega
   have hbx : Below xb W Wf := hst.2.2
   have rw1 : ∀ w, Below xb Wf w → Rd w w.heap.size Aw (f.words.map sv) := fun w hw => ((r1.below (HXB.out ▸ hw)).more (HXB.out ▸ Nat.le_trans (Nat.le_of_lt hst.1.lt) hw.size))
   have rw2 : ∀ w, Below xb Wf w → Rd w w.heap.size Ag (f.weights.map iv) := fun w hw => ((r2.below (HXB.out ▸ hw)).more (HXB.out ▸ Nat.le_trans (Nat.le_of_lt hst.1.lt) hw.size))
   obtain ⟨nw, hnw⟩ : ∃ n, n = f.words.length := ⟨_, rfl⟩
   obtain ⟨ng, hng⟩ : ∃ n, n = f.weights.length := ⟨_, rfl⟩
   simp only [← hnw] at cB3
   simp only [← hng] at cB4
   rw [← hnw] at d6
   rw [← hng] at d7
   obtain ⟨fn, fo, fu, fk, flo, fhi, fws, fgs⟩ := f
   dsimp only at d0 d1 d2 d3 d4 d5 cB1 cB2
   have hfb := Blk.new Wf [.string fn, .string fo, .string fu, .int .i64 fk, .int .i64 flo, .int .i64 fhi, .slice Aw nw cw, .slice Ag ng cg] 74
   have hna := hst.new (alloc_belowE Wf (.cells [.string fn, .string fo, .string fu, .int .i64 fk, .int .i64 flo, .int .i64 fhi, .slice Aw nw cw, .slice Ag ng cg].toArray 74))
   have hka := hkb.alloc (.cells [.string fn, .string fo, .string fu, .int .i64 fk, .int .i64 flo, .int .i64 fhi, .slice Aw nw cw, .slice Ag ng cg].toArray 74)
   have hbn : Below xb Wf (Wf.alloc (.cells [.string fn, .string fo, .string fu, .int .i64 fk, .int .i64 flo, .int .i64 fhi, .slice Aw nw cw, .slice Ag ng cg].toArray 74)) := (alloc_belowE _ _).mono (Nat.le_of_lt hst.1.lt)
   have j2 : (m : Int) < NF := by omega
   have HK := Lib.hid (And.intro hnx (And.intro hxl (And.intro rw1 rw2)))
   have CB1 := Lib.hid cB1
   have CB2 := Lib.hid cB2
   have CB3 := Lib.hid cB3
   have CB4 := Lib.hid cB4
   have HSUM := Lib.hid hsum
   rw [hA] at c3
   clear hft hg hf hsf hlt4 hpl hbW hkp hcell r1 r2 hcw hcw2 hcg hcg2 hI3 hB1 hB2 hB3 hB4 hall hs3 hfl3 hflw hflw2 cB1 cB2 cB3 cB4 hnx hxl hbx rw1 rw2 hnw hng hst hkb hA hfw hfg
   go_upto_region 12 with fail
   clear d0 d1 d2 d3 d4 d5 d6 d7 c3
   obtain ⟨W2, hW2⟩ : ∃ W, W = Wf.alloc (.cells #[.string fn, .string fo, .string fu, .int .i64 fk, .int .i64 flo, .int .i64 fhi, .slice Aw nw cw, .slice Ag ng cg] 74) := ⟨_, rfl⟩
   have hW3 : W2 = Wf.alloc (.cells [.string fn, .string fo, .string fu, .int .i64 fk, .int .i64 flo, .int .i64 fhi, .slice Aw nw cw, .slice Ag ng cg].toArray 74) := hW2
   rw [← hW2]
   rw [← hW3] at hfb hna hka hbn
   clear hW2 hW3
   obtain ⟨fb, hfbn⟩ : ∃ k, k = Wf.heap.size := ⟨_, rfl⟩
   rw [← hfbn] at hfb ⊢
   clear hfbn
   have HN := Lib.hid (And.intro hna (And.intro hfb (And.intro hka hbn)))
   have hS1 := HSUM.out
   clear hna hfb hka hbn
   refine wp_region_statelist [63, 64, 65, 66, 67, 68, 69, 70, 71, 72, 73, 74, 75, 76, 77, 78, 79, 80] (fun d vals w' => EnJ (xb + 1) W2 vf (P) (P ++ B1) (d 9) (vals 9) w') (fun w' w'' => w'.grownBy w'' vf.ownBlock) [fun u _ => u = vf, fun u _ => u = .pointer (some ⟨fb, 0, none⟩), fun u _ => u = .string fn, fun u _ => u = .pointer (some ⟨fb, 1, none⟩), fun u _ => u = .string fo, fun u _ => u = .pointer (some ⟨fb, 2, none⟩), fun u _ => u = .string fu, BltF vf.ownBlock ([fn, fo, fu].map sv) 3 9, RowF vf.ownBlock (B1), fun _ _ => True, fun u _ => u = .pointer (some ⟨fb, 3, none⟩), fun u _ => u = .int .i64 fk, fun u _ => u = .pointer (some ⟨fb, 4, none⟩), fun u _ => u = .int .i64 flo, fun u _ => u = .pointer (some ⟨fb, 5, none⟩), fun u _ => u = .int .i64 fhi, BltF vf.ownBlock ([fk, flo, fhi].map iv) 3 3, RowF vf.ownBlock (B2)]
    (by
     intro f hf u w' w'' h hr
     simp only [List.mem_cons, List.not_mem_nil, or_false] at hf
     rcases hf with rfl | rfl | rfl | rfl | rfl | rfl | rfl | rfl | rfl | rfl | rfl | rfl | rfl | rfl | rfl | rfl | rfl | rfl
     all_goals first | exact h | exact RowF.grow h hr | exact BltF.grow h hr)
    (fun _ => ⟨Grow.drew _ _ _, by rw [if_neg (by decide)]; exact HN.out.1.2.1⟩) (by kernel_rfl) (by kernel_rfl) ?_ ?_
   ·intro y hy d vals b w' hJ hu hd hall hx o ho
    match y, hy with
    | 0, _ =>
     obtain rfl := Option.some.inj ho
     exact ⟨hx 3 rfl, Grow.refl _ _, hJ⟩
    | 1, _ =>
     obtain rfl := Option.some.inj ho
     have e : b.tmps.getD 7 undef = .pointer (some ⟨fb, 0, none⟩) := hx 7 rfl
     have hr : (Instr.fieldAt 74 (.pointer (some ⟨fb, 0, none⟩)) 0).run Tryz.prog w' = .ok (.pointer (some ⟨fb, 0, none⟩)) w' := by go_simp
     refine runs_value rfl ?_ ⟨rfl, Grow.refl _ _, hJ⟩
     rw [show b.eval (.tmp 7) = _ from e]
     exact hr
    | 2, _ =>
     obtain rfl := Option.some.inj ho
     have e : b.tmps.getD 64 undef = .pointer (some ⟨fb, 0, none⟩) := (hd 1 (by kernel_rfl) (by decide)).2
     have hc : w'.cell? ⟨fb, 0, none⟩ = some (.string fn) := ((HN.out.2.1.growO HN.out.1.2.1 (by decide) hJ.1).cell 0 _ rfl)
     have hr : (Instr.loadAt 9 (.pointer (some ⟨fb, 0, none⟩))).run Tryz.prog w' = .ok (.string fn) w' := by go_simp
     refine runs_value rfl ?_ ⟨rfl, Grow.refl _ _, hJ⟩
     rw [show b.eval (.tmp 64) = _ from e]
     exact hr
    | 3, _ =>
     obtain rfl := Option.some.inj ho
     have e : b.tmps.getD 7 undef = .pointer (some ⟨fb, 0, none⟩) := hx 7 rfl
     have hr : (Instr.fieldAt 74 (.pointer (some ⟨fb, 0, none⟩)) 1).run Tryz.prog w' = .ok (.pointer (some ⟨fb, 1, none⟩)) w' := by go_simp
     refine runs_value rfl ?_ ⟨rfl, Grow.refl _ _, hJ⟩
     rw [show b.eval (.tmp 7) = _ from e]
     exact hr
    | 4, _ =>
     obtain rfl := Option.some.inj ho
     have e : b.tmps.getD 66 undef = .pointer (some ⟨fb, 1, none⟩) := (hd 3 (by kernel_rfl) (by decide)).2
     have hc : w'.cell? ⟨fb, 1, none⟩ = some (.string fo) := ((HN.out.2.1.growO HN.out.1.2.1 (by decide) hJ.1).cell 1 _ rfl)
     have hr : (Instr.loadAt 9 (.pointer (some ⟨fb, 1, none⟩))).run Tryz.prog w' = .ok (.string fo) w' := by go_simp
     refine runs_value rfl ?_ ⟨rfl, Grow.refl _ _, hJ⟩
     rw [show b.eval (.tmp 66) = _ from e]
     exact hr
    | 5, _ =>
     obtain rfl := Option.some.inj ho
     have e : b.tmps.getD 7 undef = .pointer (some ⟨fb, 0, none⟩) := hx 7 rfl
     have hr : (Instr.fieldAt 74 (.pointer (some ⟨fb, 0, none⟩)) 2).run Tryz.prog w' = .ok (.pointer (some ⟨fb, 2, none⟩)) w' := by go_simp
     refine runs_value rfl ?_ ⟨rfl, Grow.refl _ _, hJ⟩
     rw [show b.eval (.tmp 7) = _ from e]
     exact hr
    | 6, _ =>
     obtain rfl := Option.some.inj ho
     have e : b.tmps.getD 68 undef = .pointer (some ⟨fb, 2, none⟩) := (hd 5 (by kernel_rfl) (by decide)).2
     have hc : w'.cell? ⟨fb, 2, none⟩ = some (.string fu) := ((HN.out.2.1.growO HN.out.1.2.1 (by decide) hJ.1).cell 2 _ rfl)
     have hr : (Instr.loadAt 9 (.pointer (some ⟨fb, 2, none⟩))).run Tryz.prog w' = .ok (.string fu) w' := by go_simp
     refine runs_value rfl ?_ ⟨rfl, Grow.refl _ _, hJ⟩
     rw [show b.eval (.tmp 68) = _ from e]
     exact hr
    | 7, _ =>
     obtain rfl := Option.some.inj ho
     have e0 : b.tmps.getD 65 undef = .string fn := (hd 2 (by kernel_rfl) (by decide)).2
     have e1 : b.tmps.getD 67 undef = .string fo := (hd 4 (by kernel_rfl) (by decide)).2
     have e2 : b.tmps.getD 69 undef = .string fu := (hd 6 (by kernel_rfl) (by decide)).2
     have hbs : (Instr.buildSlice 45 3 #[(0, .string fn), (1, .string fo), (2, .string fu)]).run Tryz.prog w' = .ok (.slice (some ⟨w'.heap.size, 0, none⟩) 3 3) (w'.alloc (.cells #[.string fn, .string fo, .string fu] 9)) := by go_simp
     rw [← e0, ← e1, ← e2] at hbs
     have hbel := alloc_belowE w' (.cells #[.string fn, .string fo, .string fu] 9)
     have hblk : Blk (w'.alloc (.cells #[.string fn, .string fo, .string fu] 9)) w'.heap.size ([fn, fo, fu].map sv) 9 := Blk.new w' ([fn, fo, fu].map sv) _
     rw [← e0, ← e1, ← e2] at hbel hblk
     refine runs_value (X := Instr.buildSlice 45 3 #[(0, b.tmps.getD 65 undef), (1, b.tmps.getD 67 undef), (2, b.tmps.getD 69 undef)]) (by unfold execOp; simp [Act.eval]) hbs ⟨⟨w'.heap.size, rfl, hblk, fun x => ?_⟩, Grow.below hbel _, hJ.new hbel⟩
     exact absurd (Nat.lt_of_lt_of_le (HN.out.1.old _ x.symm) hJ.1.size) (Nat.lt_irrefl _)
    | 8, _ =>
     obtain rfl := Option.some.inj ho
     obtain ⟨g1, ex, hgb, -⟩ := (hd 7 (by kernel_rfl) (by decide)).2
     have e : b.tmps.getD 70 undef = .slice (some ⟨g1, 0, none⟩) _ _ := ex
     refine runs_call rfl (fun _ _ => rfl) ?_
     show Calls _ _ #[b.tmps.getD 70 undef] w' _
     rw [e]
     exact (CB1.out g1 w' hgb).mono fun e w'' h => by
      obtain ⟨z, h1, h2, h3⟩ := h
      exact ⟨z, h1, RowF.own h2 fun k hk => Nat.lt_of_lt_of_le (HN.out.1.old k hk) hJ.1.size, Grow.below h3 _, hJ.new h3⟩
    | 9, _ =>
     obtain rfl := Option.some.inj ho
     have hu : d 9 = false := hu
     have e1 : b.tmps.getD 63 undef = vf := (hd 0 (by kernel_rfl) (by decide)).2
     obtain ⟨A1, c1, ex, hrd⟩ := ((hd 8 (by kernel_rfl) (by decide)).2 : RowF _ _ _ _).rd
     have e2 : b.tmps.getD 71 undef = .slice A1 _ c1 := ex
     have how := hJ.2
     rw [hu, if_neg (by decide)] at how
     obtain ⟨z, w'', hrun, ho, hgr⟩ := run_append_ownB w' 35 (xb + 1) vf _ _ A1 c1 how hrd (by omega) (Nat.le_trans HN.out.1.big hJ.1.size)
     refine runs_value (X := Builtin.append_ #[35, 35] 35 #[b.tmps.getD 63 undef, b.tmps.getD 71 undef]) (by unfold execOp; simp [resolve, invoke, builtin, Act.eval]) (by rw [e1, e2]; exact hrun) ⟨trivial, hgr, Grow.trans hJ.1 hgr, by rw [if_pos (by first | rfl | simp)]; exact ho⟩
    | 10, _ =>
     obtain rfl := Option.some.inj ho
     have e : b.tmps.getD 7 undef = .pointer (some ⟨fb, 0, none⟩) := hx 7 rfl
     have hr : (Instr.fieldAt 74 (.pointer (some ⟨fb, 0, none⟩)) 3).run Tryz.prog w' = .ok (.pointer (some ⟨fb, 3, none⟩)) w' := by go_simp
     refine runs_value rfl ?_ ⟨rfl, Grow.refl _ _, hJ⟩
     rw [show b.eval (.tmp 7) = _ from e]
     exact hr
    | 11, _ =>
     obtain rfl := Option.some.inj ho
     have e : b.tmps.getD 73 undef = .pointer (some ⟨fb, 3, none⟩) := (hd 10 (by kernel_rfl) (by decide)).2
     have hc : w'.cell? ⟨fb, 3, none⟩ = some (.int .i64 fk) := ((HN.out.2.1.growO HN.out.1.2.1 (by decide) hJ.1).cell 3 _ rfl)
     have hr : (Instr.loadAt 3 (.pointer (some ⟨fb, 3, none⟩))).run Tryz.prog w' = .ok (.int .i64 fk) w' := by go_simp
     refine runs_value rfl ?_ ⟨rfl, Grow.refl _ _, hJ⟩
     rw [show b.eval (.tmp 73) = _ from e]
     exact hr
    | 12, _ =>
     obtain rfl := Option.some.inj ho
     have e : b.tmps.getD 7 undef = .pointer (some ⟨fb, 0, none⟩) := hx 7 rfl
     have hr : (Instr.fieldAt 74 (.pointer (some ⟨fb, 0, none⟩)) 4).run Tryz.prog w' = .ok (.pointer (some ⟨fb, 4, none⟩)) w' := by go_simp
     refine runs_value rfl ?_ ⟨rfl, Grow.refl _ _, hJ⟩
     rw [show b.eval (.tmp 7) = _ from e]
     exact hr
    | 13, _ =>
     obtain rfl := Option.some.inj ho
     have e : b.tmps.getD 75 undef = .pointer (some ⟨fb, 4, none⟩) := (hd 12 (by kernel_rfl) (by decide)).2
     have hc : w'.cell? ⟨fb, 4, none⟩ = some (.int .i64 flo) := ((HN.out.2.1.growO HN.out.1.2.1 (by decide) hJ.1).cell 4 _ rfl)
     have hr : (Instr.loadAt 3 (.pointer (some ⟨fb, 4, none⟩))).run Tryz.prog w' = .ok (.int .i64 flo) w' := by go_simp
     refine runs_value rfl ?_ ⟨rfl, Grow.refl _ _, hJ⟩
     rw [show b.eval (.tmp 75) = _ from e]
     exact hr
    | 14, _ =>
     obtain rfl := Option.some.inj ho
     have e : b.tmps.getD 7 undef = .pointer (some ⟨fb, 0, none⟩) := hx 7 rfl
     have hr : (Instr.fieldAt 74 (.pointer (some ⟨fb, 0, none⟩)) 5).run Tryz.prog w' = .ok (.pointer (some ⟨fb, 5, none⟩)) w' := by go_simp
     refine runs_value rfl ?_ ⟨rfl, Grow.refl _ _, hJ⟩
     rw [show b.eval (.tmp 7) = _ from e]
     exact hr
    | 15, _ =>
     obtain rfl := Option.some.inj ho
     have e : b.tmps.getD 77 undef = .pointer (some ⟨fb, 5, none⟩) := (hd 14 (by kernel_rfl) (by decide)).2
     have hc : w'.cell? ⟨fb, 5, none⟩ = some (.int .i64 fhi) := ((HN.out.2.1.growO HN.out.1.2.1 (by decide) hJ.1).cell 5 _ rfl)
     have hr : (Instr.loadAt 3 (.pointer (some ⟨fb, 5, none⟩))).run Tryz.prog w' = .ok (.int .i64 fhi) w' := by go_simp
     refine runs_value rfl ?_ ⟨rfl, Grow.refl _ _, hJ⟩
     rw [show b.eval (.tmp 77) = _ from e]
     exact hr
    | 16, _ =>
     obtain rfl := Option.some.inj ho
     have e0 : b.tmps.getD 74 undef = .int .i64 fk := (hd 11 (by kernel_rfl) (by decide)).2
     have e1 : b.tmps.getD 76 undef = .int .i64 flo := (hd 13 (by kernel_rfl) (by decide)).2
     have e2 : b.tmps.getD 78 undef = .int .i64 fhi := (hd 15 (by kernel_rfl) (by decide)).2
     have hbs : (Instr.buildSlice 22 3 #[(0, .int .i64 fk), (1, .int .i64 flo), (2, .int .i64 fhi)]).run Tryz.prog w' = .ok (.slice (some ⟨w'.heap.size, 0, none⟩) 3 3) (w'.alloc (.cells #[.int .i64 fk, .int .i64 flo, .int .i64 fhi] 3)) := by go_simp
     rw [← e0, ← e1, ← e2] at hbs
     have hbel := alloc_belowE w' (.cells #[.int .i64 fk, .int .i64 flo, .int .i64 fhi] 3)
     have hblk : Blk (w'.alloc (.cells #[.int .i64 fk, .int .i64 flo, .int .i64 fhi] 3)) w'.heap.size ([fk, flo, fhi].map iv) 3 := Blk.new w' ([fk, flo, fhi].map iv) _
     rw [← e0, ← e1, ← e2] at hbel hblk
     refine runs_value (X := Instr.buildSlice 22 3 #[(0, b.tmps.getD 74 undef), (1, b.tmps.getD 76 undef), (2, b.tmps.getD 78 undef)]) (by unfold execOp; simp [Act.eval]) hbs ⟨⟨w'.heap.size, rfl, hblk, fun x => ?_⟩, Grow.below hbel _, hJ.new hbel⟩
     exact absurd (Nat.lt_of_lt_of_le (HN.out.1.old _ x.symm) hJ.1.size) (Nat.lt_irrefl _)
    | 17, _ =>
     obtain rfl := Option.some.inj ho
     obtain ⟨g1, ex, hgb, -⟩ := (hd 16 (by kernel_rfl) (by decide)).2
     have e : b.tmps.getD 79 undef = .slice (some ⟨g1, 0, none⟩) _ _ := ex
     refine runs_call rfl (fun _ _ => rfl) ?_
     show Calls _ _ #[b.tmps.getD 79 undef] w' _
     rw [e]
     exact (CB2.out g1 w' hgb).mono fun e w'' h => by
      obtain ⟨z, h1, h2, h3⟩ := h
      exact ⟨z, h1, RowF.own h2 fun k hk => Nat.lt_of_lt_of_le (HN.out.1.old k hk) hJ.1.size, Grow.below h3 _, hJ.new h3⟩
    | n + 18, h => exact absurd h (by simp)
   intro d vals w' hJ hall hf
   have hk : d 9 = true := hall 9 (by decide)
   rw [hk] at hJ
   obtain ⟨A2, c2, t2, hrd⟩ := (hf 17 (by decide) : RowF _ _ _ _).rd
   have how := hJ.2
   rw [if_pos rfl] at how
   obtain ⟨v1, hv1⟩ : ∃ v, v = vals 9 := ⟨_, rfl⟩
   rw [← hv1] at how hJ
   simp only [puts, List.length_cons, List.length_nil, Nat.zero_add, Nat.reduceAdd, List.drop_succ_cons, List.drop_zero, t2, ← hv1]
   have h1 := HN.out.1.app how hJ.1
   have k1 := HN.out.2.1.growO HN.out.1.2.1 (by decide) hJ.1
   have q1 := HN.out.2.2.1.growO HN.out.1.2.1 (by decide) hJ.1
   have bb1 := HN.out.2.2.2.trans (HN.out.1.bel hJ.1)
   have n1 : (P ++ B1).length = P.length + B1.length := List.length_append
   clear t2 hf hall hJ hv1 hk CB1 CB2
   try go_frame
   refine wpList_append_ownB w' rfl (.tmp 72) (.tmp 80) rfl (xb + 1) v1 (P ++ B1) (B2) A2 c2 rfl rfl how hrd (by omega) (h1.big) ?_
   intro v2 w2 ho hgr
   have h2 := h1.app ho hgr
   have k2 := k1.growO h1.2.1 (by decide) hgr
   have q2 := q1.growO h1.2.1 (by decide) hgr
   have bb2 := bb1.trans (h1.bel hgr)
   have n2 : (P ++ B1 ++ B2).length = P.length + B1.length + B2.length := by rw [List.length_append, n1]
   clear how hrd ho hgr h1 k1 q1 bb1 HN n1
   have HN := Lib.hid (And.intro h2 (And.intro k2 (And.intro q2 bb2)))
   clear h2 k2 q2 bb2
   go_upto_region 13 with fail
   refine wp_region_statelist [82, 83, 84, 85, 86, 87, 88, 89] (fun d vals w' => EnJ (xb + 1) w2 v2 (P ++ B1 ++ B2) (P ++ B1 ++ B2 ++ B3) (d 4) (vals 4) w') (fun w' w'' => w'.grownBy w'' v2.ownBlock) [fun u _ => u = v2, fun u _ => u = .pointer (some ⟨fb, 6, none⟩), fun u _ => u = .slice Aw nw cw, RowF v2.ownBlock (B3), fun _ _ => True, fun u _ => u = .pointer (some ⟨fb, 7, none⟩), fun u _ => u = .slice Ag ng cg, RowF v2.ownBlock (B4)]
    (by
     intro f hf u w' w'' h hr
     simp only [List.mem_cons, List.not_mem_nil, or_false] at hf
     rcases hf with rfl | rfl | rfl | rfl | rfl | rfl | rfl | rfl
     all_goals first | exact h | exact RowF.grow h hr | exact BltF.grow h hr)
    (fun _ => ⟨Grow.drew _ _ _, by rw [if_neg (by decide)]; exact HN.out.1.2.1⟩) (by kernel_rfl) (by kernel_rfl) ?_ ?_
   ·intro y hy d vals b w' hJ hu hd hall hx o ho
    match y, hy with
    | 0, _ =>
     obtain rfl := Option.some.inj ho
     exact ⟨hx 3 rfl, Grow.refl _ _, hJ⟩
    | 1, _ =>
     obtain rfl := Option.some.inj ho
     have e : b.tmps.getD 7 undef = .pointer (some ⟨fb, 0, none⟩) := hx 7 rfl
     have hr : (Instr.fieldAt 74 (.pointer (some ⟨fb, 0, none⟩)) 6).run Tryz.prog w' = .ok (.pointer (some ⟨fb, 6, none⟩)) w' := by go_simp
     refine runs_value rfl ?_ ⟨rfl, Grow.refl _ _, hJ⟩
     rw [show b.eval (.tmp 7) = _ from e]
     exact hr
    | 2, _ =>
     obtain rfl := Option.some.inj ho
     have e : b.tmps.getD 83 undef = .pointer (some ⟨fb, 6, none⟩) := (hd 1 (by kernel_rfl) (by decide)).2
     have hc : w'.cell? ⟨fb, 6, none⟩ = some (.slice Aw nw cw) := ((HN.out.2.1.growO HN.out.1.2.1 (by decide) hJ.1).cell 6 _ rfl)
     have hr : (Instr.loadAt 45 (.pointer (some ⟨fb, 6, none⟩))).run Tryz.prog w' = .ok (.slice Aw nw cw) w' := by go_simp
     refine runs_value rfl ?_ ⟨rfl, Grow.refl _ _, hJ⟩
     rw [show b.eval (.tmp 83) = _ from e]
     exact hr
    | 3, _ =>
     obtain rfl := Option.some.inj ho
     have e : b.tmps.getD 84 undef = .slice Aw nw cw := (hd 2 (by kernel_rfl) (by decide)).2
     refine runs_call rfl (fun _ _ => rfl) ?_
     show Calls _ _ #[b.tmps.getD 84 undef] w' _
     rw [e]
     exact (CB3.out w' (HK.out.2.2.1 _ (HN.out.2.2.2.trans (HN.out.1.bel hJ.1)))).mono fun e w'' h => by
      obtain ⟨z, h1, h2, h3⟩ := h
      exact ⟨z, h1, RowF.own h2 fun k hk => Nat.lt_of_lt_of_le (HN.out.1.old k hk) hJ.1.size, Grow.below h3 _, hJ.new h3⟩
    | 4, _ =>
     obtain rfl := Option.some.inj ho
     have hu : d 4 = false := hu
     have e1 : b.tmps.getD 82 undef = v2 := (hd 0 (by kernel_rfl) (by decide)).2
     obtain ⟨A1, c1, ex, hrd⟩ := ((hd 3 (by kernel_rfl) (by decide)).2 : RowF _ _ _ _).rd
     have e2 : b.tmps.getD 85 undef = .slice A1 _ c1 := ex
     have how := hJ.2
     rw [hu, if_neg (by decide)] at how
     obtain ⟨z, w'', hrun, ho, hgr⟩ := run_append_ownB w' 35 (xb + 1) v2 _ _ A1 c1 how hrd (by omega) (Nat.le_trans HN.out.1.big hJ.1.size)
     refine runs_value (X := Builtin.append_ #[35, 35] 35 #[b.tmps.getD 82 undef, b.tmps.getD 85 undef]) (by unfold execOp; simp [resolve, invoke, builtin, Act.eval]) (by rw [e1, e2]; exact hrun) ⟨trivial, hgr, Grow.trans hJ.1 hgr, by rw [if_pos (by first | rfl | simp)]; exact ho⟩
    | 5, _ =>
     obtain rfl := Option.some.inj ho
     have e : b.tmps.getD 7 undef = .pointer (some ⟨fb, 0, none⟩) := hx 7 rfl
     have hr : (Instr.fieldAt 74 (.pointer (some ⟨fb, 0, none⟩)) 7).run Tryz.prog w' = .ok (.pointer (some ⟨fb, 7, none⟩)) w' := by go_simp
     refine runs_value rfl ?_ ⟨rfl, Grow.refl _ _, hJ⟩
     rw [show b.eval (.tmp 7) = _ from e]
     exact hr
    | 6, _ =>
     obtain rfl := Option.some.inj ho
     have e : b.tmps.getD 87 undef = .pointer (some ⟨fb, 7, none⟩) := (hd 5 (by kernel_rfl) (by decide)).2
     have hc : w'.cell? ⟨fb, 7, none⟩ = some (.slice Ag ng cg) := ((HN.out.2.1.growO HN.out.1.2.1 (by decide) hJ.1).cell 7 _ rfl)
     have hr : (Instr.loadAt 22 (.pointer (some ⟨fb, 7, none⟩))).run Tryz.prog w' = .ok (.slice Ag ng cg) w' := by go_simp
     refine runs_value rfl ?_ ⟨rfl, Grow.refl _ _, hJ⟩
     rw [show b.eval (.tmp 87) = _ from e]
     exact hr
    | 7, _ =>
     obtain rfl := Option.some.inj ho
     have e : b.tmps.getD 88 undef = .slice Ag ng cg := (hd 6 (by kernel_rfl) (by decide)).2
     refine runs_call rfl (fun _ _ => rfl) ?_
     show Calls _ _ #[b.tmps.getD 88 undef] w' _
     rw [e]
     exact (CB4.out w' (HK.out.2.2.2 _ (HN.out.2.2.2.trans (HN.out.1.bel hJ.1)))).mono fun e w'' h => by
      obtain ⟨z, h1, h2, h3⟩ := h
      exact ⟨z, h1, RowF.own h2 fun k hk => Nat.lt_of_lt_of_le (HN.out.1.old k hk) hJ.1.size, Grow.below h3 _, hJ.new h3⟩
    | n + 8, h => exact absurd h (by simp)
   intro d vals w' hJ hall hf
   have hk : d 4 = true := hall 4 (by decide)
   rw [hk] at hJ
   obtain ⟨A2, c2, t2, hrd⟩ := (hf 7 (by decide) : RowF _ _ _ _).rd
   have how := hJ.2
   rw [if_pos rfl] at how
   obtain ⟨v3, hv3⟩ : ∃ v, v = vals 4 := ⟨_, rfl⟩
   rw [← hv3] at how hJ
   simp only [puts, List.length_cons, List.length_nil, Nat.zero_add, Nat.reduceAdd, List.drop_succ_cons, List.drop_zero, t2, ← hv3]
   have h3 := HN.out.1.app how hJ.1
   have q3 := HN.out.2.2.1.growO HN.out.1.2.1 (by decide) hJ.1
   have n3 : (P ++ B1 ++ B2 ++ B3).length = P.length + B1.length + B2.length + B3.length := by rw [List.length_append, n2]
   clear t2 hf hall hJ hv3 hk CB3 CB4 HN
   try go_frame
   refine wpList_append_ownB w' rfl (.tmp 86) (.tmp 89) rfl (xb + 1) v3 (P ++ B1 ++ B2 ++ B3) B4 A2 c2 rfl rfl how hrd (by omega) h3.big ?_
   intro v4 w4 ho hgr
   have h4 := h3.app ho hgr
   have q4 := q3.growO h3.2.1 (by decide) hgr
   have HN := Lib.hid (And.intro h4 q4)
   clear how hrd ho hgr h3 h4 q3 q4 n2 n3 hS1
   go_wp2_with fail
   go_roundw
   case rel => exact ⟨_, m + 1, P ++ B1 ++ B2 ++ B3 ++ B4, rfl, by go_num, by omega, HK.out.1, by have := HK.out.2.1; rw [Nat.mul_succ]; omega, HN.out.1, HN.out.2⟩
   case measure => simp [intOf]; omega
  obtain rfl : m = NF := by omega
  have hPf : P = E0 ++ (kinds.take (j + 1)).flatMap Sm.encKd := by
   rw [HQ.out.1, HQ.out.2.2.2.2.2.1, HP.out, List.take_of_length_le (by rw [← HQ.out.2.2.2.1]; omega), HL4.out]
  have hPs3 : P.length ≤ L.length + 130200 := by
   have := HQ.out.2.1
   rw [hPf, HQ.out.1, List.length_append]
   omega
  have HN := Lib.hid (And.intro hPf hst)
  clear hst hkb hPf HP
  go_wp2_with fail
  go_roundw
  case rel => exact ⟨_, j + 1, P, rfl, by go_num, by omega, HN.out.1, by rw [Nat.mul_succ, ← Nat.add_assoc]; exact Nat.le_trans hPs3 (Nat.add_le_add_right hLs _), HN.out.2⟩
  case measure => simp [intOf]; omega
 obtain rfl : j = NK := by omega
 have hLs2 : L.length ≤ 1302100 := by omega
 have hLK : L = E0 ++ kinds.flatMap Sm.encKd := by rw [HL.out, List.take_of_length_le (by rw [← HZ.out.2.1]; exact Nat.le_refl _)]
 obtain ⟨E3, hE3⟩ : ∃ l, l = M.encI (NL : Int) := ⟨_, rfl⟩
 have nE3 : E3.length ≤ 9 := by rw [hE3]; exact Sm.encN_le (by omega)
 have cE3 := fun w => refInt_any (NL : Int) w (M.I64_nat NL (by omega))
 unfold IntPost at cE3
 simp only [← hE3] at cE3
 have CE3 := Lib.hid (cE3 Wr)
 have HE3 := Lib.hid hE3
 have c2 := HX.out _ _ _ hst 2 _ rfl
 have H5 := Lib.hid hst
 have HLK := Lib.hid hLK
 clear hLs hLK hst HL hj hlt cE3 hE3
 go_wp2_with fail
 refine CE3.out.mono ?_
 rintro e w3 ⟨v3, rfl, hown, hb3⟩
 obtain ⟨A3, c3', rfl, hr3, -, -⟩ := own_rd (B := 0) hown
 have h3 := H5.out.new hb3
 have H3 := Lib.hid (And.intro h3 hr3)
 clear CE3 c1 c2 hown h3 hr3 hb3 H5
 go_wp2_with (at_builtin; refine wpList_append_ownB _ rfl (.tmp 91) (.tmp 95) rfl (xb + 1) v L E3 A3 c3' rfl rfl H3.out.1.2.1 H3.out.2 (by omega) H3.out.1.big ?_; intro v4 w4 ho hgr; have HA := Lib.hid (And.intro ho hgr); clear ho hgr)
 have h4 := H3.out.1.app HA.out.1 HA.out.2
 obtain ⟨L0, hL0⟩ : ∃ l, l = L ++ E3 := ⟨_, rfl⟩
 have n0 : L0.length ≤ 1302200 := by rw [hL0, List.length_append]; omega
 rw [← hL0] at h4
 have HL0 := Lib.hid hL0
 have H4 := Lib.hid h4
 clear h4 hL0 HA H3 hLs2 nE3
 go_loopw [3, 8, 9, 10] (fun u i a2 a3 wr => ∃ (v : Value) (k : Nat) (P : List UInt8), u = v ∧ i = .int .i64 k ∧ k ≤ NL ∧ P = L0 ++ (lives.take k).flatMap Sm.encLf ∧ P.length ≤ 1302200 + 4000 * k ∧ EnO W xb xc v P wr) (fun _ i _ _ _ => NL - (intOf i).toNat)
 case atStart => exact ⟨_, 0, L0, rfl, rfl, Nat.zero_le _, (List.append_nil _).symm, n0, H4.out⟩
 case round =>
 clear H4
 obtain ⟨vl, k, P, hv, rfl, hk, hP, hPs, hst⟩ := hrel
 replace hv := hv.symm
 subst hv
 have HP := Lib.hid hP
 clear hP
 obtain ⟨Wl, hWl⟩ : ∃ W, W = wr := ⟨_, rfl⟩
 rw [← hWl] at hst ⊢
 clear hWl
 have c2 := HX.out _ _ _ hst 2 _ rfl
 by_cases hlk : k < NL
 ·have hlk2 : k < lives.length := by rw [← HZ.out.2.2.1]; exact hlk
  have hg : lives[k]? = some lives[k] := List.getElem?_eq_getElem hlk2
  have hft := M.flat_take Sm.encLf lives k hlk2
  have hsk := HSS.out.2.1 _ (List.getElem_mem hlk2)
  obtain ⟨lf, hlf⟩ : ∃ f, f = lives[k] := ⟨_, rfl⟩
  rw [← hlf] at hg hft hsk
  have hkl := Sm.encLf_le hsk
  have hbW : Below W.heap.size W Wl := HXB.out ▸ hst.2.2
  obtain ⟨lname, states, moves⟩ := lf
  obtain ⟨lb, off, cs, hA, hbl, ⟨As, cs', Am, cm, rfl, hrs, hrm, hsc1, hsc2, hmc1, hmc2⟩, hcell⟩ := (HR.out.2.1.keep (Keep.of hbW) fun _ _ q => LfC.keep q (Keep.of hbW)).at (by decide) (fun _ _ => LfC.size) k _ hg
  dsimp only at hcell hrs hrm hsc1 hmc1
  obtain ⟨NS, hNS⟩ : ∃ n, n = states.length := ⟨_, rfl⟩
  obtain ⟨NM, hNM⟩ : ∃ n, n = moves.length := ⟨_, rfl⟩
  rw [← hNS, ← hNM] at hcell
  have d0 : Wl.cell? ⟨lb, off + k * 3, none⟩ = some (.string lname) := hcell 0 _ rfl
  have d1 := hcell 1 _ rfl
  have d2 := hcell 2 _ rfl
  have j1 : (k : Int) < NL := by omega
  have hln := hsk.name
  have hfs := hsk.few
  have hfm := hsk.fewm
  have hss := hsk.states
  have hmv := hsk.moves
  dsimp only at hln hfs hfm hss hmv
  have hfl := Sm.flat_le encS 109 states fun a ha => Sm.encS_le (hss a ha)
  have hfl2 : (states.flatMap encS).length ≤ 900000000 := Nat.le_trans hfl (by have := Nat.mul_le_mul_left 109 hfs; omega)
  obtain ⟨MV, hMV⟩ : ∃ l, l = Sm.encMoves moves := ⟨_, rfl⟩
  have hMVl : MV.length = 2 * NM := by rw [hMV, hNM]; exact Sm.encMoves_len moves
  have hMVn : ∀ n ∈ MV, M.I64 n := fun n hn => Sm.num_i64 (Sm.encMoves_num hmv n (hMV ▸ hn))
  obtain ⟨B1, hB1⟩ : ∃ l, l = M.encB (sb lname) := ⟨_, rfl⟩
  obtain ⟨B2, hB2⟩ : ∃ l, l = M.encL encS states := ⟨_, rfl⟩
  obtain ⟨B3, hB3⟩ : ∃ l, l = M.encL M.encI MV := ⟨_, rfl⟩
  have hall : Sm.encLf ⟨lname, states, moves⟩ = B1 ++ B2 ++ B3 := by rw [hB1, hB2, hB3, hMV]; rfl
  have hsum : B1.length + B2.length + B3.length ≤ 4000 := by rw [hall] at hkl; simp only [List.length_append] at hkl; omega
  rw [← hNS] at hfs hsc1
  rw [← hNM] at hfm
  have cB1 := fun w => refBytes_any lname w (by omega)
  have cB2 := fun w (hr : Rd w w.heap.size As (states.map sv)) => refStrings_any As cs' states w hr (by omega) hsc2 hfl2 (by omega)
  have cB3 := fun A c w (hr : Rd w w.heap.size A (MV.map iv)) (hc : MV.length ≤ c) (hm : c ≤ maxLen) => refInts_any A c MV w hr hc hm (by omega) hMVn
  simp only [← hB1] at cB1
  simp only [← hB2, ← hNS] at cB2
  simp only [← hB3, hMVl] at cB3
  have hnx : P ++ B1 ++ B2 ++ B3 = L0 ++ (lives.take (k + 1)).flatMap Sm.encLf := by rw [hft, HP.out, hall]; simp only [List.append_assoc]
  have hxl : (P ++ B1 ++ B2 ++ B3).length ≤ P.length + 4000 := by simp only [List.length_append]; omega
  have rw1 : ∀ w, Below xb Wl w → Rd w w.heap.size As (states.map sv) := fun w hw => ((hrs.below (HXB.out ▸ hw)).more (HXB.out ▸ Nat.le_trans (Nat.le_of_lt hst.1.lt) hw.size))
  have hAmr : ∀ (m : Nat) (m1 m2 : Int), moves[m]? = some (m1, m2) → ∃ bm om, Am = some ⟨bm, om, none⟩ ∧ bm < xb ∧ Wl.cell? ⟨bm, om + m * 2, none⟩ = some (.int .i64 m1) ∧ Wl.cell? ⟨bm, om + m * 2 + 1, none⟩ = some (.int .i64 m2) := by
   intro m m1 m2 hg
   obtain ⟨bm, om, hA, hbm, hcm⟩ := hrm (by rw [moveC_len]; have := (List.getElem?_eq_some_iff.1 hg).1; omega)
   refine ⟨bm, om, hA, HXB.out ▸ hbm, hcm _ _ (moveC_at moves m _ hg).1, ?_⟩
   rw [Nat.add_assoc]
   exact hcm _ _ (moveC_at moves m _ hg).2
  have hbx : lb < xb := HXB.out ▸ hbl
  have HQ := Lib.hid (And.intro hnx (And.intro hxl (And.intro hNM (And.intro hmv (And.intro hMV (And.intro hMVl hAmr))))))
  have HD := Lib.hid (And.intro d0 (And.intro d1 (And.intro d2 hbx)))
  have CB1 := Lib.hid cB1
  have CB2 := Lib.hid cB2
  have CB3 := Lib.hid cB3
  have HRW := Lib.hid rw1
  have HSUM := Lib.hid hsum
  have HSL := Lib.hid (And.intro hst (And.intro c2 hA))
  rw [hA] at c2
  clear hft hg hlf hsk hlk2 hst hkl hbW hcell hrs hrm hsc1 hsc2 hmc1 hmc2 hNS hNM hln hss hmv hfl hfl2 hMV hMVl hMVn hB1 hB2 hB3 hall hsum cB1 cB2 cB3 hnx hxl rw1 hAmr hbx hA d0 d1 d2
  go_wp2_with fail
  clear c2
  go_loopw [9, 10] (fun u i wr => ∃ (v : Value) (m : Nat), u = v ∧ i = .int .i64 m ∧ m ≤ NM ∧ EnO W xb xc vl P wr ∧ Below xb Wl wr ∧ wr.ownsRow (xb + 1) 3 1 v (2 * m) ((MV.take (2 * m)).map iv)) (fun _ i _ => NM - (intOf i).toNat)
  case atStart => exact ⟨_, 0, rfl, rfl, Nat.zero_le _, HSL.out.1, Below.refl _ _, World.ownsRow_nil _ _ _ _⟩
  case round =>
  obtain ⟨v9, m, hv, rfl, hm, hst, hbel, hown⟩ := hrel
  replace hv := hv.symm
  subst hv
  have HH := Lib.hid (And.intro hst (And.intro hbel hown))
  have c2 : wr.cell? ⟨xb, 2, none⟩ = some (.slice (some ⟨lb, off, none⟩) NL cl) := by rw [← HSL.out.2.2]; exact HX.out _ _ _ hst 2 _ rfl
  have e2 : wr.cell? ⟨lb, off + k * 3 + 2, none⟩ = some (.slice Am NM cm) := (hbel.cell (p := ⟨lb, off + k * 3 + 2, none⟩) HD.out.2.2.2).trans HD.out.2.2.1
  clear hst hbel hown
  by_cases hlt3 : m < NM
  ·obtain ⟨mv, hmv⟩ : ∃ x, moves[m]? = some x := ⟨_, List.getElem?_eq_getElem (by rw [← HQ.out.2.2.1]; exact hlt3)⟩
   obtain ⟨m1, m2⟩ := mv
   obtain ⟨bm, om, hAm, hbm, g1, g2⟩ := HQ.out.2.2.2.2.2.2 m m1 m2 hmv
   have hMt : (MV.take (2 * (m + 1))).map iv = (MV.take (2 * m)).map iv ++ [iv m1, iv m2] := by
    rw [HQ.out.2.2.2.2.1, encMoves_take moves m (m1, m2) hmv]
    simp
   have f1 : wr.cell? ⟨bm, om + m * 2, none⟩ = some (.int .i64 m1) := (HH.out.2.1.cell (p := ⟨bm, om + m * 2, none⟩) hbm).trans g1
   have f2 : wr.cell? ⟨bm, om + m * 2 + 1, none⟩ = some (.int .i64 m2) := (HH.out.2.1.cell (p := ⟨bm, om + m * 2 + 1, none⟩) hbm).trans g2
   have hbb := HD.out.2.2.2
   have hxlt := HH.out.1.1.lt
   have j2 : (m : Int) < NM := by omega
   rw [hAm] at e2
   have HF := Lib.hid (And.intro c2 (And.intro e2 (And.intro f1 (And.intro f2 (And.intro hMt hAm)))))
   have HB := Lib.hid (And.intro (Nat.lt_trans hbb hxlt) (Nat.lt_trans hbm hxlt))
   clear g1 g2 hMt f1 f2 hmv hbb hbm hAm
   go_upto_region 22 with fail
   clear c2 e2
   refine wp_region_list [115, 116, 117, 118, 119, 120, 121, 122, 123, 124, 125, 126, 127, 128, 129, 130, 131, 132, 133, 134, 135, 136] [.is (v9), .is (.pointer (some ⟨xb, 2, none⟩)), .is (.slice (some ⟨lb, off, none⟩) NL cl), .is (.int .i64 (k : Int)), .is (.pointer (some ⟨lb, off + k * 3, none⟩)), .is (.pointer (some ⟨lb, off + k * 3 + 2, none⟩)), .is (.slice (some ⟨bm, om, none⟩) NM cm), .is (.int .i64 (m : Int)), .is (.pointer (some ⟨bm, om + m * 2, none⟩)), .is (.pointer (some ⟨bm, om + m * 2, none⟩)), .is (.int .i64 m1), .is (.pointer (some ⟨xb, 2, none⟩)), .is (.slice (some ⟨lb, off, none⟩) NL cl), .is (.int .i64 (k : Int)), .is (.pointer (some ⟨lb, off + k * 3, none⟩)), .is (.pointer (some ⟨lb, off + k * 3 + 2, none⟩)), .is (.slice (some ⟨bm, om, none⟩) NM cm), .is (.int .i64 (m : Int)), .is (.pointer (some ⟨bm, om + m * 2, none⟩)), .is (.pointer (some ⟨bm, om + m * 2 + 1, none⟩)), .is (.int .i64 m2), .intsF [m1, m2] 2] (by kernel_rfl) (by kernel_rfl) ?_ ?_
   ·intro y0 hy0 b w' hb hd hx o ho
    match y0, hy0 with
    | 0, _ =>
     obtain rfl := Option.some.inj ho
     exact ⟨hx 9 rfl, Below.refl _ _⟩
    | 1, _ =>
     obtain rfl := Option.some.inj ho
     have e : b.tmps.getD 1 undef = .pointer (some ⟨xb, 0, none⟩) := hx 1 rfl
     have hr : (Instr.fieldAt 27 (.pointer (some ⟨xb, 0, none⟩)) 2).run Tryz.prog w' = .ok (.pointer (some ⟨xb, 2, none⟩)) w' := by go_simp
     refine runs_value rfl ?_ ⟨rfl, Below.refl _ _⟩
     rw [show b.eval (.tmp 1) = _ from e]
     exact hr
    | 2, _ =>
     obtain rfl := Option.some.inj ho
     have e : b.tmps.getD 116 undef = .pointer (some ⟨xb, 2, none⟩) := hd 1 (by kernel_rfl) (by decide)
     have hc : w'.cell? ⟨xb, 2, none⟩ = some (.slice (some ⟨lb, off, none⟩) NL cl) := (hb.cell (p := ⟨xb, 2, none⟩) HH.out.1.1.lt).trans HF.out.1
     have hr : (Instr.loadAt 24 (.pointer (some ⟨xb, 2, none⟩))).run Tryz.prog w' = .ok (.slice (some ⟨lb, off, none⟩) NL cl) w' := by go_simp
     refine runs_value rfl ?_ ⟨rfl, Below.refl _ _⟩
     rw [show b.eval (.tmp 116) = _ from e]
     exact hr
    | 3, _ =>
     obtain rfl := Option.some.inj ho
     exact ⟨hx 8 rfl, Below.refl _ _⟩
    | 4, _ =>
     obtain rfl := Option.some.inj ho
     have e1 : b.tmps.getD 117 undef = .slice (some ⟨lb, off, none⟩) NL cl := hd 2 (by kernel_rfl) (by decide)
     have e2 : b.tmps.getD 118 undef = .int .i64 (k : Int) := hd 3 (by kernel_rfl) (by decide)
     have hr : (Instr.indexAt 24 (.slice (some ⟨lb, off, none⟩) NL cl) (.int .i64 (k : Int))).run Tryz.prog w' = .ok (.pointer (some ⟨lb, off + k * 3, none⟩)) w' := by go_simp
     refine runs_value rfl ?_ ⟨rfl, Below.refl _ _⟩
     rw [show b.eval (.tmp 117) = _ from e1, show b.eval (.tmp 118) = _ from e2]
     exact hr
    | 5, _ =>
     obtain rfl := Option.some.inj ho
     have e : b.tmps.getD 119 undef = .pointer (some ⟨lb, off + k * 3, none⟩) := hd 4 (by kernel_rfl) (by decide)
     have hr : (Instr.fieldAt 67 (.pointer (some ⟨lb, off + k * 3, none⟩)) 2).run Tryz.prog w' = .ok (.pointer (some ⟨lb, off + k * 3 + 2, none⟩)) w' := by go_simp
     refine runs_value rfl ?_ ⟨rfl, Below.refl _ _⟩
     rw [show b.eval (.tmp 119) = _ from e]
     exact hr
    | 6, _ =>
     obtain rfl := Option.some.inj ho
     have e : b.tmps.getD 120 undef = .pointer (some ⟨lb, off + k * 3 + 2, none⟩) := hd 5 (by kernel_rfl) (by decide)
     have hc : w'.cell? ⟨lb, off + k * 3 + 2, none⟩ = some (.slice (some ⟨bm, om, none⟩) NM cm) := (hb.cell (p := ⟨lb, off + k * 3 + 2, none⟩) HB.out.1).trans HF.out.2.1
     have hr : (Instr.loadAt 65 (.pointer (some ⟨lb, off + k * 3 + 2, none⟩))).run Tryz.prog w' = .ok (.slice (some ⟨bm, om, none⟩) NM cm) w' := by go_simp
     refine runs_value rfl ?_ ⟨rfl, Below.refl _ _⟩
     rw [show b.eval (.tmp 120) = _ from e]
     exact hr
    | 7, _ =>
     obtain rfl := Option.some.inj ho
     exact ⟨hx 10 rfl, Below.refl _ _⟩
    | 8, _ =>
     obtain rfl := Option.some.inj ho
     have e1 : b.tmps.getD 121 undef = .slice (some ⟨bm, om, none⟩) NM cm := hd 6 (by kernel_rfl) (by decide)
     have e2 : b.tmps.getD 122 undef = .int .i64 (m : Int) := hd 7 (by kernel_rfl) (by decide)
     have hr : (Instr.indexAt 65 (.slice (some ⟨bm, om, none⟩) NM cm) (.int .i64 (m : Int))).run Tryz.prog w' = .ok (.pointer (some ⟨bm, om + m * 2, none⟩)) w' := by go_simp
     refine runs_value rfl ?_ ⟨rfl, Below.refl _ _⟩
     rw [show b.eval (.tmp 121) = _ from e1, show b.eval (.tmp 122) = _ from e2]
     exact hr
    | 9, _ =>
     obtain rfl := Option.some.inj ho
     have e : b.tmps.getD 123 undef = .pointer (some ⟨bm, om + m * 2, none⟩) := hd 8 (by kernel_rfl) (by decide)
     have hr : (Instr.indexAt 68 (.pointer (some ⟨bm, om + m * 2, none⟩)) (.int .i64 0)).run Tryz.prog w' = .ok (.pointer (some ⟨bm, om + m * 2, none⟩)) w' := by go_simp
     refine runs_value rfl ?_ ⟨rfl, Below.refl _ _⟩
     rw [show b.eval (.tmp 123) = _ from e]
     exact hr
    | 10, _ =>
     obtain rfl := Option.some.inj ho
     have e : b.tmps.getD 124 undef = .pointer (some ⟨bm, om + m * 2, none⟩) := hd 9 (by kernel_rfl) (by decide)
     have hc : w'.cell? ⟨bm, om + m * 2, none⟩ = some (.int .i64 m1) := (hb.cell (p := ⟨bm, om + m * 2, none⟩) HB.out.2).trans HF.out.2.2.1
     have hr : (Instr.loadAt 3 (.pointer (some ⟨bm, om + m * 2, none⟩))).run Tryz.prog w' = .ok (.int .i64 m1) w' := by go_simp
     refine runs_value rfl ?_ ⟨rfl, Below.refl _ _⟩
     rw [show b.eval (.tmp 124) = _ from e]
     exact hr
    | 11, _ =>
     obtain rfl := Option.some.inj ho
     have e : b.tmps.getD 1 undef = .pointer (some ⟨xb, 0, none⟩) := hx 1 rfl
     have hr : (Instr.fieldAt 27 (.pointer (some ⟨xb, 0, none⟩)) 2).run Tryz.prog w' = .ok (.pointer (some ⟨xb, 2, none⟩)) w' := by go_simp
     refine runs_value rfl ?_ ⟨rfl, Below.refl _ _⟩
     rw [show b.eval (.tmp 1) = _ from e]
     exact hr
    | 12, _ =>
     obtain rfl := Option.some.inj ho
     have e : b.tmps.getD 126 undef = .pointer (some ⟨xb, 2, none⟩) := hd 11 (by kernel_rfl) (by decide)
     have hc : w'.cell? ⟨xb, 2, none⟩ = some (.slice (some ⟨lb, off, none⟩) NL cl) := (hb.cell (p := ⟨xb, 2, none⟩) HH.out.1.1.lt).trans HF.out.1
     have hr : (Instr.loadAt 24 (.pointer (some ⟨xb, 2, none⟩))).run Tryz.prog w' = .ok (.slice (some ⟨lb, off, none⟩) NL cl) w' := by go_simp
     refine runs_value rfl ?_ ⟨rfl, Below.refl _ _⟩
     rw [show b.eval (.tmp 126) = _ from e]
     exact hr
    | 13, _ =>
     obtain rfl := Option.some.inj ho
     exact ⟨hx 8 rfl, Below.refl _ _⟩
    | 14, _ =>
     obtain rfl := Option.some.inj ho
     have e1 : b.tmps.getD 127 undef = .slice (some ⟨lb, off, none⟩) NL cl := hd 12 (by kernel_rfl) (by decide)
     have e2 : b.tmps.getD 128 undef = .int .i64 (k : Int) := hd 13 (by kernel_rfl) (by decide)
     have hr : (Instr.indexAt 24 (.slice (some ⟨lb, off, none⟩) NL cl) (.int .i64 (k : Int))).run Tryz.prog w' = .ok (.pointer (some ⟨lb, off + k * 3, none⟩)) w' := by go_simp
     refine runs_value rfl ?_ ⟨rfl, Below.refl _ _⟩
     rw [show b.eval (.tmp 127) = _ from e1, show b.eval (.tmp 128) = _ from e2]
     exact hr
    | 15, _ =>
     obtain rfl := Option.some.inj ho
     have e : b.tmps.getD 129 undef = .pointer (some ⟨lb, off + k * 3, none⟩) := hd 14 (by kernel_rfl) (by decide)
     have hr : (Instr.fieldAt 67 (.pointer (some ⟨lb, off + k * 3, none⟩)) 2).run Tryz.prog w' = .ok (.pointer (some ⟨lb, off + k * 3 + 2, none⟩)) w' := by go_simp
     refine runs_value rfl ?_ ⟨rfl, Below.refl _ _⟩
     rw [show b.eval (.tmp 129) = _ from e]
     exact hr
    | 16, _ =>
     obtain rfl := Option.some.inj ho
     have e : b.tmps.getD 130 undef = .pointer (some ⟨lb, off + k * 3 + 2, none⟩) := hd 15 (by kernel_rfl) (by decide)
     have hc : w'.cell? ⟨lb, off + k * 3 + 2, none⟩ = some (.slice (some ⟨bm, om, none⟩) NM cm) := (hb.cell (p := ⟨lb, off + k * 3 + 2, none⟩) HB.out.1).trans HF.out.2.1
     have hr : (Instr.loadAt 65 (.pointer (some ⟨lb, off + k * 3 + 2, none⟩))).run Tryz.prog w' = .ok (.slice (some ⟨bm, om, none⟩) NM cm) w' := by go_simp
     refine runs_value rfl ?_ ⟨rfl, Below.refl _ _⟩
     rw [show b.eval (.tmp 130) = _ from e]
     exact hr
    | 17, _ =>
     obtain rfl := Option.some.inj ho
     exact ⟨hx 10 rfl, Below.refl _ _⟩
    | 18, _ =>
     obtain rfl := Option.some.inj ho
     have e1 : b.tmps.getD 131 undef = .slice (some ⟨bm, om, none⟩) NM cm := hd 16 (by kernel_rfl) (by decide)
     have e2 : b.tmps.getD 132 undef = .int .i64 (m : Int) := hd 17 (by kernel_rfl) (by decide)
     have hr : (Instr.indexAt 65 (.slice (some ⟨bm, om, none⟩) NM cm) (.int .i64 (m : Int))).run Tryz.prog w' = .ok (.pointer (some ⟨bm, om + m * 2, none⟩)) w' := by go_simp
     refine runs_value rfl ?_ ⟨rfl, Below.refl _ _⟩
     rw [show b.eval (.tmp 131) = _ from e1, show b.eval (.tmp 132) = _ from e2]
     exact hr
    | 19, _ =>
     obtain rfl := Option.some.inj ho
     have e : b.tmps.getD 133 undef = .pointer (some ⟨bm, om + m * 2, none⟩) := hd 18 (by kernel_rfl) (by decide)
     have hr : (Instr.indexAt 68 (.pointer (some ⟨bm, om + m * 2, none⟩)) (.int .i64 1)).run Tryz.prog w' = .ok (.pointer (some ⟨bm, om + m * 2 + 1, none⟩)) w' := by go_simp
     refine runs_value rfl ?_ ⟨rfl, Below.refl _ _⟩
     rw [show b.eval (.tmp 133) = _ from e]
     exact hr
    | 20, _ =>
     obtain rfl := Option.some.inj ho
     have e : b.tmps.getD 134 undef = .pointer (some ⟨bm, om + m * 2 + 1, none⟩) := hd 19 (by kernel_rfl) (by decide)
     have hc : w'.cell? ⟨bm, om + m * 2 + 1, none⟩ = some (.int .i64 m2) := (hb.cell (p := ⟨bm, om + m * 2 + 1, none⟩) HB.out.2).trans HF.out.2.2.2.1
     have hr : (Instr.loadAt 3 (.pointer (some ⟨bm, om + m * 2 + 1, none⟩))).run Tryz.prog w' = .ok (.int .i64 m2) w' := by go_simp
     refine runs_value rfl ?_ ⟨rfl, Below.refl _ _⟩
     rw [show b.eval (.tmp 134) = _ from e]
     exact hr
    | 21, _ =>
     obtain rfl := Option.some.inj ho
     have e0 : b.tmps.getD 125 undef = .int .i64 m1 := hd 10 (by kernel_rfl) (by decide)
     have e1 : b.tmps.getD 135 undef = .int .i64 m2 := hd 20 (by kernel_rfl) (by decide)
     have hbs : (Instr.buildSlice 22 2 #[(0, .int .i64 m1), (1, .int .i64 m2)]).run Tryz.prog w' = .ok (.slice (some ⟨w'.heap.size, 0, none⟩) 2 2) (w'.alloc (.cells #[.int .i64 m1, .int .i64 m2] 3)) := by go_simp
     have hblk : Blk (w'.alloc (.cells #[.int .i64 m1, .int .i64 m2] 3)) w'.heap.size ([m1, m2].map iv) 3 := Blk.new w' _ _
     have hbel := alloc_belowE w' (.cells #[.int .i64 m1, .int .i64 m2] 3)
     rw [← e0, ← e1] at hbs hbel
     have hblk2 := hblk
     rw [← e0, ← e1] at hblk2
     refine runs_value (X := Instr.buildSlice 22 2 #[(0, b.tmps.getD 125 undef), (1, b.tmps.getD 135 undef)]) (by unfold execOp; simp [Act.eval]) hbs ⟨⟨w'.heap.size, rfl, ?_⟩, hbel⟩
     rw [e0, e1]
     exact hblk
    | n + 22, h => exact absurd h (by simp)
   intro vals w' hb hf
   have t0 : vals 0 = v9 := hf 0 (by decide)
   obtain ⟨g, t1, hgb⟩ := hf 21 (by decide)
   simp only [puts, List.length_cons, List.length_nil, Nat.zero_add, Nat.reduceAdd, List.drop_succ_cons, List.drop_zero, t0, t1]
   have hn := HH.out.1.new hb
   have hbl2 : Below xb Wl w' := HH.out.2.1.trans (hb.mono (Nat.le_of_lt HH.out.1.1.lt))
   have how := own_below HH.out.2.2 hb (Nat.le_refl _)
   have HN := Lib.hid (And.intro hn (And.intro hbl2 (And.intro how hgb)))
   clear hn hbl2 how hb hf t0 t1 hgb
   try go_frame
   refine wpList_append_own_at w' rfl (.tmp 115) (.tmp 136) 22 rfl (xb + 1) 3 i0 (.int .i64 0) 1 8 Tryz.underlying22 HI.out.1 HI.out.2.1 HI.out.2.2.1 HI.out.2.2.2 rfl (by decide) v9 (2 * m) ((MV.take (2 * m)).map iv) rfl HN.out.2.2.1 ⟨g, 0, none⟩ 2 2 [iv m1, iv m2] rfl rfl (fun j u hj => by
    have e : (⟨g, 0, none⟩ : Addr).add j = ⟨g, j, none⟩ := by simp [Addr.add]; omega
    rw [e]
    exact HN.out.2.2.2.cell j u hj) (by intro u hu; simp at hu; rcases hu with rfl | rfl <;> rfl) (by unfold maxLen; omega) (by omega) HN.out.1.big ?_
   intro v' w9 hown' hgrow _ hat
   have HA := Lib.hid (And.intro hown' hgrow)
   clear hown' hgrow hat
   go_wp2_with fail
   go_roundw
   case rel =>
    refine ⟨_, m + 1, rfl, by go_num, by omega, ⟨HN.out.1.1.growO HN.out.2.2.1 (by decide) HA.out.2, own_grown HN.out.1.2.1 HA.out.2 fun q h1 h2 => own_own HN.out.1.2.1 HN.out.2.2.1 (by decide) q h1 h2, HN.out.1.2.2.trans ((Below.refl _ w').grown HA.out.2 (Nat.le_of_lt HN.out.1.1.lt) fun q hq => by have := (HN.out.2.2.1.lt q hq).1; omega)⟩, HN.out.2.1.trans ((Below.refl _ w').grown HA.out.2 (Nat.le_of_lt HN.out.1.1.lt) fun q hq => by have := (HN.out.2.2.1.lt q hq).1; omega), ?_⟩
    rw [HF.out.2.2.2.2.1, show 2 * (m + 1) = 2 * m + 2 by omega]
    exact HA.out.1
   case measure => simp [intOf]; omega
  obtain rfl : m = NM := by omega
  have hown : wr.ownsRow (xb + 1) 3 1 v9 (2 * m) (MV.map iv) := by
   have h := HH.out.2.2
   rwa [List.take_of_length_le (by rw [HQ.out.2.2.2.2.2.1]; exact Nat.le_refl _)] at h
  have HO := Lib.hid hown
  clear hown hm hlt3
  go_upto_region 23 with fail
  clear c2 e2
  have hN : EnO W xb xc vl P wr := HH.out.1
  have HN := Lib.hid hN
  have hS1 := HSUM.out
  clear hN
  refine wp_region_statelist [138, 139, 140, 141, 142, 143, 144, 145, 146, 147, 148, 149, 150, 151, 152, 153] (fun d vals w' => EnJ (xb + 1) wr vl (P) (P ++ B1) (d 8) (vals 8) w') (fun w' w'' => w'.grownBy w'' vl.ownBlock) [fun u _ => u = vl, fun u _ => u = .pointer (some ⟨xb, 2, none⟩), fun u _ => u = .slice (some ⟨lb, off, none⟩) NL cl, fun u _ => u = .int .i64 (k : Int), fun u _ => u = .pointer (some ⟨lb, off + k * 3, none⟩), fun u _ => u = .pointer (some ⟨lb, off + k * 3, none⟩), fun u _ => u = .string lname, RowF vl.ownBlock (B1), fun _ _ => True, fun u _ => u = .pointer (some ⟨xb, 2, none⟩), fun u _ => u = .slice (some ⟨lb, off, none⟩) NL cl, fun u _ => u = .int .i64 (k : Int), fun u _ => u = .pointer (some ⟨lb, off + k * 3, none⟩), fun u _ => u = .pointer (some ⟨lb, off + k * 3 + 1, none⟩), fun u _ => u = .slice As NS cs', RowF vl.ownBlock (B2)]
   (by
    intro f hf u w' w'' h hr
    simp only [List.mem_cons, List.not_mem_nil, or_false] at hf
    rcases hf with rfl | rfl | rfl | rfl | rfl | rfl | rfl | rfl | rfl | rfl | rfl | rfl | rfl | rfl | rfl | rfl
    all_goals first | exact h | exact RowF.grow h hr | exact BltF.grow h hr)
   (fun _ => ⟨Grow.drew _ _ _, by rw [if_neg (by decide)]; exact HN.out.2.1⟩) (by kernel_rfl) (by kernel_rfl) ?_ ?_
  ·intro y hy d vals b w' hJ hu hd hall hx o ho
   match y, hy with
   | 0, _ =>
    obtain rfl := Option.some.inj ho
    exact ⟨hx 3 rfl, Grow.refl _ _, hJ⟩
   | 1, _ =>
    obtain rfl := Option.some.inj ho
    have e : b.tmps.getD 1 undef = .pointer (some ⟨xb, 0, none⟩) := hx 1 rfl
    have hr : (Instr.fieldAt 27 (.pointer (some ⟨xb, 0, none⟩)) 2).run Tryz.prog w' = .ok (.pointer (some ⟨xb, 2, none⟩)) w' := by go_simp
    refine runs_value rfl ?_ ⟨rfl, Grow.refl _ _, hJ⟩
    rw [show b.eval (.tmp 1) = _ from e]
    exact hr
   | 2, _ =>
    obtain rfl := Option.some.inj ho
    have e : b.tmps.getD 139 undef = .pointer (some ⟨xb, 2, none⟩) := (hd 1 (by kernel_rfl) (by decide)).2
    have hc : w'.cell? ⟨xb, 2, none⟩ = some (.slice (some ⟨lb, off, none⟩) NL cl) := (by rw [← HSL.out.2.2]; exact (HN.out.1.growO HN.out.2.1 (by decide) hJ.1).cell 2 _ (HXC.out 2 _ rfl))
    have hr : (Instr.loadAt 24 (.pointer (some ⟨xb, 2, none⟩))).run Tryz.prog w' = .ok (.slice (some ⟨lb, off, none⟩) NL cl) w' := by go_simp
    refine runs_value rfl ?_ ⟨rfl, Grow.refl _ _, hJ⟩
    rw [show b.eval (.tmp 139) = _ from e]
    exact hr
   | 3, _ =>
    obtain rfl := Option.some.inj ho
    exact ⟨hx 8 rfl, Grow.refl _ _, hJ⟩
   | 4, _ =>
    obtain rfl := Option.some.inj ho
    have e1 : b.tmps.getD 140 undef = .slice (some ⟨lb, off, none⟩) NL cl := (hd 2 (by kernel_rfl) (by decide)).2
    have e2 : b.tmps.getD 141 undef = .int .i64 (k : Int) := (hd 3 (by kernel_rfl) (by decide)).2
    have hr : (Instr.indexAt 24 (.slice (some ⟨lb, off, none⟩) NL cl) (.int .i64 (k : Int))).run Tryz.prog w' = .ok (.pointer (some ⟨lb, off + k * 3, none⟩)) w' := by go_simp
    refine runs_value rfl ?_ ⟨rfl, Grow.refl _ _, hJ⟩
    rw [show b.eval (.tmp 140) = _ from e1, show b.eval (.tmp 141) = _ from e2]
    exact hr
   | 5, _ =>
    obtain rfl := Option.some.inj ho
    have e : b.tmps.getD 142 undef = .pointer (some ⟨lb, off + k * 3, none⟩) := (hd 4 (by kernel_rfl) (by decide)).2
    have hr : (Instr.fieldAt 67 (.pointer (some ⟨lb, off + k * 3, none⟩)) 0).run Tryz.prog w' = .ok (.pointer (some ⟨lb, off + k * 3, none⟩)) w' := by go_simp
    refine runs_value rfl ?_ ⟨rfl, Grow.refl _ _, hJ⟩
    rw [show b.eval (.tmp 142) = _ from e]
    exact hr
   | 6, _ =>
    obtain rfl := Option.some.inj ho
    have e : b.tmps.getD 143 undef = .pointer (some ⟨lb, off + k * 3, none⟩) := (hd 5 (by kernel_rfl) (by decide)).2
    have hc : w'.cell? ⟨lb, off + k * 3, none⟩ = some (.string lname) := ((HN.out.bel hJ.1).cell (p := ⟨lb, off + k * 3, none⟩) HD.out.2.2.2).trans ((HH.out.2.1.cell (p := ⟨lb, off + k * 3, none⟩) HD.out.2.2.2).trans HD.out.1)
    have hr : (Instr.loadAt 9 (.pointer (some ⟨lb, off + k * 3, none⟩))).run Tryz.prog w' = .ok (.string lname) w' := by go_simp
    refine runs_value rfl ?_ ⟨rfl, Grow.refl _ _, hJ⟩
    rw [show b.eval (.tmp 143) = _ from e]
    exact hr
   | 7, _ =>
    obtain rfl := Option.some.inj ho
    have e : b.tmps.getD 144 undef = .string lname := (hd 6 (by kernel_rfl) (by decide)).2
    refine runs_call rfl (fun _ _ => rfl) ?_
    show Calls _ _ #[b.tmps.getD 144 undef] w' _
    rw [e]
    exact (CB1.out w').mono fun e w'' h => by
     obtain ⟨z, h1, h2, h3⟩ := h
     exact ⟨z, h1, RowF.own h2 fun k hk => Nat.lt_of_lt_of_le (HN.out.old k hk) hJ.1.size, Grow.below h3 _, hJ.new h3⟩
   | 8, _ =>
    obtain rfl := Option.some.inj ho
    have hu : d 8 = false := hu
    have e1 : b.tmps.getD 138 undef = vl := (hd 0 (by kernel_rfl) (by decide)).2
    obtain ⟨A1, c1, ex, hrd⟩ := ((hd 7 (by kernel_rfl) (by decide)).2 : RowF _ _ _ _).rd
    have e2 : b.tmps.getD 145 undef = .slice A1 _ c1 := ex
    have how := hJ.2
    rw [hu, if_neg (by decide)] at how
    obtain ⟨z, w'', hrun, ho, hgr⟩ := run_append_ownB w' 35 (xb + 1) vl _ _ A1 c1 how hrd (by omega) (Nat.le_trans HN.out.big hJ.1.size)
    refine runs_value (X := Builtin.append_ #[35, 35] 35 #[b.tmps.getD 138 undef, b.tmps.getD 145 undef]) (by unfold execOp; simp [resolve, invoke, builtin, Act.eval]) (by rw [e1, e2]; exact hrun) ⟨trivial, hgr, Grow.trans hJ.1 hgr, by rw [if_pos (by first | rfl | simp)]; exact ho⟩
   | 9, _ =>
    obtain rfl := Option.some.inj ho
    have e : b.tmps.getD 1 undef = .pointer (some ⟨xb, 0, none⟩) := hx 1 rfl
    have hr : (Instr.fieldAt 27 (.pointer (some ⟨xb, 0, none⟩)) 2).run Tryz.prog w' = .ok (.pointer (some ⟨xb, 2, none⟩)) w' := by go_simp
    refine runs_value rfl ?_ ⟨rfl, Grow.refl _ _, hJ⟩
    rw [show b.eval (.tmp 1) = _ from e]
    exact hr
   | 10, _ =>
    obtain rfl := Option.some.inj ho
    have e : b.tmps.getD 147 undef = .pointer (some ⟨xb, 2, none⟩) := (hd 9 (by kernel_rfl) (by decide)).2
    have hc : w'.cell? ⟨xb, 2, none⟩ = some (.slice (some ⟨lb, off, none⟩) NL cl) := (by rw [← HSL.out.2.2]; exact (HN.out.1.growO HN.out.2.1 (by decide) hJ.1).cell 2 _ (HXC.out 2 _ rfl))
    have hr : (Instr.loadAt 24 (.pointer (some ⟨xb, 2, none⟩))).run Tryz.prog w' = .ok (.slice (some ⟨lb, off, none⟩) NL cl) w' := by go_simp
    refine runs_value rfl ?_ ⟨rfl, Grow.refl _ _, hJ⟩
    rw [show b.eval (.tmp 147) = _ from e]
    exact hr
   | 11, _ =>
    obtain rfl := Option.some.inj ho
    exact ⟨hx 8 rfl, Grow.refl _ _, hJ⟩
   | 12, _ =>
    obtain rfl := Option.some.inj ho
    have e1 : b.tmps.getD 148 undef = .slice (some ⟨lb, off, none⟩) NL cl := (hd 10 (by kernel_rfl) (by decide)).2
    have e2 : b.tmps.getD 149 undef = .int .i64 (k : Int) := (hd 11 (by kernel_rfl) (by decide)).2
    have hr : (Instr.indexAt 24 (.slice (some ⟨lb, off, none⟩) NL cl) (.int .i64 (k : Int))).run Tryz.prog w' = .ok (.pointer (some ⟨lb, off + k * 3, none⟩)) w' := by go_simp
    refine runs_value rfl ?_ ⟨rfl, Grow.refl _ _, hJ⟩
    rw [show b.eval (.tmp 148) = _ from e1, show b.eval (.tmp 149) = _ from e2]
    exact hr
   | 13, _ =>
    obtain rfl := Option.some.inj ho
    have e : b.tmps.getD 150 undef = .pointer (some ⟨lb, off + k * 3, none⟩) := (hd 12 (by kernel_rfl) (by decide)).2
    have hr : (Instr.fieldAt 67 (.pointer (some ⟨lb, off + k * 3, none⟩)) 1).run Tryz.prog w' = .ok (.pointer (some ⟨lb, off + k * 3 + 1, none⟩)) w' := by go_simp
    refine runs_value rfl ?_ ⟨rfl, Grow.refl _ _, hJ⟩
    rw [show b.eval (.tmp 150) = _ from e]
    exact hr
   | 14, _ =>
    obtain rfl := Option.some.inj ho
    have e : b.tmps.getD 151 undef = .pointer (some ⟨lb, off + k * 3 + 1, none⟩) := (hd 13 (by kernel_rfl) (by decide)).2
    have hc : w'.cell? ⟨lb, off + k * 3 + 1, none⟩ = some (.slice As NS cs') := ((HN.out.bel hJ.1).cell (p := ⟨lb, off + k * 3 + 1, none⟩) HD.out.2.2.2).trans ((HH.out.2.1.cell (p := ⟨lb, off + k * 3 + 1, none⟩) HD.out.2.2.2).trans HD.out.2.1)
    have hr : (Instr.loadAt 45 (.pointer (some ⟨lb, off + k * 3 + 1, none⟩))).run Tryz.prog w' = .ok (.slice As NS cs') w' := by go_simp
    refine runs_value rfl ?_ ⟨rfl, Grow.refl _ _, hJ⟩
    rw [show b.eval (.tmp 151) = _ from e]
    exact hr
   | 15, _ =>
    obtain rfl := Option.some.inj ho
    have e : b.tmps.getD 152 undef = .slice As NS cs' := (hd 14 (by kernel_rfl) (by decide)).2
    refine runs_call rfl (fun _ _ => rfl) ?_
    show Calls _ _ #[b.tmps.getD 152 undef] w' _
    rw [e]
    exact (CB2.out w' (HRW.out _ (HH.out.2.1.trans (HN.out.bel hJ.1)))).mono fun e w'' h => by
     obtain ⟨z, h1, h2, h3⟩ := h
     exact ⟨z, h1, RowF.own h2 fun k hk => Nat.lt_of_lt_of_le (HN.out.old k hk) hJ.1.size, Grow.below h3 _, hJ.new h3⟩
   | n + 16, h => exact absurd h (by simp)
  intro d vals w' hJ hall hf
  have hk : d 8 = true := hall 8 (by decide)
  rw [hk] at hJ
  obtain ⟨A2, c2, t2, hrd⟩ := (hf 15 (by decide) : RowF _ _ _ _).rd
  have how := hJ.2
  rw [if_pos rfl] at how
  obtain ⟨v1, hv1⟩ : ∃ v, v = vals 8 := ⟨_, rfl⟩
  rw [← hv1] at how hJ
  simp only [puts, List.length_cons, List.length_nil, Nat.zero_add, Nat.reduceAdd, List.drop_succ_cons, List.drop_zero, t2, ← hv1]
  have h1 := HN.out.app how hJ.1
  have l1 : w'.ownsRow (xb + 1) 3 1 v9 (2 * m) (MV.map iv) := own_grown HO.out hJ.1 fun q h1 h2 => own_own HO.out HN.out.2.1 (by decide) q h1 h2
  have n1 : (P ++ B1).length = P.length + B1.length := List.length_append
  clear t2 hf hall hJ hv1 hk CB1 CB2
  try go_frame
  refine wpList_append_ownB w' rfl (.tmp 146) (.tmp 153) rfl (xb + 1) v1 (P ++ B1) (B2) A2 c2 rfl rfl how hrd (by omega) (h1.big) ?_
  intro v2 w2 ho hgr
  have h2 := h1.app ho hgr
  have l2 : w2.ownsRow (xb + 1) 3 1 v9 (2 * m) (MV.map iv) := own_grown l1 hgr fun q q1 q2 => own_own l1 h1.2.1 (by decide) q q1 q2
  have n2 : (P ++ B1 ++ B2).length = P.length + B1.length + B2.length := by rw [List.length_append, n1]
  obtain ⟨Ai, ci, rfl, hri, hci, hci2⟩ := own_rd (B := 0) l2
  have cI := CB3.out Ai ci w2 hri hci hci2
  have CI := Lib.hid cI
  have HN := Lib.hid h2
  clear how hrd ho hgr h1 h2 l1 l2 n1 HO CB3 hri hci hci2 cI
  obtain ⟨n9, hn9⟩ : ∃ n, n = 2 * m := ⟨_, rfl⟩
  rw [← hn9] at CI ⊢
  clear hn9
  go_wp2_with fail
  refine CI.out.mono ?_
  rintro e w3 ⟨v3, rfl, hown, hb3⟩
  obtain ⟨A3, c3', rfl, hr3, -, -⟩ := own_rd (B := 0) hown
  have h3 := HN.out.new hb3
  have H3 := Lib.hid (And.intro h3 hr3)
  clear CI hown h3 hr3 hb3 HN
  go_wp2_with (at_builtin; refine wpList_append_ownB _ rfl (.tmp 155) (.tmp 157) rfl (xb + 1) v2 (P ++ B1 ++ B2) B3 A3 c3' rfl rfl H3.out.1.2.1 H3.out.2 (by omega) H3.out.1.big ?_; intro v4 w4 ho hgr; have HA := Lib.hid (And.intro ho hgr); clear ho hgr)
  have h4 := H3.out.1.app HA.out.1 HA.out.2
  have HN := Lib.hid h4
  clear h4 HA H3 n2 hS1
  go_roundw
  case rel => exact ⟨_, k + 1, P ++ B1 ++ B2 ++ B3, rfl, by go_num, by omega, HQ.out.1, by have := HQ.out.2.1; rw [Nat.mul_succ]; omega, HN.out⟩
  case measure => simp [intOf]; omega
 obtain rfl : k = NL := by omega
 have hPs2 : P.length ≤ 1342200 := by omega
 have hPK : P = L0 ++ lives.flatMap Sm.encLf := by rw [HP.out, List.take_of_length_le (by rw [← HZ.out.2.2.1]; exact Nat.le_refl _)]
 obtain ⟨E4, hE4⟩ : ∃ l, l = M.encI (NR : Int) := ⟨_, rfl⟩
 have nE4 : E4.length ≤ 9 := by rw [hE4]; exact Sm.encN_le (by omega)
 have cE4 := fun w => refInt_any (NR : Int) w (M.I64_nat NR (by omega))
 unfold IntPost at cE4
 simp only [← hE4] at cE4
 have CE4 := Lib.hid (cE4 Wl)
 have HE4 := Lib.hid hE4
 have c3 := HX.out _ _ _ hst 3 _ rfl
 have H5 := Lib.hid hst
 have HPK := Lib.hid hPK
 clear hPs hPK hst HP hk hlk cE4 hE4
 go_wp2_with fail
 refine CE4.out.mono ?_
 rintro e w3 ⟨v3, rfl, hown, hb3⟩
 obtain ⟨A3, c3', rfl, hr3, -, -⟩ := own_rd (B := 0) hown
 have h3 := H5.out.new hb3
 have H3 := Lib.hid (And.intro h3 hr3)
 clear CE4 c2 c3 hown h3 hr3 hb3 H5
 go_wp2_with (at_builtin; refine wpList_append_ownB _ rfl (.tmp 159) (.tmp 163) rfl (xb + 1) vl P E4 A3 c3' rfl rfl H3.out.1.2.1 H3.out.2 (by omega) H3.out.1.big ?_; intro v4 w4 ho hgr; have HA := Lib.hid (And.intro ho hgr); clear ho hgr)
 have h4 := H3.out.1.app HA.out.1 HA.out.2
 obtain ⟨R0, hR0⟩ : ∃ l, l = P ++ E4 := ⟨_, rfl⟩
 have n0 : R0.length ≤ 1342300 := by rw [hR0, List.length_append]; omega
 rw [← hR0] at h4
 have HR0 := Lib.hid hR0
 have H4 := Lib.hid h4
 clear h4 hR0 HA H3 hPs2 nE4
 go_loopw [3, 11, 12] (fun u i a2 wr => ∃ (v : Value) (m : Nat) (V : List UInt8), u = v ∧ i = .int .i64 m ∧ m ≤ NR ∧ V = R0 ++ (rules.take m).flatMap Sm.encRu ∧ V.length ≤ 1342300 + 500 * m ∧ EnO W xb xc v V wr) (fun _ i _ _ => NR - (intOf i).toNat)
 case atStart => exact ⟨_, 0, R0, rfl, rfl, Nat.zero_le _, (List.append_nil _).symm, n0, H4.out⟩
 case round =>
 clear H4
 obtain ⟨vr, m, V, hv, rfl, hm, hV, hVs, hst⟩ := hrel
 replace hv := hv.symm
 subst hv
 have HV := Lib.hid hV
 clear hV
 obtain ⟨Wf, hWf⟩ : ∃ W, W = wr := ⟨_, rfl⟩
 rw [← hWf] at hst ⊢
 clear hWf
 have c3 := HX.out _ _ _ hst 3 _ rfl
 by_cases hlt : m < NR
 ·have hlt2 : m < rules.length := by rw [← HZ.out.2.2.2.1]; exact hlt
  have hg : rules[m]? = some rules[m] := List.getElem?_eq_getElem hlt2
  have hft := M.flat_take Sm.encRu rules m hlt2
  have hsk := HSS.out.2.2 _ (List.getElem_mem hlt2)
  obtain ⟨ru, hru⟩ : ∃ f, f = rules[m] := ⟨_, rfl⟩
  rw [← hru] at hg hft hsk
  have hkl := Sm.encRu_le hsk
  have hbW : Below W.heap.size W Wf := HXB.out ▸ hst.2.2
  obtain ⟨rn, rk, ra, rb, rv⟩ := ru
  obtain ⟨lb, off, cs, hA, hbl, hcs, hcell⟩ := (HR.out.2.2.keep (Keep.of hbW) fun _ _ q => q).at (by decide) (fun _ _ => RuC.size) m _ hg
  obtain rfl := hcs
  dsimp only at hcell
  have d0 : Wf.cell? ⟨lb, off + m * 5, none⟩ = some (.string rn) := hcell 0 _ rfl
  have d1 := hcell 1 _ rfl
  have d2 := hcell 2 _ rfl
  have d3 := hcell 3 _ rfl
  have d4 := hcell 4 _ rfl
  have j1 : (m : Int) < NR := by omega
  have hs4 : ∀ s ∈ [rn, rk, ra, rb], s.size ≤ 100 := by
   intro s hs
   simp only [List.mem_cons, List.not_mem_nil, or_false] at hs
   rcases hs with rfl | rfl | rfl | rfl
   ·exact hsk.name
   ·exact hsk.kind
   ·exact hsk.a
   ·exact hsk.b
  have hfl4 := Sm.flat_le encS 109 [rn, rk, ra, rb] fun a ha => Sm.encS_le (hs4 a ha)
  have hI := Sm.num_i64 hsk.n
  obtain ⟨B1, hB1⟩ : ∃ l, l = M.encL encS [rn, rk, ra, rb] := ⟨_, rfl⟩
  obtain ⟨B2, hB2⟩ : ∃ l, l = M.encI rv := ⟨_, rfl⟩
  have hall : Sm.encRu ⟨rn, rk, ra, rb, rv⟩ = B1 ++ B2 := by rw [hB1, hB2]; rfl
  have hsum : B1.length + B2.length ≤ 500 := by rw [hall] at hkl; simp only [List.length_append] at hkl; omega
  have cB1 := fun g w (hr : Blk w g ([rn, rk, ra, rb].map sv) 9) => refStrings_any (some ⟨g, 0, none⟩) 4 [rn, rk, ra, rb] w (blk_rdE hr) (Nat.le_refl _) (by decide) (Nat.le_trans hfl4 (by show 109 * 4 ≤ 900000000; decide)) (by show 4 ≤ 900000000; decide)
  have cB2 := fun w => refInt_any rv w hI
  unfold IntPost at cB2
  simp only [← hB1] at cB1
  simp only [← hB2] at cB2
  have hnx : V ++ B1 ++ B2 = R0 ++ (rules.take (m + 1)).flatMap Sm.encRu := by rw [hft, HV.out, hall]; simp only [List.append_assoc]
  have hxl : (V ++ B1 ++ B2).length ≤ V.length + 500 := by simp only [List.length_append]; omega
  have hfb := Blk.new Wf [.string rn, .string rk, .string ra, .string rb, .int .i64 rv] 70
  have hna := hst.new (alloc_belowE Wf (.cells [.string rn, .string rk, .string ra, .string rb, .int .i64 rv].toArray 70))
  have HQ := Lib.hid (And.intro hnx hxl)
  have CB1 := Lib.hid cB1
  have CB2 := Lib.hid cB2
  have HSUM := Lib.hid hsum
  rw [hA] at c3
  clear hft hg hru hsk hlt2 hst hkl hbW hcell hs4 hfl4 hI hB1 hB2 hall hsum cB1 cB2 hnx hxl hA
  go_upto_region 30 with fail
  clear d0 d1 d2 d3 d4 c3
  obtain ⟨W2, hW2⟩ : ∃ W, W = Wf.alloc (.cells #[.string rn, .string rk, .string ra, .string rb, .int .i64 rv] 70) := ⟨_, rfl⟩
  have hW3 : W2 = Wf.alloc (.cells [.string rn, .string rk, .string ra, .string rb, .int .i64 rv].toArray 70) := hW2
  rw [← hW2]
  rw [← hW3] at hfb hna
  clear hW2 hW3
  obtain ⟨fb, hfbn⟩ : ∃ k, k = Wf.heap.size := ⟨_, rfl⟩
  rw [← hfbn] at hfb ⊢
  clear hfbn
  have HN := Lib.hid (And.intro hna hfb)
  have hS1 := HSUM.out
  clear hna hfb
  refine wp_region_statelist [177, 178, 179, 180, 181, 182, 183, 184, 185, 186, 187, 188, 189, 190, 191] (fun d vals w' => EnJ (xb + 1) W2 vr (V) (V ++ B1) (d 11) (vals 11) w') (fun w' w'' => w'.grownBy w'' vr.ownBlock) [fun u _ => u = vr, fun u _ => u = .pointer (some ⟨fb, 0, none⟩), fun u _ => u = .string rn, fun u _ => u = .pointer (some ⟨fb, 1, none⟩), fun u _ => u = .string rk, fun u _ => u = .pointer (some ⟨fb, 2, none⟩), fun u _ => u = .string ra, fun u _ => u = .pointer (some ⟨fb, 3, none⟩), fun u _ => u = .string rb, BltF vr.ownBlock ([rn, rk, ra, rb].map sv) 4 9, RowF vr.ownBlock (B1), fun _ _ => True, fun u _ => u = .pointer (some ⟨fb, 4, none⟩), fun u _ => u = .int .i64 rv, RowF vr.ownBlock (B2)]
   (by
    intro f hf u w' w'' h hr
    simp only [List.mem_cons, List.not_mem_nil, or_false] at hf
    rcases hf with rfl | rfl | rfl | rfl | rfl | rfl | rfl | rfl | rfl | rfl | rfl | rfl | rfl | rfl | rfl
    all_goals first | exact h | exact RowF.grow h hr | exact BltF.grow h hr)
   (fun _ => ⟨Grow.drew _ _ _, by rw [if_neg (by decide)]; exact HN.out.1.2.1⟩) (by kernel_rfl) (by kernel_rfl) ?_ ?_
  ·intro y hy d vals b w' hJ hu hd hall hx o ho
   match y, hy with
   | 0, _ =>
    obtain rfl := Option.some.inj ho
    exact ⟨hx 3 rfl, Grow.refl _ _, hJ⟩
   | 1, _ =>
    obtain rfl := Option.some.inj ho
    have e : b.tmps.getD 12 undef = .pointer (some ⟨fb, 0, none⟩) := hx 12 rfl
    have hr : (Instr.fieldAt 70 (.pointer (some ⟨fb, 0, none⟩)) 0).run Tryz.prog w' = .ok (.pointer (some ⟨fb, 0, none⟩)) w' := by go_simp
    refine runs_value rfl ?_ ⟨rfl, Grow.refl _ _, hJ⟩
    rw [show b.eval (.tmp 12) = _ from e]
    exact hr
   | 2, _ =>
    obtain rfl := Option.some.inj ho
    have e : b.tmps.getD 178 undef = .pointer (some ⟨fb, 0, none⟩) := (hd 1 (by kernel_rfl) (by decide)).2
    have hc : w'.cell? ⟨fb, 0, none⟩ = some (.string rn) := ((HN.out.2.growO HN.out.1.2.1 (by decide) hJ.1).cell 0 _ rfl)
    have hr : (Instr.loadAt 9 (.pointer (some ⟨fb, 0, none⟩))).run Tryz.prog w' = .ok (.string rn) w' := by go_simp
    refine runs_value rfl ?_ ⟨rfl, Grow.refl _ _, hJ⟩
    rw [show b.eval (.tmp 178) = _ from e]
    exact hr
   | 3, _ =>
    obtain rfl := Option.some.inj ho
    have e : b.tmps.getD 12 undef = .pointer (some ⟨fb, 0, none⟩) := hx 12 rfl
    have hr : (Instr.fieldAt 70 (.pointer (some ⟨fb, 0, none⟩)) 1).run Tryz.prog w' = .ok (.pointer (some ⟨fb, 1, none⟩)) w' := by go_simp
    refine runs_value rfl ?_ ⟨rfl, Grow.refl _ _, hJ⟩
    rw [show b.eval (.tmp 12) = _ from e]
    exact hr
   | 4, _ =>
    obtain rfl := Option.some.inj ho
    have e : b.tmps.getD 180 undef = .pointer (some ⟨fb, 1, none⟩) := (hd 3 (by kernel_rfl) (by decide)).2
    have hc : w'.cell? ⟨fb, 1, none⟩ = some (.string rk) := ((HN.out.2.growO HN.out.1.2.1 (by decide) hJ.1).cell 1 _ rfl)
    have hr : (Instr.loadAt 9 (.pointer (some ⟨fb, 1, none⟩))).run Tryz.prog w' = .ok (.string rk) w' := by go_simp
    refine runs_value rfl ?_ ⟨rfl, Grow.refl _ _, hJ⟩
    rw [show b.eval (.tmp 180) = _ from e]
    exact hr
   | 5, _ =>
    obtain rfl := Option.some.inj ho
    have e : b.tmps.getD 12 undef = .pointer (some ⟨fb, 0, none⟩) := hx 12 rfl
    have hr : (Instr.fieldAt 70 (.pointer (some ⟨fb, 0, none⟩)) 2).run Tryz.prog w' = .ok (.pointer (some ⟨fb, 2, none⟩)) w' := by go_simp
    refine runs_value rfl ?_ ⟨rfl, Grow.refl _ _, hJ⟩
    rw [show b.eval (.tmp 12) = _ from e]
    exact hr
   | 6, _ =>
    obtain rfl := Option.some.inj ho
    have e : b.tmps.getD 182 undef = .pointer (some ⟨fb, 2, none⟩) := (hd 5 (by kernel_rfl) (by decide)).2
    have hc : w'.cell? ⟨fb, 2, none⟩ = some (.string ra) := ((HN.out.2.growO HN.out.1.2.1 (by decide) hJ.1).cell 2 _ rfl)
    have hr : (Instr.loadAt 9 (.pointer (some ⟨fb, 2, none⟩))).run Tryz.prog w' = .ok (.string ra) w' := by go_simp
    refine runs_value rfl ?_ ⟨rfl, Grow.refl _ _, hJ⟩
    rw [show b.eval (.tmp 182) = _ from e]
    exact hr
   | 7, _ =>
    obtain rfl := Option.some.inj ho
    have e : b.tmps.getD 12 undef = .pointer (some ⟨fb, 0, none⟩) := hx 12 rfl
    have hr : (Instr.fieldAt 70 (.pointer (some ⟨fb, 0, none⟩)) 3).run Tryz.prog w' = .ok (.pointer (some ⟨fb, 3, none⟩)) w' := by go_simp
    refine runs_value rfl ?_ ⟨rfl, Grow.refl _ _, hJ⟩
    rw [show b.eval (.tmp 12) = _ from e]
    exact hr
   | 8, _ =>
    obtain rfl := Option.some.inj ho
    have e : b.tmps.getD 184 undef = .pointer (some ⟨fb, 3, none⟩) := (hd 7 (by kernel_rfl) (by decide)).2
    have hc : w'.cell? ⟨fb, 3, none⟩ = some (.string rb) := ((HN.out.2.growO HN.out.1.2.1 (by decide) hJ.1).cell 3 _ rfl)
    have hr : (Instr.loadAt 9 (.pointer (some ⟨fb, 3, none⟩))).run Tryz.prog w' = .ok (.string rb) w' := by go_simp
    refine runs_value rfl ?_ ⟨rfl, Grow.refl _ _, hJ⟩
    rw [show b.eval (.tmp 184) = _ from e]
    exact hr
   | 9, _ =>
    obtain rfl := Option.some.inj ho
    have e0 : b.tmps.getD 179 undef = .string rn := (hd 2 (by kernel_rfl) (by decide)).2
    have e1 : b.tmps.getD 181 undef = .string rk := (hd 4 (by kernel_rfl) (by decide)).2
    have e2 : b.tmps.getD 183 undef = .string ra := (hd 6 (by kernel_rfl) (by decide)).2
    have e3 : b.tmps.getD 185 undef = .string rb := (hd 8 (by kernel_rfl) (by decide)).2
    have hbs : (Instr.buildSlice 45 4 #[(0, .string rn), (1, .string rk), (2, .string ra), (3, .string rb)]).run Tryz.prog w' = .ok (.slice (some ⟨w'.heap.size, 0, none⟩) 4 4) (w'.alloc (.cells #[.string rn, .string rk, .string ra, .string rb] 9)) := by go_simp
    rw [← e0, ← e1, ← e2, ← e3] at hbs
    have hbel := alloc_belowE w' (.cells #[.string rn, .string rk, .string ra, .string rb] 9)
    have hblk : Blk (w'.alloc (.cells #[.string rn, .string rk, .string ra, .string rb] 9)) w'.heap.size ([rn, rk, ra, rb].map sv) 9 := Blk.new w' ([rn, rk, ra, rb].map sv) _
    rw [← e0, ← e1, ← e2, ← e3] at hbel hblk
    refine runs_value (X := Instr.buildSlice 45 4 #[(0, b.tmps.getD 179 undef), (1, b.tmps.getD 181 undef), (2, b.tmps.getD 183 undef), (3, b.tmps.getD 185 undef)]) (by unfold execOp; simp [Act.eval]) hbs ⟨⟨w'.heap.size, rfl, hblk, fun x => ?_⟩, Grow.below hbel _, hJ.new hbel⟩
    exact absurd (Nat.lt_of_lt_of_le (HN.out.1.old _ x.symm) hJ.1.size) (Nat.lt_irrefl _)
   | 10, _ =>
    obtain rfl := Option.some.inj ho
    obtain ⟨g1, ex, hgb, -⟩ := (hd 9 (by kernel_rfl) (by decide)).2
    have e : b.tmps.getD 186 undef = .slice (some ⟨g1, 0, none⟩) _ _ := ex
    refine runs_call rfl (fun _ _ => rfl) ?_
    show Calls _ _ #[b.tmps.getD 186 undef] w' _
    rw [e]
    exact (CB1.out g1 w' hgb).mono fun e w'' h => by
     obtain ⟨z, h1, h2, h3⟩ := h
     exact ⟨z, h1, RowF.own h2 fun k hk => Nat.lt_of_lt_of_le (HN.out.1.old k hk) hJ.1.size, Grow.below h3 _, hJ.new h3⟩
   | 11, _ =>
    obtain rfl := Option.some.inj ho
    have hu : d 11 = false := hu
    have e1 : b.tmps.getD 177 undef = vr := (hd 0 (by kernel_rfl) (by decide)).2
    obtain ⟨A1, c1, ex, hrd⟩ := ((hd 10 (by kernel_rfl) (by decide)).2 : RowF _ _ _ _).rd
    have e2 : b.tmps.getD 187 undef = .slice A1 _ c1 := ex
    have how := hJ.2
    rw [hu, if_neg (by decide)] at how
    obtain ⟨z, w'', hrun, ho, hgr⟩ := run_append_ownB w' 35 (xb + 1) vr _ _ A1 c1 how hrd (by omega) (Nat.le_trans HN.out.1.big hJ.1.size)
    refine runs_value (X := Builtin.append_ #[35, 35] 35 #[b.tmps.getD 177 undef, b.tmps.getD 187 undef]) (by unfold execOp; simp [resolve, invoke, builtin, Act.eval]) (by rw [e1, e2]; exact hrun) ⟨trivial, hgr, Grow.trans hJ.1 hgr, by rw [if_pos (by first | rfl | simp)]; exact ho⟩
   | 12, _ =>
    obtain rfl := Option.some.inj ho
    have e : b.tmps.getD 12 undef = .pointer (some ⟨fb, 0, none⟩) := hx 12 rfl
    have hr : (Instr.fieldAt 70 (.pointer (some ⟨fb, 0, none⟩)) 4).run Tryz.prog w' = .ok (.pointer (some ⟨fb, 4, none⟩)) w' := by go_simp
    refine runs_value rfl ?_ ⟨rfl, Grow.refl _ _, hJ⟩
    rw [show b.eval (.tmp 12) = _ from e]
    exact hr
   | 13, _ =>
    obtain rfl := Option.some.inj ho
    have e : b.tmps.getD 189 undef = .pointer (some ⟨fb, 4, none⟩) := (hd 12 (by kernel_rfl) (by decide)).2
    have hc : w'.cell? ⟨fb, 4, none⟩ = some (.int .i64 rv) := ((HN.out.2.growO HN.out.1.2.1 (by decide) hJ.1).cell 4 _ rfl)
    have hr : (Instr.loadAt 3 (.pointer (some ⟨fb, 4, none⟩))).run Tryz.prog w' = .ok (.int .i64 rv) w' := by go_simp
    refine runs_value rfl ?_ ⟨rfl, Grow.refl _ _, hJ⟩
    rw [show b.eval (.tmp 189) = _ from e]
    exact hr
   | 14, _ =>
    obtain rfl := Option.some.inj ho
    have e : b.tmps.getD 190 undef = .int .i64 rv := (hd 13 (by kernel_rfl) (by decide)).2
    refine runs_call rfl (fun _ _ => rfl) ?_
    show Calls _ _ #[b.tmps.getD 190 undef] w' _
    rw [e]
    exact (CB2.out w').mono fun e w'' h => by
     obtain ⟨z, h1, h2, h3⟩ := h
     exact ⟨z, h1, RowF.own h2 fun k hk => Nat.lt_of_lt_of_le (HN.out.1.old k hk) hJ.1.size, Grow.below h3 _, hJ.new h3⟩
   | n + 15, h => exact absurd h (by simp)
  intro d vals w' hJ hall hf
  have hk : d 11 = true := hall 11 (by decide)
  rw [hk] at hJ
  obtain ⟨A2, c2, t2, hrd⟩ := (hf 14 (by decide) : RowF _ _ _ _).rd
  have how := hJ.2
  rw [if_pos rfl] at how
  obtain ⟨v1, hv1⟩ : ∃ v, v = vals 11 := ⟨_, rfl⟩
  rw [← hv1] at how hJ
  simp only [puts, List.length_cons, List.length_nil, Nat.zero_add, Nat.reduceAdd, List.drop_succ_cons, List.drop_zero, t2, ← hv1]
  have h1 := HN.out.1.app how hJ.1
  have n1 : (V ++ B1).length = V.length + B1.length := List.length_append
  clear t2 hf hall hJ hv1 hk CB1 CB2
  try go_frame
  refine wpList_append_ownB w' rfl (.tmp 188) (.tmp 191) rfl (xb + 1) v1 (V ++ B1) (B2) A2 c2 rfl rfl how hrd (by omega) (h1.big) ?_
  intro v2 w2 ho hgr
  have h2 := h1.app ho hgr
  clear how hrd ho hgr h1 HN n1
  have HN := Lib.hid h2
  clear h2 hS1
  go_wp2_with fail
  go_roundw
  case rel => exact ⟨_, m + 1, V ++ B1 ++ B2, rfl, by go_num, by omega, HQ.out.1, by have := HQ.out.2; rw [Nat.mul_succ]; omega, HN.out⟩
  case measure => simp [intOf]; omega
 obtain rfl : m = NR := by omega
 have hVz : V = z := by
  rw [HV.out, List.take_of_length_le (by rw [← HZ.out.2.2.2.1]; exact Nat.le_refl _), HR0.out, HPK.out, HL0.out, HLK.out, HE0.out, HZ.out.1, HE3.out, HE4.out, HZ.out.2.2.2.2.1, HZ.out.2.2.2.2.2]
  simp only [List.append_assoc]
 rw [hVz] at hst
 have H5 := Lib.hid hst
 clear hVz hst HV hm hlt hVs
 go_wp2_with fail
 go_ret
 exact ⟨_, rfl, own_base H5.out.2.1 (by have := HXB.out; omega), HXB.out ▸ H5.out.2.2⟩
end Go.Proofs.YtkgddcemocfgfaaGreatDoor
end

