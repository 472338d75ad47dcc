import Derived.Test.YtkgddcemocfgfaaGreatDoorJZSmHb
import Derived.Test.YtkgddcemocfgfaaGreatDoorJZSmRt

section
/- The program: source. -/


namespace Go.Proofs.YtkgddcemocfgfaaGreatDoor
open Go.RowKit
set_option linter.unusedVariables false
set_option linter.unusedSimpArgs false
set_option maxRecDepth 100000

set_option maxHeartbeats 32000000 in
theorem gSource_any (x : Sm.Sc) (Ak : Option Addr) (ck : Nat) (Al : Option Addr) (cl : Nat) (Ar : Option Addr) (cr : Nat) (W : World) (hD : SDoor W) (hg : doorB ≤ W.heap.size) (hK : Rows KdC W W.heap.size Ak x.kinds) (hL : Rows LfC W W.heap.size Al x.lives) (hR : Rows RuC W W.heap.size Ar x.rules) (hS : Sm.SmallS x) :
  Calls Tryz.prog 39 #[.agg #[.int .i64 x.version, .slice Ak x.kinds.length ck, .slice Al x.lives.length cl, .slice Ar x.rules.length cr]] W fun e w' => e = .returned (.string (Sm.sourceG x)) ∧ Below W.heap.size W w' := by
 obtain ⟨z, hz⟩ : ∃ z, z = Sm.sourceG x := ⟨_, rfl⟩
 rw [← hz]
 unfold Sm.sourceG at hz
 obtain ⟨version, kinds, lives, rules⟩ := x
 dsimp only at hz hK hL hR ⊢
 have hv := hS.version
 have hsK := hS.kinds
 have hsL := hS.lives
 have hsR := hS.rules
 have s1 := hS.fewk
 have s2 := hS.fewl
 have s3 := hS.fewr
 dsimp only at hv hsK hsL hsR s1 s2 s3
 unfold Sm.num at hv
 obtain ⟨v1, v2⟩ := hv
 obtain ⟨NK, hNK⟩ : ∃ n, n = kinds.length := ⟨_, rfl⟩
 obtain ⟨NL, hNL⟩ : ∃ n, n = lives.length := ⟨_, rfl⟩
 obtain ⟨NR, hNR⟩ : ∃ n, n = rules.length := ⟨_, rfl⟩
 rw [← hNK] at s1
 rw [← hNL] at s2
 rw [← hNR] at s3
 rw [← hNK, ← hNL, ← hNR]
 obtain ⟨xb, hxb⟩ : ∃ n, n = W.heap.size := ⟨_, rfl⟩
 obtain ⟨xc, hxc⟩ : ∃ c : List Value, c = [.int .i64 version, .slice Ak NK ck, .slice Al NL cl, .slice Ar NR cr] := ⟨_, rfl⟩
 have hxcell : ∀ (o : ByteArray) (w : World), SoSt W xb xc o w → ∀ (i : Nat) (u : Value), [.int .i64 version, .slice Ak NK ck, .slice Al NL cl, .slice Ar NR cr][i]? = some u → w.cell? ⟨xb, i, none⟩ = some u := fun o w h i u hu => h.1.cell i u (by rw [hxc]; exact hu)
 have hDw : ∀ (o : ByteArray) (w : World), SoSt W xb xc o w → SDoor w := fun o w h => hD.below (hxb ▸ h.2.2.2) hg
 have hst : SoSt W xb xc ⟨#[]⟩ (((W.alloc (.cells #[.int .i64 version, .slice Ak NK ck, .slice Al NL cl, .slice Ar NR cr] 27)).alloc (.cells #[.pointer none, .slice none 0 0] 139)).alloc (.cells #[.pointer (some ⟨xb + 1, 0, none⟩)] 137)) := by
  obtain ⟨w1, hw1⟩ : ∃ w, w = W.alloc (.cells #[.int .i64 version, .slice Ak NK ck, .slice Al NL cl, .slice Ar NR cr] 27) := ⟨_, rfl⟩
  have k1 : Blk w1 xb xc 27 := by rw [hw1, hxb, hxc]; exact Blk.new W _ _
  have z1 : w1.heap.size = xb + 1 := by rw [hw1, World.size_alloc, hxb]
  have b1 : Below xb W w1 := by rw [hw1, hxb]; exact alloc_belowS _ _
  rw [← hw1]
  obtain ⟨w2, hw2⟩ : ∃ w, w = w1.alloc (.cells #[.pointer none, .slice none 0 0] 139) := ⟨_, rfl⟩
  have k2 : Blk w2 (xb + 1) [.pointer none, .slice none 0 0] 139 := by rw [hw2, ← z1]; exact Blk.new w1 _ _
  have k3 : Blk w2 xb xc 27 := by rw [hw2]; exact k1.alloc _
  have z2 : w2.heap.size = xb + 2 := by rw [hw2, World.size_alloc, z1]
  have b2 : Below xb W w2 := by rw [hw2]; exact b1.alloc (by omega) _
  rw [← hw2]
  have k4 := Blk.new w2 [.pointer (some ⟨xb + 1, 0, none⟩)] 137
  rw [z2] at k4
  refine ⟨k3.alloc _, k4, .inl ⟨by omega, .slice none 0 0, k2.alloc _, ?_, by simp [Value.ownBlock]⟩, b2.alloc (by omega) _⟩
  exact World.ownsRowF_of (World.ownsRow_nil _ _ _ _)
 have HX := Lib.hid hxcell
 have HD := Lib.hid hDw
 have H0 := Lib.hid hst
 have HZ := Lib.hid (And.intro hz (And.intro hNK (And.intro hNL hNR)))
 have HSS := Lib.hid (And.intro hsK (And.intro hsL hsR))
 have HR := Lib.hid (And.intro hK (And.intro hL hR))
 have HXB := Lib.hid hxb
 have HG := Lib.hid hg
 clear hD hg hK hL hR hS hz hNK hNL hNR hxcell hDw hst hsK hsL hsR hxc hxb
 go_enter Tryz.func39, Tryz.ntmps39
 go_upto_region 3 with fail
 rw [← HXB.out, show xb + 1 + 1 = xb + 2 from rfl]
 obtain ⟨w3, hw3⟩ : ∃ w, w = (((W.alloc (.cells #[.int .i64 version, .slice Ak NK ck, .slice Al NL cl, .slice Ar NR cr] 27)).alloc (.cells #[.pointer none, .slice none 0 0] 139)).alloc (.cells #[.pointer (some ⟨xb + 1, 0, none⟩)] 137)) := ⟨_, rfl⟩
 have hst := H0.out
 rw [← hw3] at hst ⊢
 clear hw3 H0
 have cI := gItoa_any version w3 v1 v2 (HD.out _ _ hst)
 have c := HX.out _ _ hst 0 _ rfl
 have CI := Lib.hid cI
 have H0 := Lib.hid hst
 clear cI hst
 go_wp2_with fail
 refine CI.out.mono ?_
 rintro e w4 ⟨rfl, hb⟩
 have cP := soLine_any [⟨#[115, 99, 104, 101, 109, 97]⟩, Sm.itoaB version] (H0.out.new hb) (fun s hs => by
  simp only [List.mem_cons, List.not_mem_nil, or_false] at hs
  have := Sm.itoa_le (n := version) ⟨v1, v2⟩
  rcases hs with rfl | rfl <;> first | omega | decide) (by show 2 ≤ 300; decide) (by decide)
 have CP := Lib.hid cP
 clear cP hb CI c H0
 go_wp2_with fail
 refine CP.out.mono ?_
 rintro e w5 ⟨⟨vv, rfl⟩, hst, -, -⟩
 obtain ⟨O0, hO0⟩ : ∃ o, o = Sm.putLine ⟨#[]⟩ [⟨#[115, 99, 104, 101, 109, 97]⟩, Sm.itoaB version] := ⟨_, rfl⟩
 have hO0s : O0.size ≤ 2000 := by
  have := Sm.put_le ⟨#[]⟩ [⟨#[115, 99, 104, 101, 109, 97]⟩, Sm.itoaB version] 100 2 (fun s hs => by
   simp only [List.mem_cons, List.not_mem_nil, or_false] at hs
   have := Sm.itoa_le (n := version) ⟨v1, v2⟩
   rcases hs with rfl | rfl <;> first | omega | decide) (Nat.le_refl _)
  rw [← hO0] at this
  have e : (ByteArray.mk #[]).size = 0 := rfl
  omega
 rw [← hO0] at hst
 have HO0 := Lib.hid hO0
 have c := HX.out _ _ hst 1 _ rfl
 have H5 := Lib.hid hst
 clear CP hst hO0
 go_wp2_with fail
 clear c
 go_loopw [6, 8, 27] (fun a a2 i wr => ∃ (j : Nat) (O : ByteArray), i = .int .i64 j ∧ j ≤ NK ∧ O = (kinds.take j).foldl Sm.putKind O0 ∧ O.size ≤ 2000 + 210500 * j ∧ SoSt W xb xc O wr) (fun _ _ i _ => NK - (intOf i).toNat)
 case atStart => exact ⟨0, O0, rfl, Nat.zero_le _, rfl, hO0s, H5.out⟩
 case round =>
 clear H5
 obtain ⟨j, O, rfl, hj, hO, hOs, hst⟩ := hrel
 have HO := Lib.hid hO
 clear hO
 obtain ⟨Wr, hWr⟩ : ∃ W, W = wr := ⟨_, rfl⟩
 rw [← hWr] at hst ⊢
 clear hWr
 by_cases hlt : j < NK
 ·have hlt2 : j < kinds.length := by rw [← HZ.out.2.1]; exact hlt
  have hg : kinds[j]? = some kinds[j] := List.getElem?_eq_getElem hlt2
  have hft := fold_take_succ Sm.putKind kinds j _ O0 hg
  have hsk := HSS.out.1 _ (List.getElem_mem hlt2)
  obtain ⟨kd, hkd⟩ : ∃ k, k = kinds[j] := ⟨_, rfl⟩
  rw [← hkd] at hg hft hsk
  rw [← HO.out] at hft
  have hkl := Sm.putKind_le (o := O) hsk
  have hk0 := Sm.put_le O (Sm.kindLine kd) 100 4 (Sm.kindLine_le hsk) (Nat.le_refl _)
  have hk1 := Sm.kindLine_le hsk
  have hbW : Below W.heap.size W Wr := HXB.out ▸ hst.2.2.2
  obtain ⟨kname, klo, khi, fields⟩ := kd
  obtain ⟨b, off, cs, hA, hbl, ⟨Af, cf, rfl, hrf, -⟩, hcell⟩ := (HR.out.1.keep (Keep.of hbW) fun _ _ k => KdC.keep k (Keep.of hbW)).at (by decide) (fun _ _ => KdC.size) j _ hg
  dsimp only at hcell hrf
  obtain ⟨NF, hNF⟩ : ∃ n, n = fields.length := ⟨_, rfl⟩
  rw [← hNF] at hcell
  have d0 : Wr.cell? ⟨b, off + j * 4, none⟩ = some (.string kname) := hcell 0 _ rfl
  have d1 := hcell 1 _ rfl
  have d2 := hcell 2 _ rfl
  have d3 := hcell 3 _ rfl
  have j1 : (j : Int) < NK := by omega
  have hklo := hsk.lo
  have hkhi := hsk.hi
  have hkf := hsk.few
  have hkfs := hsk.fields
  unfold Sm.num at hklo hkhi
  dsimp only at hklo hkhi hkf hkfs
  obtain ⟨m1, m2⟩ := hklo
  obtain ⟨m3, m4⟩ := hkhi
  rw [← hNF] at hkf
  have hkb := Blk.new Wr [.string kname, .int .i64 klo, .int .i64 khi, .slice Af NF cf] 63
  have hna := hst.new (alloc_belowS Wr (.cells [.string kname, .int .i64 klo, .int .i64 khi, .slice Af NF cf].toArray 63))
  have hbig : xb + 2 < Wr.heap.size := hst.2.1.lt
  have HQ := Lib.hid (And.intro hft (And.intro hkl (And.intro hrf (And.intro hNF (And.intro hkfs (And.intro hk0 (And.intro hk1 hbW)))))))
  subst hA
  clear hft hrf hNF hkfs hkd hcell hg hsk hlt2 hst hkl hk0 hk1 hbW
  go_upto_region 7 with fail
  clear d0 d1 d2 d3
  obtain ⟨W2, hW2⟩ : ∃ W, W = Wr.alloc (.cells #[.string kname, .int .i64 klo, .int .i64 khi, .slice Af NF cf] 63) := ⟨_, rfl⟩
  have hW3 : W2 = Wr.alloc (.cells [.string kname, .int .i64 klo, .int .i64 khi, .slice Af NF cf].toArray 63) := hW2
  rw [← hW2]
  rw [← hW3] at hkb hna
  clear hW2 hW3
  obtain ⟨kb, hkbn⟩ : ∃ k, k = Wr.heap.size := ⟨_, rfl⟩
  rw [← hkbn] at hkb hbig ⊢
  clear hkbn

  have HN := Lib.hid (And.intro hna hkb)
  clear hna hkb
  refine wp_region_list [31, 32, 33, 34, 35, 36, 37, 38, 39, 40] [.is (.func (.func 89) #[] #[.pointer (some ⟨xb + 2, 0, none⟩)]), .is (.pointer (some ⟨kb, 0, none⟩)), .is (.string kname), .is (.pointer (some ⟨kb, 1, none⟩)), .is (.int .i64 klo), .is (.string (Sm.itoaB klo)), .is (.pointer (some ⟨kb, 2, none⟩)), .is (.int .i64 khi), .is (.string (Sm.itoaB khi)), .strsF (Sm.kindLine ⟨kname, klo, khi, fields⟩) 4] (by kernel_rfl) (by kernel_rfl) ?_ ?_
  ·intro y0 hy0 b w' hb hd hx o ho
   match y0, hy0 with
   | 0, _ =>
    obtain rfl := Option.some.inj ho
    exact ⟨hx 4 rfl, Below.refl _ _⟩
   | 1, _ =>
    obtain rfl := Option.some.inj ho
    have e : b.tmps.getD 6 undef = .pointer (some ⟨kb, 0, none⟩) := hx 6 rfl
    have hr : (Instr.fieldAt 63 (.pointer (some ⟨kb, 0, none⟩)) 0).run Tryz.prog w' = .ok (.pointer (some ⟨kb, 0, none⟩)) w' := by go_simp
    refine runs_value rfl ?_ ⟨rfl, Below.refl _ _⟩
    rw [show b.eval (.tmp 6) = _ from e]
    exact hr
   | 2, _ =>
    obtain rfl := Option.some.inj ho
    have e : b.tmps.getD 32 undef = .pointer (some ⟨kb, 0, none⟩) := hd 1 (by kernel_rfl) (by decide)
    have hc : w'.cell? ⟨kb, 0, none⟩ = some (.string kname) := (HN.out.2.below hb HN.out.2.lt).cell 0 _ rfl
    have hr : (Instr.loadAt 9 (.pointer (some ⟨kb, 0, none⟩))).run Tryz.prog w' = .ok (.string kname) w' := by go_simp
    refine runs_value rfl ?_ ⟨rfl, Below.refl _ _⟩
    rw [show b.eval (.tmp 32) = _ from e]
    exact hr
   | 3, _ =>
    obtain rfl := Option.some.inj ho
    have e : b.tmps.getD 6 undef = .pointer (some ⟨kb, 0, none⟩) := hx 6 rfl
    have hr : (Instr.fieldAt 63 (.pointer (some ⟨kb, 0, none⟩)) 1).run Tryz.prog w' = .ok (.pointer (some ⟨kb, 1, none⟩)) w' := by go_simp
    refine runs_value rfl ?_ ⟨rfl, Below.refl _ _⟩
    rw [show b.eval (.tmp 6) = _ from e]
    exact hr
   | 4, _ =>
    obtain rfl := Option.some.inj ho
    have e : b.tmps.getD 34 undef = .pointer (some ⟨kb, 1, none⟩) := hd 3 (by kernel_rfl) (by decide)
    have hc : w'.cell? ⟨kb, 1, none⟩ = some (.int .i64 klo) := (HN.out.2.below hb HN.out.2.lt).cell 1 _ rfl
    have hr : (Instr.loadAt 3 (.pointer (some ⟨kb, 1, none⟩))).run Tryz.prog w' = .ok (.int .i64 klo) w' := by go_simp
    refine runs_value rfl ?_ ⟨rfl, Below.refl _ _⟩
    rw [show b.eval (.tmp 34) = _ from e]
    exact hr
   | 5, _ =>
    obtain rfl := Option.some.inj ho
    have e : b.tmps.getD 35 undef = .int .i64 klo := hd 4 (by kernel_rfl) (by decide)
    refine runs_call rfl (fun _ _ => rfl) ?_
    show Calls _ _ #[b.tmps.getD 35 undef] w' _
    rw [e]
    exact (gItoa_any klo w' m1 m2 (HD.out _ _ (HN.out.1.new hb))).mono fun e w'' h => ⟨_, h.1, rfl, h.2⟩
   | 6, _ =>
    obtain rfl := Option.some.inj ho
    have e : b.tmps.getD 6 undef = .pointer (some ⟨kb, 0, none⟩) := hx 6 rfl
    have hr : (Instr.fieldAt 63 (.pointer (some ⟨kb, 0, none⟩)) 2).run Tryz.prog w' = .ok (.pointer (some ⟨kb, 2, none⟩)) w' := by go_simp
    refine runs_value rfl ?_ ⟨rfl, Below.refl _ _⟩
    rw [show b.eval (.tmp 6) = _ from e]
    exact hr
   | 7, _ =>
    obtain rfl := Option.some.inj ho
    have e : b.tmps.getD 37 undef = .pointer (some ⟨kb, 2, none⟩) := hd 6 (by kernel_rfl) (by decide)
    have hc : w'.cell? ⟨kb, 2, none⟩ = some (.int .i64 khi) := (HN.out.2.below hb HN.out.2.lt).cell 2 _ rfl
    have hr : (Instr.loadAt 3 (.pointer (some ⟨kb, 2, none⟩))).run Tryz.prog w' = .ok (.int .i64 khi) w' := by go_simp
    refine runs_value rfl ?_ ⟨rfl, Below.refl _ _⟩
    rw [show b.eval (.tmp 37) = _ from e]
    exact hr
   | 8, _ =>
    obtain rfl := Option.some.inj ho
    have e : b.tmps.getD 38 undef = .int .i64 khi := hd 7 (by kernel_rfl) (by decide)
    refine runs_call rfl (fun _ _ => rfl) ?_
    show Calls _ _ #[b.tmps.getD 38 undef] w' _
    rw [e]
    exact (gItoa_any khi w' m3 m4 (HD.out _ _ (HN.out.1.new hb))).mono fun e w'' h => ⟨_, h.1, rfl, h.2⟩
   | 9, _ =>
    obtain rfl := Option.some.inj ho
    have e1 : b.tmps.getD 33 undef = .string kname := hd 2 (by kernel_rfl) (by decide)
    have e2 : b.tmps.getD 36 undef = .string (Sm.itoaB klo) := hd 5 (by kernel_rfl) (by decide)
    have e3 : b.tmps.getD 39 undef = .string (Sm.itoaB khi) := hd 8 (by kernel_rfl) (by decide)
    have hbs : (Instr.buildSlice 45 4 #[(0, .string ⟨#[107, 105, 110, 100]⟩), (1, .string kname), (2, .string (Sm.itoaB klo)), (3, .string (Sm.itoaB khi))]).run Tryz.prog w' = .ok (.slice (some ⟨w'.heap.size, 0, none⟩) 4 4) (w'.alloc (.cells #[.string ⟨#[107, 105, 110, 100]⟩, .string kname, .string (Sm.itoaB klo), .string (Sm.itoaB khi)] 9)) := by go_simp
    rw [← e1, ← e2, ← e3] at hbs
    refine runs_value (X := Instr.buildSlice 45 4 #[(0, .string ⟨#[107, 105, 110, 100]⟩), (1, b.tmps.getD 33 undef), (2, b.tmps.getD 36 undef), (3, b.tmps.getD 39 undef)]) (by unfold execOp; simp [Act.eval]) hbs ⟨⟨w'.heap.size, rfl, ?_⟩, alloc_belowS _ _⟩
    rw [e1, e2, e3]
    exact Blk.new w' ((Sm.kindLine ⟨kname, klo, khi, fields⟩).map sv) _
   | n + 10, h => exact absurd h (by simp)
  intro vals w' hb hf
  have t0 : vals 0 = .func (.func 89) #[] #[.pointer (some ⟨xb + 2, 0, none⟩)] := hf 0 (by decide)
  obtain ⟨g, t1, hgb⟩ := hf 9 (by decide)
  simp only [puts, List.length_cons, List.length_nil, Nat.zero_add, Nat.reduceAdd, List.drop_succ_cons, List.drop_zero, t0, t1]
  have hn2 := HN.out.1.new hb
  have hkb2 := HN.out.2.below hb HN.out.2.lt
  have cP := soPut_any hn2 g 0 4 (Sm.kindLine ⟨kname, klo, khi, fields⟩) (fun j x hx => by rw [Nat.zero_add]; exact hgb.cell j (sv x) (by rw [List.getElem?_map, hx]; rfl)) hgb.lt (by show 4 ≤ 10000; decide) (Nat.le_refl _) (fun s hs => Nat.le_trans (HQ.out.2.2.2.2.2.2.1 s hs) (by decide)) (by show 4 ≤ 300; decide) (by omega)
  have CP := Lib.hid cP
  have HN := Lib.hid hkb2
  clear cP hn2 hkb2 hb hf t0 t1 hgb
  try go_frame
  go_wp2_with fail
  refine CP.out.mono ?_
  rintro e w6 ⟨⟨vv, rfl⟩, hst, hoth, hsz⟩
  have hkb4 := HN.out.others hoth (by omega) (by decide)
  obtain ⟨O1, hO1⟩ : ∃ o, o = Sm.putLine O (Sm.kindLine ⟨kname, klo, khi, fields⟩) := ⟨_, rfl⟩
  rw [← hO1] at hst
  have hO1s : O1.size ≤ O.size + 500 := by have := HQ.out.2.2.2.2.2.1; rw [← hO1] at this; omega
  have HO1 := Lib.hid hO1
  have c3 := hkb4.cell 3 _ rfl
  have H6 := Lib.hid (And.intro hst hkb4)
  clear CP HN hst hoth hkb4 hO1 hsz
  go_wp2_with fail
  clear c3
  go_loopw [8, 45] (fun a i wr => ∃ (m : Nat) (P : ByteArray), i = .int .i64 m ∧ m ≤ NF ∧ P = (fields.take m).foldl Sm.putField O1 ∧ P.size ≤ O.size + 500 + 21000 * m ∧ Blk wr kb [.string kname, .int .i64 klo, .int .i64 khi, .slice Af NF cf] 63 ∧ SoSt W xb xc P wr) (fun _ i _ => NF - (intOf i).toNat)
  case atStart => exact ⟨0, O1, rfl, Nat.zero_le _, rfl, by omega, H6.out.2, H6.out.1⟩
  case round =>
  clear H6
  obtain ⟨m, P, rfl, hm, hP, hPs, hkb, hst⟩ := hrel
  have HP := Lib.hid hP
  clear hP
  by_cases hlt3 : m < NF
  ·have hlt4 : m < fields.length := by rw [← HQ.out.2.2.2.1]; exact hlt3
   have hg : fields[m]? = some fields[m] := List.getElem?_eq_getElem hlt4
   have hft := fold_take_succ Sm.putField fields m _ O1 hg
   have hsf := HQ.out.2.2.2.2.1 _ (List.getElem_mem hlt4)
   obtain ⟨f, hf⟩ : ∃ f, f = fields[m] := ⟨_, rfl⟩
   rw [← hf] at hg hft hsf
   rw [← HP.out] at hft
   have hpl := Sm.putField_le (o := P) hsf
   have hbW : Below W.heap.size W wr := HXB.out ▸ hst.2.2.2
   have hkp : Keep W.heap.size Wr wr := fun p hp => (hbW.cell hp).trans (HQ.out.2.2.2.2.2.2.2.cell hp).symm
   obtain ⟨bf, of, cs, hA, hbl2, ⟨Aw, cw, Ag, cg, rfl, r1, r2, -⟩, hcell⟩ := (HQ.out.2.2.1.keep hkp fun _ _ k => FdC.keep k hkp).at (by decide) (fun _ _ => FdC.size) m f hg
   have d0 : wr.cell? ⟨bf, of + m * 8, none⟩ = some (.string f.name) := hcell 0 _ rfl
   have d1 := hcell 1 _ rfl
   have d2 := hcell 2 _ rfl
   have d3 := hcell 3 _ rfl
   have d4 := hcell 4 _ rfl
   have d5 := hcell 5 _ rfl
   have d6 := hcell 6 _ rfl
   have d7 := hcell 7 _ rfl
   have hF2 := Sm.tokF_le hsf
   have hpos : 0 < (Sm.fieldTok f).length := Sm.fieldTok_pos f
   obtain ⟨fc, hfc⟩ : ∃ c : Obj, c = .cells #[.string f.name, .string f.of, .string f.up, .int .i64 f.kind, .int .i64 f.lo, .int .i64 f.hi, .slice Aw f.words.length cw, .slice Ag f.weights.length cg] 74 := ⟨_, rfl⟩
   have hna := hst.new (alloc_belowS wr fc)
   have hkn := hkb.alloc fc
   have hz1 := (alloc_belowS wr fc).size
   have hbn : Below wr.heap.size wr (wr.alloc fc) := alloc_belowS wr fc
   have cF := gTokens_any f Aw Ag cw cg (wr.alloc fc) (HD.out _ _ hna) (Nat.le_trans HG.out (Nat.le_trans hbW.size hz1)) ((r1.below (hbn.mono hbW.size)).more (Nat.le_trans hbW.size hz1)) ((r2.below (hbn.mono hbW.size)).more (Nat.le_trans hbW.size hz1)) hsf
   rw [hfc] at cF hna hkn
   obtain ⟨T, hT⟩ : ∃ T, T = Sm.fieldTok f := ⟨_, rfl⟩
   rw [← hT] at cF hF2 hpos
   have hpf : Sm.putField P f = Sm.putLine P T := by rw [hT]; rfl
   rw [hpf] at hft hpl
   have CF := Lib.hid cF
   have j2 : (m : Int) < NF := by omega
   have HK := Lib.hid (And.intro hna (And.intro hkn (And.intro hft (And.intro hpl (And.intro hF2 hpos)))))
   obtain ⟨nw, hnw⟩ : ∃ n, n = f.words.length := ⟨_, rfl⟩
   obtain ⟨ng, hng⟩ : ∃ n, n = f.weights.length := ⟨_, rfl⟩
   rw [← hnw, ← hng] at CF HK
   rw [← hnw] at d6
   rw [← hng] at d7
   subst hA
   clear hft hg hf cF hcell r1 r2 hsf hst hkb hlt4 hT hkp hkn hna hbW hpl hF2 hpos hpf hfc hz1 hbn hnw hng
   go_wp2_with fail
   refine CF.out.mono ?_
   rintro e w7 ⟨AT, cT, rfl, hrd, hcap, -, hb7⟩
   obtain ⟨bt, ot, rfl, hbt, hct⟩ := hrd (by rw [List.length_map]; exact HK.out.2.2.2.2.2)
   have hn7 := HK.out.1.new hb7
   have hk7 := HK.out.2.1.below hb7 HK.out.2.1.lt
   have cP := soPut_any hn7 bt ot cT T (fun j x hx => hct j (sv x) (by rw [List.getElem?_map, hx]; rfl)) hbt (by have := HK.out.2.2.2.2.1.2; omega) hcap (fun s hs => Nat.le_trans (HK.out.2.2.2.2.1.1 s hs) (by decide)) (by have := HK.out.2.2.2.2.1.2; omega) (by omega)
   have CP := Lib.hid cP
   have HN := Lib.hid hk7
   clear cP hk7 hn7 hb7 hct hcap hrd CF d0 d1 d2 d3 d4 d5 d6 d7 hbt
   obtain ⟨nt, hnt⟩ : ∃ n, n = T.length := ⟨_, rfl⟩
   rw [← hnt] at CP ⊢
   clear hnt
   go_wp2_with fail
   refine CP.out.mono ?_
   rintro e w8 ⟨⟨vv, rfl⟩, hst, hoth, -⟩
   have hk8 := HN.out.others hoth (by omega) (by decide)
   have H8 := Lib.hid (And.intro hst hk8)
   clear hst hoth hk8 CP HN
   go_wp2_with fail
   go_roundw
   case rel => exact ⟨m + 1, Sm.putLine P T, by go_num, by omega, HK.out.2.2.1.symm, by have := HK.out.2.2.2.1; omega, H8.out.2, H8.out.1⟩
   case measure => simp [intOf]; omega
  obtain rfl : m = NF := by omega
  have hPf : P = Sm.putKind O ⟨kname, klo, khi, fields⟩ := by
   rw [HP.out, List.take_of_length_le (by rw [← HQ.out.2.2.2.1]; omega), HO1.out]; rfl
  have hPs3 : P.size ≤ O.size + 210500 := by rw [hPf]; exact HQ.out.2.1
  have HN := Lib.hid (And.intro (HQ.out.1.trans hPf.symm) hst)
  clear hst hkb hPf HP
  go_wp2_with fail
  go_roundw
  case rel => exact ⟨j + 1, P, by go_num, by omega, HN.out.1.symm, by rw [Nat.mul_succ, ← Nat.add_assoc]; exact Nat.le_trans hPs3 (Nat.add_le_add_right hOs _), HN.out.2⟩
  case measure => simp [intOf]; omega
 obtain rfl : j = NK := by omega
 have hOs2 : O.size ≤ 2107000 := by omega
 have hOK : O = kinds.foldl Sm.putKind O0 := by rw [HO.out, List.take_of_length_le (by rw [← HZ.out.2.1]; exact Nat.le_refl _)]
 have c := HX.out _ _ hst 2 _ rfl
 have H5 := Lib.hid hst
 have HOK := Lib.hid hOK
 clear hOs hOK hst HO hj hlt
 go_wp2_with fail
 clear c
 go_loopw [10, 12, 58] (fun a a2 i wr => ∃ (k : Nat) (P : ByteArray), i = .int .i64 k ∧ k ≤ NL ∧ P = (lives.take k).foldl Sm.putLife O ∧ P.size ≤ 2107000 + 24500 * k ∧ SoSt W xb xc P wr) (fun _ _ i _ => NL - (intOf i).toNat)
 case atStart => exact ⟨0, O, rfl, Nat.zero_le _, rfl, hOs2, H5.out⟩
 case round =>
 clear H5
 obtain ⟨k, P, rfl, hk, hP, hPs, hst⟩ := hrel
 have HP := Lib.hid hP
 clear hP
 obtain ⟨Wl, hWl⟩ : ∃ W, W = wr := ⟨_, rfl⟩
 rw [← hWl] at hst ⊢
 clear hWl
 by_cases hlt : k < NL
 ·have hlt2 : k < lives.length := by rw [← HZ.out.2.2.1]; exact hlt
  have hg : lives[k]? = some lives[k] := List.getElem?_eq_getElem hlt2
  have hft := fold_take_succ Sm.putLife lives k _ O hg
  have hsk := HSS.out.2.1 _ (List.getElem_mem hlt2)
  obtain ⟨lf, hlf⟩ : ∃ f, f = lives[k] := ⟨_, rfl⟩
  rw [← hlf] at hg hft hsk
  rw [← HP.out] at hft
  have hkl := Sm.putLife_le (o := P) hsk
  have hk0 := Sm.put_le P (Sm.lifeLine lf) 2100 4 (Sm.lifeLine_le hsk) (Nat.le_refl _)
  have hk1 := Sm.lifeLine_le hsk
  have hbW : Below W.heap.size W Wl := HXB.out ▸ hst.2.2.2
  obtain ⟨lname, states, moves⟩ := lf
  obtain ⟨b, off, cs, hA, hbl, ⟨As, cs', Am, cm, rfl, hrs, hrm, hscap, -⟩, hcell⟩ := (HR.out.2.1.keep (Keep.of hbW) fun _ _ q => LfC.keep q (Keep.of hbW)).at (by decide) (fun _ _ => LfC.size) k _ hg
  dsimp only at hcell hrs hrm hscap
  have hsts := hsk.states
  have hmvs := hsk.moves
  have hfs := hsk.few
  have hfm := hsk.fewm
  dsimp only at hsts hmvs hfs hfm
  have cJ := fun w' (hr : Rd w' w'.heap.size As (states.map sv)) => gJoinAll_any As cs' states w' hr (by omega) hscap (by have := Sm.join_le 100 states hsts; omega)
  obtain ⟨NS, hNS⟩ : ∃ n, n = states.length := ⟨_, rfl⟩
  obtain ⟨NM, hNM⟩ : ∃ n, n = moves.length := ⟨_, rfl⟩
  rw [← hNS, ← hNM] at hcell
  have hxl : [⟨#[108, 105, 102, 101]⟩, lname, Sm.itoaB (NS : Int), Sm.joinS states] = Sm.lifeLine ⟨lname, states, moves⟩ := by rw [hNS]; rfl
  rw [← hxl] at hk0 hk1
  simp only [← hNS] at cJ
  have d0 : Wl.cell? ⟨b, off + k * 3, none⟩ = some (.string lname) := hcell 0 _ rfl
  have d1 := hcell 1 _ rfl
  have d2 := hcell 2 _ rfl
  have j1 : (k : Int) < NL := by omega
  rw [← hNS] at hfs
  rw [← hNM] at hfm
  have hkb := Blk.new Wl [.string lname, .slice As NS cs', .slice Am NM cm] 67
  have hna := hst.new (alloc_belowS Wl (.cells [.string lname, .slice As NS cs', .slice Am NM cm].toArray 67))
  have hrs2 : Rd (Wl.alloc (.cells [.string lname, .slice As NS cs', .slice Am NM cm].toArray 67)) (Wl.alloc (.cells [.string lname, .slice As NS cs', .slice Am NM cm].toArray 67)).heap.size As (states.map sv) := (hrs.below ((alloc_belowS Wl _).mono hbW.size)).more (Nat.le_trans hbW.size (alloc_belowS Wl _).size)
  have hbig : xb + 2 < Wl.heap.size := hst.2.1.lt
  have HQ := Lib.hid (And.intro hft (And.intro hkl (And.intro hrm (And.intro hNM (And.intro hmvs (And.intro hk0 (And.intro hk1 (And.intro hbW hxl))))))))
  have CJ := Lib.hid cJ
  subst hA
  clear hft hrs hrm hNM hNS hsts hmvs hlf hcell hg hsk hlt2 hst hkl hk0 hk1 hbW hxl cJ hscap
  go_upto_region 17 with fail
  clear d0 d1 d2
  obtain ⟨W2, hW2⟩ : ∃ W, W = Wl.alloc (.cells #[.string lname, .slice As NS cs', .slice Am NM cm] 67) := ⟨_, rfl⟩
  have hW3 : W2 = Wl.alloc (.cells [.string lname, .slice As NS cs', .slice Am NM cm].toArray 67) := hW2
  rw [← hW2]
  rw [← hW3] at hkb hna hrs2
  clear hW2 hW3
  obtain ⟨kb, hkbn⟩ : ∃ k, k = Wl.heap.size := ⟨_, rfl⟩
  rw [← hkbn] at hkb hbig ⊢
  clear hkbn
  have HN := Lib.hid (And.intro hna (And.intro hkb hrs2))
  clear hna hkb hrs2
  refine wp_region_list [62, 63, 64, 65, 66, 67, 68, 69, 70, 71, 72] [.is (.func (.func 89) #[] #[.pointer (some ⟨xb + 2, 0, none⟩)]), .is (.pointer (some ⟨kb, 0, none⟩)), .is (.string lname), .is (.pointer (some ⟨kb, 1, none⟩)), .is (.slice As NS cs'), .is (.int .i64 (NS : Int)), .is (.string (Sm.itoaB (NS : Int))), .is (.pointer (some ⟨kb, 1, none⟩)), .is (.slice As NS cs'), .is (.string (Sm.joinS states)), .strsF ([⟨#[108, 105, 102, 101]⟩, lname, Sm.itoaB (NS : Int), Sm.joinS states]) 4] (by kernel_rfl) (by kernel_rfl) ?_ ?_
  ·intro y0 hy0 b w' hb hd hx o ho
   match y0, hy0 with
   | 0, _ =>
    obtain rfl := Option.some.inj ho
    exact ⟨hx 4 rfl, Below.refl _ _⟩
   | 1, _ =>
    obtain rfl := Option.some.inj ho
    have e : b.tmps.getD 10 undef = .pointer (some ⟨kb, 0, none⟩) := hx 10 rfl
    have hr : (Instr.fieldAt 67 (.pointer (some ⟨kb, 0, none⟩)) 0).run Tryz.prog w' = .ok (.pointer (some ⟨kb, 0, none⟩)) w' := by go_simp
    refine runs_value rfl ?_ ⟨rfl, Below.refl _ _⟩
    rw [show b.eval (.tmp 10) = _ from e]
    exact hr
   | 2, _ =>
    obtain rfl := Option.some.inj ho
    have e : b.tmps.getD 63 undef = .pointer (some ⟨kb, 0, none⟩) := hd 1 (by kernel_rfl) (by decide)
    have hc : w'.cell? ⟨kb, 0, none⟩ = some (.string lname) := (HN.out.2.1.below hb HN.out.2.1.lt).cell 0 _ rfl
    have hr : (Instr.loadAt 9 (.pointer (some ⟨kb, 0, none⟩))).run Tryz.prog w' = .ok (.string lname) w' := by go_simp
    refine runs_value rfl ?_ ⟨rfl, Below.refl _ _⟩
    rw [show b.eval (.tmp 63) = _ from e]
    exact hr
   | 3, _ =>
    obtain rfl := Option.some.inj ho
    have e : b.tmps.getD 10 undef = .pointer (some ⟨kb, 0, none⟩) := hx 10 rfl
    have hr : (Instr.fieldAt 67 (.pointer (some ⟨kb, 0, none⟩)) 1).run Tryz.prog w' = .ok (.pointer (some ⟨kb, 1, none⟩)) w' := by go_simp
    refine runs_value rfl ?_ ⟨rfl, Below.refl _ _⟩
    rw [show b.eval (.tmp 10) = _ from e]
    exact hr
   | 4, _ =>
    obtain rfl := Option.some.inj ho
    have e : b.tmps.getD 65 undef = .pointer (some ⟨kb, 1, none⟩) := hd 3 (by kernel_rfl) (by decide)
    have hc : w'.cell? ⟨kb, 1, none⟩ = some (.slice As NS cs') := (HN.out.2.1.below hb HN.out.2.1.lt).cell 1 _ rfl
    have hr : (Instr.loadAt 45 (.pointer (some ⟨kb, 1, none⟩))).run Tryz.prog w' = .ok (.slice As NS cs') w' := by go_simp
    refine runs_value rfl ?_ ⟨rfl, Below.refl _ _⟩
    rw [show b.eval (.tmp 65) = _ from e]
    exact hr
   | 5, _ =>
    obtain rfl := Option.some.inj ho
    have e : b.tmps.getD 66 undef = .slice As NS cs' := hd 4 (by kernel_rfl) (by decide)
    have hr : (Builtin.len_ #[45] 3 #[.slice As NS cs']).run Tryz.prog w' = .ok (.int .i64 (NS : Int)) w' := by go_simp
    rw [← e] at hr
    exact runs_value (X := Builtin.len_ #[45] 3 #[b.tmps.getD 66 undef]) (by unfold execOp; simp [resolve, invoke, builtin, Act.eval]) hr ⟨rfl, Below.refl _ _⟩
   | 6, _ =>
    obtain rfl := Option.some.inj ho
    have e : b.tmps.getD 67 undef = .int .i64 (NS : Int) := hd 5 (by kernel_rfl) (by decide)
    refine runs_call rfl (fun _ _ => rfl) ?_
    show Calls _ _ #[b.tmps.getD 67 undef] w' _
    rw [e]
    exact (gItoa_any (NS : Int) w' (by omega) (by omega) (HD.out _ _ (HN.out.1.new hb))).mono fun e w'' h => ⟨_, h.1, rfl, h.2⟩
   | 7, _ =>
    obtain rfl := Option.some.inj ho
    have e : b.tmps.getD 10 undef = .pointer (some ⟨kb, 0, none⟩) := hx 10 rfl
    have hr : (Instr.fieldAt 67 (.pointer (some ⟨kb, 0, none⟩)) 1).run Tryz.prog w' = .ok (.pointer (some ⟨kb, 1, none⟩)) w' := by go_simp
    refine runs_value rfl ?_ ⟨rfl, Below.refl _ _⟩
    rw [show b.eval (.tmp 10) = _ from e]
    exact hr
   | 8, _ =>
    obtain rfl := Option.some.inj ho
    have e : b.tmps.getD 69 undef = .pointer (some ⟨kb, 1, none⟩) := hd 7 (by kernel_rfl) (by decide)
    have hc : w'.cell? ⟨kb, 1, none⟩ = some (.slice As NS cs') := (HN.out.2.1.below hb HN.out.2.1.lt).cell 1 _ rfl
    have hr : (Instr.loadAt 45 (.pointer (some ⟨kb, 1, none⟩))).run Tryz.prog w' = .ok (.slice As NS cs') w' := by go_simp
    refine runs_value rfl ?_ ⟨rfl, Below.refl _ _⟩
    rw [show b.eval (.tmp 69) = _ from e]
    exact hr
   | 9, _ =>
    obtain rfl := Option.some.inj ho
    have e : b.tmps.getD 70 undef = .slice As NS cs' := hd 8 (by kernel_rfl) (by decide)
    refine runs_call rfl (fun _ _ => rfl) ?_
    show Calls _ _ #[b.tmps.getD 70 undef, .string ⟨#[32]⟩] w' _
    rw [e]
    exact (CJ.out w' ((HN.out.2.2.below hb).more hb.size)).mono fun e w'' h => ⟨_, h.1, rfl, h.2⟩
   | 10, _ =>
    obtain rfl := Option.some.inj ho
    have e1 : b.tmps.getD 64 undef = .string lname := hd 2 (by kernel_rfl) (by decide)
    have e2 : b.tmps.getD 68 undef = .string (Sm.itoaB (NS : Int)) := hd 6 (by kernel_rfl) (by decide)
    have e3 : b.tmps.getD 71 undef = .string (Sm.joinS states) := hd 9 (by kernel_rfl) (by decide)
    have hbs : (Instr.buildSlice 45 4 #[(0, .string ⟨#[108, 105, 102, 101]⟩), (1, .string lname), (2, .string (Sm.itoaB (NS : Int))), (3, .string (Sm.joinS states))]).run Tryz.prog w' = .ok (.slice (some ⟨w'.heap.size, 0, none⟩) 4 4) (w'.alloc (.cells #[.string ⟨#[108, 105, 102, 101]⟩, .string lname, .string (Sm.itoaB (NS : Int)), .string (Sm.joinS states)] 9)) := by go_simp
    rw [← e1, ← e2, ← e3] at hbs
    refine runs_value (X := Instr.buildSlice 45 4 #[(0, .string ⟨#[108, 105, 102, 101]⟩), (1, b.tmps.getD 64 undef), (2, b.tmps.getD 68 undef), (3, b.tmps.getD 71 undef)]) (by unfold execOp; simp [Act.eval]) hbs ⟨⟨w'.heap.size, rfl, ?_⟩, alloc_belowS _ _⟩
    rw [e1, e2, e3]
    exact Blk.new w' (([⟨#[108, 105, 102, 101]⟩, lname, Sm.itoaB (NS : Int), Sm.joinS states]).map sv) _
   | n + 11, h => exact absurd h (by simp)
  intro vals w' hb hf
  have t0 : vals 0 = .func (.func 89) #[] #[.pointer (some ⟨xb + 2, 0, none⟩)] := hf 0 (by decide)
  obtain ⟨g, t1, hgb⟩ := hf 10 (by decide)
  simp only [puts, List.length_cons, List.length_nil, Nat.zero_add, Nat.reduceAdd, List.drop_succ_cons, List.drop_zero, t0, t1]
  have hn2 := HN.out.1.new hb
  have hkb2 := HN.out.2.1.below hb HN.out.2.1.lt
  have cP := soPut_any hn2 g 0 4 ([⟨#[108, 105, 102, 101]⟩, lname, Sm.itoaB (NS : Int), Sm.joinS states]) (fun j x hx => by rw [Nat.zero_add]; exact hgb.cell j (sv x) (by rw [List.getElem?_map, hx]; rfl)) hgb.lt (by show 4 ≤ 10000; decide) (Nat.le_refl _) (fun s hs => Nat.le_trans (HQ.out.2.2.2.2.2.2.1 s hs) (by decide)) (by show 4 ≤ 300; decide) (by omega)
  have CP := Lib.hid cP
  have HN := Lib.hid hkb2
  clear cP hn2 hkb2 hb hf t0 t1 hgb
  try go_frame
  go_wp2_with fail
  refine CP.out.mono ?_
  rintro e w6 ⟨⟨vv, rfl⟩, hst, hoth, hsz⟩
  have hkb4 := HN.out.others hoth (by omega) (by decide)
  obtain ⟨O1, hO1⟩ : ∃ o, o = Sm.putLine P ([⟨#[108, 105, 102, 101]⟩, lname, Sm.itoaB (NS : Int), Sm.joinS states]) := ⟨_, rfl⟩
  rw [← hO1] at hst
  have hO1s : O1.size ≤ P.size + 8500 := by have := HQ.out.2.2.2.2.2.1; rw [← hO1] at this; omega
  have HO1 := Lib.hid hO1
  have c3 := hkb4.cell 2 _ rfl
  have H6 := Lib.hid (And.intro hst hkb4)
  clear CP HN hst hoth hkb4 hO1 hsz
  go_wp2_with fail
  clear c3
  go_loopw [12, 77] (fun a i wr => ∃ (m : Nat) (V : ByteArray), i = .int .i64 m ∧ m ≤ NM ∧ V = (moves.take m).foldl Sm.putMove O1 ∧ V.size ≤ P.size + 8500 + 400 * m ∧ SoSt W xb xc V wr) (fun _ i _ => NM - (intOf i).toNat)
  case atStart => exact ⟨0, O1, rfl, Nat.zero_le _, rfl, by omega, H6.out.1⟩
  case round =>
  clear H6
  obtain ⟨m, V, rfl, hm, hV, hVs, hst⟩ := hrel
  have HV := Lib.hid hV
  clear hV
  by_cases hlt3 : m < NM
  ·have hlt4 : m < moves.length := by rw [← HQ.out.2.2.2.1]; exact hlt3
   have hg : moves[m]? = some moves[m] := List.getElem?_eq_getElem hlt4
   have hft := fold_take_succ Sm.putMove moves m _ O1 hg
   have hsf := HQ.out.2.2.2.2.1 _ (List.getElem_mem hlt4)
   obtain ⟨mv, hmv⟩ : ∃ f, f = moves[m] := ⟨_, rfl⟩
   rw [← hmv] at hg hft hsf
   rw [← HV.out] at hft
   have hpl := Sm.putMove_le (o := V) hsf
   have hml := Sm.moveLine_le hsf
   have hbW : Below W.heap.size W wr := HXB.out ▸ hst.2.2.2
   have hbL := HQ.out.2.2.2.2.2.2.2.1
   obtain ⟨bm, om, hA, hbm, hcm⟩ := HQ.out.2.2.1 (by rw [moveC_len]; omega)
   obtain ⟨m1, m2⟩ := mv
   have d0 := hcm _ _ (moveC_at moves m _ hg).1
   have d1 := hcm _ _ (moveC_at moves m _ hg).2
   unfold iv at d0 d1
   dsimp only at d0 d1
   rw [← Nat.add_assoc] at d1
   have e0 : wr.cell? ⟨bm, om + m * 2, none⟩ = some (.int .i64 m1) := ((hbW.cell hbm).trans (hbL.cell hbm).symm).trans d0
   have e1 : wr.cell? ⟨bm, om + m * 2 + 1, none⟩ = some (.int .i64 m2) := ((hbW.cell hbm).trans (hbL.cell hbm).symm).trans d1
   unfold Sm.num at hsf
   obtain ⟨⟨n1, n2⟩, n3, n4⟩ := hsf
   dsimp only at n1 n2 n3 n4
   have hkb := Blk.new wr [.int .i64 m1, .int .i64 m2] 68
   have hna := hst.new (alloc_belowS wr (.cells [.int .i64 m1, .int .i64 m2].toArray 68))
   have j2 : (m : Int) < NM := by omega
   have HK := Lib.hid (And.intro hft (And.intro hpl hml))
   subst hA
   clear hft hg hmv hcm d0 d1 hst hlt4 hpl hml hbW hbm hbL
   go_upto_region 21 with fail
   clear e0 e1
   obtain ⟨W2, hW2⟩ : ∃ W, W = wr.alloc (.cells #[.int .i64 m1, .int .i64 m2] 68) := ⟨_, rfl⟩
   have hW3 : W2 = wr.alloc (.cells [.int .i64 m1, .int .i64 m2].toArray 68) := hW2
   rw [← hW2]
   rw [← hW3] at hkb hna
   clear hW2 hW3
   obtain ⟨mb, hmb⟩ : ∃ k, k = wr.heap.size := ⟨_, rfl⟩
   rw [← hmb] at hkb ⊢
   clear hmb
   have HN := Lib.hid (And.intro hna hkb)
   clear hna hkb
   refine wp_region_list [81, 82, 83, 84, 85, 86, 87, 88] [.is (.func (.func 89) #[] #[.pointer (some ⟨xb + 2, 0, none⟩)]), .is (.pointer (some ⟨mb, 0, none⟩)), .is (.int .i64 m1), .is (.string (Sm.itoaB m1)), .is (.pointer (some ⟨mb, 1, none⟩)), .is (.int .i64 m2), .is (.string (Sm.itoaB m2)), .strsF (Sm.moveLine (m1, m2)) 3] (by kernel_rfl) (by kernel_rfl) ?_ ?_
   ·intro y0 hy0 b w' hb hd hx o ho
    match y0, hy0 with
    | 0, _ =>
     obtain rfl := Option.some.inj ho
     exact ⟨hx 4 rfl, Below.refl _ _⟩
    | 1, _ =>
     obtain rfl := Option.some.inj ho
     have e : b.tmps.getD 12 undef = .pointer (some ⟨mb, 0, none⟩) := hx 12 rfl
     have hr : (Instr.indexAt 68 (.pointer (some ⟨mb, 0, none⟩)) (.int .i64 0)).run Tryz.prog w' = .ok (.pointer (some ⟨mb, 0, none⟩)) w' := by go_simp
     refine runs_value rfl ?_ ⟨rfl, Below.refl _ _⟩
     rw [show b.eval (.tmp 12) = _ from e]
     exact hr
    | 2, _ =>
     obtain rfl := Option.some.inj ho
     have e : b.tmps.getD 82 undef = .pointer (some ⟨mb, 0, none⟩) := hd 1 (by kernel_rfl) (by decide)
     have hc : w'.cell? ⟨mb, 0, none⟩ = some (.int .i64 m1) := (HN.out.2.below hb HN.out.2.lt).cell 0 _ rfl
     have hr : (Instr.loadAt 3 (.pointer (some ⟨mb, 0, none⟩))).run Tryz.prog w' = .ok (.int .i64 m1) w' := by go_simp
     refine runs_value rfl ?_ ⟨rfl, Below.refl _ _⟩
     rw [show b.eval (.tmp 82) = _ from e]
     exact hr
    | 3, _ =>
     obtain rfl := Option.some.inj ho
     have e : b.tmps.getD 83 undef = .int .i64 m1 := hd 2 (by kernel_rfl) (by decide)
     refine runs_call rfl (fun _ _ => rfl) ?_
     show Calls _ _ #[b.tmps.getD 83 undef] w' _
     rw [e]
     exact (gItoa_any m1 w' n1 n2 (HD.out _ _ (HN.out.1.new hb))).mono fun e w'' h => ⟨_, h.1, rfl, h.2⟩
    | 4, _ =>
     obtain rfl := Option.some.inj ho
     have e : b.tmps.getD 12 undef = .pointer (some ⟨mb, 0, none⟩) := hx 12 rfl
     have hr : (Instr.indexAt 68 (.pointer (some ⟨mb, 0, none⟩)) (.int .i64 1)).run Tryz.prog w' = .ok (.pointer (some ⟨mb, 1, none⟩)) w' := by go_simp
     refine runs_value rfl ?_ ⟨rfl, Below.refl _ _⟩
     rw [show b.eval (.tmp 12) = _ from e]
     exact hr
    | 5, _ =>
     obtain rfl := Option.some.inj ho
     have e : b.tmps.getD 85 undef = .pointer (some ⟨mb, 1, none⟩) := hd 4 (by kernel_rfl) (by decide)
     have hc : w'.cell? ⟨mb, 1, none⟩ = some (.int .i64 m2) := (HN.out.2.below hb HN.out.2.lt).cell 1 _ rfl
     have hr : (Instr.loadAt 3 (.pointer (some ⟨mb, 1, none⟩))).run Tryz.prog w' = .ok (.int .i64 m2) w' := by go_simp
     refine runs_value rfl ?_ ⟨rfl, Below.refl _ _⟩
     rw [show b.eval (.tmp 85) = _ from e]
     exact hr
    | 6, _ =>
     obtain rfl := Option.some.inj ho
     have e : b.tmps.getD 86 undef = .int .i64 m2 := hd 5 (by kernel_rfl) (by decide)
     refine runs_call rfl (fun _ _ => rfl) ?_
     show Calls _ _ #[b.tmps.getD 86 undef] w' _
     rw [e]
     exact (gItoa_any m2 w' n3 n4 (HD.out _ _ (HN.out.1.new hb))).mono fun e w'' h => ⟨_, h.1, rfl, h.2⟩
    | 7, _ =>
     obtain rfl := Option.some.inj ho
     have e1 : b.tmps.getD 84 undef = .string (Sm.itoaB m1) := hd 3 (by kernel_rfl) (by decide)
     have e2 : b.tmps.getD 87 undef = .string (Sm.itoaB m2) := hd 6 (by kernel_rfl) (by decide)
     have hbs : (Instr.buildSlice 45 3 #[(0, .string ⟨#[109, 111, 118, 101]⟩), (1, .string (Sm.itoaB m1)), (2, .string (Sm.itoaB m2))]).run Tryz.prog w' = .ok (.slice (some ⟨w'.heap.size, 0, none⟩) 3 3) (w'.alloc (.cells #[.string ⟨#[109, 111, 118, 101]⟩, .string (Sm.itoaB m1), .string (Sm.itoaB m2)] 9)) := by go_simp
     rw [← e1, ← e2] at hbs
     refine runs_value (X := Instr.buildSlice 45 3 #[(0, .string ⟨#[109, 111, 118, 101]⟩), (1, b.tmps.getD 84 undef), (2, b.tmps.getD 87 undef)]) (by unfold execOp; simp [Act.eval]) hbs ⟨⟨w'.heap.size, rfl, ?_⟩, alloc_belowS _ _⟩
     rw [e1, e2]
     exact Blk.new w' ((Sm.moveLine (m1, m2)).map sv) _
    | n + 8, h => exact absurd h (by simp)
   intro vals w' hb hf
   have t0 : vals 0 = .func (.func 89) #[] #[.pointer (some ⟨xb + 2, 0, none⟩)] := hf 0 (by decide)
   obtain ⟨g, t1, hgb⟩ := hf 7 (by decide)
   simp only [puts, List.length_cons, List.length_nil, Nat.zero_add, Nat.reduceAdd, List.drop_succ_cons, List.drop_zero, t0, t1]
   have hn2 := HN.out.1.new hb
   have hkb2 := HN.out.2.below hb HN.out.2.lt
   have cP := soPut_any hn2 g 0 3 (Sm.moveLine (m1, m2)) (fun j x hx => by rw [Nat.zero_add]; exact hgb.cell j (sv x) (by rw [List.getElem?_map, hx]; rfl)) hgb.lt (by show 3 ≤ 10000; decide) (Nat.le_refl _) (fun s hs => Nat.le_trans (HK.out.2.2 s hs) (by decide)) (by show 3 ≤ 300; decide) (by omega)
   have CP := Lib.hid cP
   have HN := Lib.hid hkb2
   clear cP hn2 hkb2 hb hf t0 t1 hgb
   try go_frame
   go_wp2_with fail
   refine CP.out.mono ?_
   rintro e w8 ⟨⟨vv, rfl⟩, hst, -, -⟩
   have H8 := Lib.hid hst
   clear hst CP HN
   go_wp2_with fail
   go_roundw
   case rel => exact ⟨m + 1, Sm.putMove V (m1, m2), by go_num, by omega, HK.out.1.symm, by have := HK.out.2.1; omega, H8.out⟩
   case measure => simp [intOf]; omega
  obtain rfl : m = NM := by omega
  have hVf : V = Sm.putLife P ⟨lname, states, moves⟩ := by
   rw [HV.out, List.take_of_length_le (by rw [← HQ.out.2.2.2.1]; omega), HO1.out, HQ.out.2.2.2.2.2.2.2.2]; rfl
  have hVs3 : V.size ≤ P.size + 24500 := by rw [hVf]; exact HQ.out.2.1
  have HN := Lib.hid (And.intro (HQ.out.1.trans hVf.symm) hst)
  clear hst hVf HV
  go_wp2_with fail
  go_roundw
  case rel => exact ⟨k + 1, V, by go_num, by omega, HN.out.1.symm, by rw [Nat.mul_succ, ← Nat.add_assoc]; exact Nat.le_trans hVs3 (Nat.add_le_add_right hPs _), HN.out.2⟩
  case measure => simp [intOf]; omega
 obtain rfl : k = NL := by omega
 have hPs2 : P.size ≤ 2352000 := by omega
 have hPK : P = lives.foldl Sm.putLife O := by rw [HP.out, List.take_of_length_le (by rw [← HZ.out.2.2.1]; exact Nat.le_refl _)]
 have c := HX.out _ _ hst 3 _ rfl
 have H5 := Lib.hid hst
 have HPK := Lib.hid hPK
 clear hPs hPK hst HP hk hlt hOs2
 go_wp2_with fail
 clear c
 go_loopw [14, 95] (fun a i wr => ∃ (m : Nat) (V : ByteArray), i = .int .i64 m ∧ m ≤ NR ∧ V = (rules.take m).foldl Sm.putRule P ∧ V.size ≤ 2352000 + 700 * m ∧ SoSt W xb xc V wr) (fun _ i _ => NR - (intOf i).toNat)
 case atStart => exact ⟨0, P, rfl, Nat.zero_le _, rfl, hPs2, H5.out⟩
 case round =>
 clear H5
 obtain ⟨m, V, rfl, hm, hV, hVs, hst⟩ := hrel
 have HV := Lib.hid hV
 clear hV
 by_cases hlt : m < NR
 ·have hlt2 : m < rules.length := by rw [← HZ.out.2.2.2]; exact hlt
  have hg : rules[m]? = some rules[m] := List.getElem?_eq_getElem hlt2
  have hft := fold_take_succ Sm.putRule rules m _ P hg
  have hsk := HSS.out.2.2 _ (List.getElem_mem hlt2)
  obtain ⟨ru, hru⟩ : ∃ k, k = rules[m] := ⟨_, rfl⟩
  rw [← hru] at hg hft hsk
  rw [← HV.out] at hft
  have hpl := Sm.putRule_le (o := V) hsk
  have hml := Sm.ruleLine_le hsk
  have hbW : Below W.heap.size W wr := HXB.out ▸ hst.2.2.2
  obtain ⟨rn, rk, ra, rb, rv⟩ := ru
  obtain ⟨b, off, cs, hA, hbl, hcs, hcell⟩ := (HR.out.2.2.keep (Keep.of hbW) fun _ _ q => q).at (by decide) (fun _ _ => RuC.size) m _ hg
  obtain rfl := hcs
  dsimp only at hcell
  have d0 : wr.cell? ⟨b, off + m * 5, none⟩ = some (.string rn) := hcell 0 _ rfl
  have d1 := hcell 1 _ rfl
  have d2 := hcell 2 _ rfl
  have d3 := hcell 3 _ rfl
  have d4 := hcell 4 _ rfl
  have j1 : (m : Int) < NR := by omega
  have n5 := hsk.n
  unfold Sm.num at n5
  dsimp only at n5
  obtain ⟨n5, n6⟩ := n5
  have hkb := Blk.new wr [.string rn, .string rk, .string ra, .string rb, .int .i64 rv] 70
  have hna := hst.new (alloc_belowS wr (.cells [.string rn, .string rk, .string ra, .string rb, .int .i64 rv].toArray 70))
  have HK := Lib.hid (And.intro hft (And.intro hpl hml))
  subst hA
  clear hft hg hru hcell hsk hlt2 hst hpl hml hbW
  go_upto_region 27 with fail
  clear d0 d1 d2 d3 d4
  obtain ⟨W2, hW2⟩ : ∃ W, W = wr.alloc (.cells #[.string rn, .string rk, .string ra, .string rb, .int .i64 rv] 70) := ⟨_, rfl⟩
  have hW3 : W2 = wr.alloc (.cells [.string rn, .string rk, .string ra, .string rb, .int .i64 rv].toArray 70) := hW2
  rw [← hW2]
  rw [← hW3] at hkb hna
  clear hW2 hW3
  obtain ⟨kb, hkbn⟩ : ∃ k, k = wr.heap.size := ⟨_, rfl⟩
  rw [← hkbn] at hkb ⊢
  clear hkbn
  have HN := Lib.hid (And.intro hna hkb)
  clear hna hkb
  refine wp_region_list [99, 100, 101, 102, 103, 104, 105, 106, 107, 108, 109, 110, 111, 112, 113] [.is (.func (.func 89) #[] #[.pointer (some ⟨xb + 2, 0, none⟩)]), .is (.pointer (some ⟨kb, 0, none⟩)), .is (.string rn), .is (.pointer (some ⟨kb, 1, none⟩)), .is (.string rk), .is (.pointer (some ⟨kb, 2, none⟩)), .is (.string ra), .is (.string (Sm.tok ra)), .is (.pointer (some ⟨kb, 3, none⟩)), .is (.string rb), .is (.string (Sm.tok rb)), .is (.pointer (some ⟨kb, 4, none⟩)), .is (.int .i64 rv), .is (.string (Sm.itoaB rv)), .strsF (Sm.ruleLine ⟨rn, rk, ra, rb, rv⟩) 6] (by kernel_rfl) (by kernel_rfl) ?_ ?_
  ·intro y0 hy0 b w' hb hd hx o ho
   match y0, hy0 with
   | 0, _ =>
    obtain rfl := Option.some.inj ho
    exact ⟨hx 4 rfl, Below.refl _ _⟩
   | 1, _ =>
    obtain rfl := Option.some.inj ho
    have e : b.tmps.getD 14 undef = .pointer (some ⟨kb, 0, none⟩) := hx 14 rfl
    have hr : (Instr.fieldAt 70 (.pointer (some ⟨kb, 0, none⟩)) 0).run Tryz.prog w' = .ok (.pointer (some ⟨kb, 0, none⟩)) w' := by go_simp
    refine runs_value rfl ?_ ⟨rfl, Below.refl _ _⟩
    rw [show b.eval (.tmp 14) = _ from e]
    exact hr
   | 2, _ =>
    obtain rfl := Option.some.inj ho
    have e : b.tmps.getD 100 undef = .pointer (some ⟨kb, 0, none⟩) := hd 1 (by kernel_rfl) (by decide)
    have hc : w'.cell? ⟨kb, 0, none⟩ = some (.string rn) := (HN.out.2.below hb HN.out.2.lt).cell 0 _ rfl
    have hr : (Instr.loadAt 9 (.pointer (some ⟨kb, 0, none⟩))).run Tryz.prog w' = .ok (.string rn) w' := by go_simp
    refine runs_value rfl ?_ ⟨rfl, Below.refl _ _⟩
    rw [show b.eval (.tmp 100) = _ from e]
    exact hr
   | 3, _ =>
    obtain rfl := Option.some.inj ho
    have e : b.tmps.getD 14 undef = .pointer (some ⟨kb, 0, none⟩) := hx 14 rfl
    have hr : (Instr.fieldAt 70 (.pointer (some ⟨kb, 0, none⟩)) 1).run Tryz.prog w' = .ok (.pointer (some ⟨kb, 1, none⟩)) w' := by go_simp
    refine runs_value rfl ?_ ⟨rfl, Below.refl _ _⟩
    rw [show b.eval (.tmp 14) = _ from e]
    exact hr
   | 4, _ =>
    obtain rfl := Option.some.inj ho
    have e : b.tmps.getD 102 undef = .pointer (some ⟨kb, 1, none⟩) := hd 3 (by kernel_rfl) (by decide)
    have hc : w'.cell? ⟨kb, 1, none⟩ = some (.string rk) := (HN.out.2.below hb HN.out.2.lt).cell 1 _ rfl
    have hr : (Instr.loadAt 9 (.pointer (some ⟨kb, 1, none⟩))).run Tryz.prog w' = .ok (.string rk) w' := by go_simp
    refine runs_value rfl ?_ ⟨rfl, Below.refl _ _⟩
    rw [show b.eval (.tmp 102) = _ from e]
    exact hr
   | 5, _ =>
    obtain rfl := Option.some.inj ho
    have e : b.tmps.getD 14 undef = .pointer (some ⟨kb, 0, none⟩) := hx 14 rfl
    have hr : (Instr.fieldAt 70 (.pointer (some ⟨kb, 0, none⟩)) 2).run Tryz.prog w' = .ok (.pointer (some ⟨kb, 2, none⟩)) w' := by go_simp
    refine runs_value rfl ?_ ⟨rfl, Below.refl _ _⟩
    rw [show b.eval (.tmp 14) = _ from e]
    exact hr
   | 6, _ =>
    obtain rfl := Option.some.inj ho
    have e : b.tmps.getD 104 undef = .pointer (some ⟨kb, 2, none⟩) := hd 5 (by kernel_rfl) (by decide)
    have hc : w'.cell? ⟨kb, 2, none⟩ = some (.string ra) := (HN.out.2.below hb HN.out.2.lt).cell 2 _ rfl
    have hr : (Instr.loadAt 9 (.pointer (some ⟨kb, 2, none⟩))).run Tryz.prog w' = .ok (.string ra) w' := by go_simp
    refine runs_value rfl ?_ ⟨rfl, Below.refl _ _⟩
    rw [show b.eval (.tmp 104) = _ from e]
    exact hr
   | 7, _ =>
    obtain rfl := Option.some.inj ho
    have e : b.tmps.getD 105 undef = .string ra := hd 6 (by kernel_rfl) (by decide)
    refine runs_call rfl (fun _ _ => rfl) ?_
    show Calls _ _ #[b.tmps.getD 105 undef] w' _
    rw [e]
    exact (gWrittenB_any ra w').mono fun e w'' h => ⟨_, h.1, rfl, h.2⟩
   | 8, _ =>
    obtain rfl := Option.some.inj ho
    have e : b.tmps.getD 14 undef = .pointer (some ⟨kb, 0, none⟩) := hx 14 rfl
    have hr : (Instr.fieldAt 70 (.pointer (some ⟨kb, 0, none⟩)) 3).run Tryz.prog w' = .ok (.pointer (some ⟨kb, 3, none⟩)) w' := by go_simp
    refine runs_value rfl ?_ ⟨rfl, Below.refl _ _⟩
    rw [show b.eval (.tmp 14) = _ from e]
    exact hr
   | 9, _ =>
    obtain rfl := Option.some.inj ho
    have e : b.tmps.getD 107 undef = .pointer (some ⟨kb, 3, none⟩) := hd 8 (by kernel_rfl) (by decide)
    have hc : w'.cell? ⟨kb, 3, none⟩ = some (.string rb) := (HN.out.2.below hb HN.out.2.lt).cell 3 _ rfl
    have hr : (Instr.loadAt 9 (.pointer (some ⟨kb, 3, none⟩))).run Tryz.prog w' = .ok (.string rb) w' := by go_simp
    refine runs_value rfl ?_ ⟨rfl, Below.refl _ _⟩
    rw [show b.eval (.tmp 107) = _ from e]
    exact hr
   | 10, _ =>
    obtain rfl := Option.some.inj ho
    have e : b.tmps.getD 108 undef = .string rb := hd 9 (by kernel_rfl) (by decide)
    refine runs_call rfl (fun _ _ => rfl) ?_
    show Calls _ _ #[b.tmps.getD 108 undef] w' _
    rw [e]
    exact (gWrittenB_any rb w').mono fun e w'' h => ⟨_, h.1, rfl, h.2⟩
   | 11, _ =>
    obtain rfl := Option.some.inj ho
    have e : b.tmps.getD 14 undef = .pointer (some ⟨kb, 0, none⟩) := hx 14 rfl
    have hr : (Instr.fieldAt 70 (.pointer (some ⟨kb, 0, none⟩)) 4).run Tryz.prog w' = .ok (.pointer (some ⟨kb, 4, none⟩)) w' := by go_simp
    refine runs_value rfl ?_ ⟨rfl, Below.refl _ _⟩
    rw [show b.eval (.tmp 14) = _ from e]
    exact hr
   | 12, _ =>
    obtain rfl := Option.some.inj ho
    have e : b.tmps.getD 110 undef = .pointer (some ⟨kb, 4, none⟩) := hd 11 (by kernel_rfl) (by decide)
    have hc : w'.cell? ⟨kb, 4, none⟩ = some (.int .i64 rv) := (HN.out.2.below hb HN.out.2.lt).cell 4 _ rfl
    have hr : (Instr.loadAt 3 (.pointer (some ⟨kb, 4, none⟩))).run Tryz.prog w' = .ok (.int .i64 rv) w' := by go_simp
    refine runs_value rfl ?_ ⟨rfl, Below.refl _ _⟩
    rw [show b.eval (.tmp 110) = _ from e]
    exact hr
   | 13, _ =>
    obtain rfl := Option.some.inj ho
    have e : b.tmps.getD 111 undef = .int .i64 rv := hd 12 (by kernel_rfl) (by decide)
    refine runs_call rfl (fun _ _ => rfl) ?_
    show Calls _ _ #[b.tmps.getD 111 undef] w' _
    rw [e]
    exact (gItoa_any rv w' n5 n6 (HD.out _ _ (HN.out.1.new hb))).mono fun e w'' h => ⟨_, h.1, rfl, h.2⟩
   | 14, _ =>
    obtain rfl := Option.some.inj ho
    have e1 : b.tmps.getD 101 undef = .string rn := hd 2 (by kernel_rfl) (by decide)
    have e2 : b.tmps.getD 103 undef = .string rk := hd 4 (by kernel_rfl) (by decide)
    have e3 : b.tmps.getD 106 undef = .string (Sm.tok ra) := hd 7 (by kernel_rfl) (by decide)
    have e4 : b.tmps.getD 109 undef = .string (Sm.tok rb) := hd 10 (by kernel_rfl) (by decide)
    have e5 : b.tmps.getD 112 undef = .string (Sm.itoaB rv) := hd 13 (by kernel_rfl) (by decide)
    have hbs : (Instr.buildSlice 45 6 #[(0, .string ⟨#[114, 117, 108, 101]⟩), (1, .string rn), (2, .string rk), (3, .string (Sm.tok ra)), (4, .string (Sm.tok rb)), (5, .string (Sm.itoaB rv))]).run Tryz.prog w' = .ok (.slice (some ⟨w'.heap.size, 0, none⟩) 6 6) (w'.alloc (.cells #[.string ⟨#[114, 117, 108, 101]⟩, .string rn, .string rk, .string (Sm.tok ra), .string (Sm.tok rb), .string (Sm.itoaB rv)] 9)) := by go_simp
    rw [← e1, ← e2, ← e3, ← e4, ← e5] at hbs
    refine runs_value (X := Instr.buildSlice 45 6 #[(0, .string ⟨#[114, 117, 108, 101]⟩), (1, b.tmps.getD 101 undef), (2, b.tmps.getD 103 undef), (3, b.tmps.getD 106 undef), (4, b.tmps.getD 109 undef), (5, b.tmps.getD 112 undef)]) (by unfold execOp; simp [Act.eval]) hbs ⟨⟨w'.heap.size, rfl, ?_⟩, alloc_belowS _ _⟩
    rw [e1, e2, e3, e4, e5]
    exact Blk.new w' ((Sm.ruleLine ⟨rn, rk, ra, rb, rv⟩).map sv) _
   | n + 15, h => exact absurd h (by simp)
  intro vals w' hb hf
  have t0 : vals 0 = .func (.func 89) #[] #[.pointer (some ⟨xb + 2, 0, none⟩)] := hf 0 (by decide)
  obtain ⟨g, t1, hgb⟩ := hf 14 (by decide)
  simp only [puts, List.length_cons, List.length_nil, Nat.zero_add, Nat.reduceAdd, List.drop_succ_cons, List.drop_zero, t0, t1]
  have hn2 := HN.out.1.new hb
  have hkb2 := HN.out.2.below hb HN.out.2.lt
  have cP := soPut_any hn2 g 0 6 (Sm.ruleLine ⟨rn, rk, ra, rb, rv⟩) (fun j x hx => by rw [Nat.zero_add]; exact hgb.cell j (sv x) (by rw [List.getElem?_map, hx]; rfl)) hgb.lt (by show 6 ≤ 10000; decide) (Nat.le_refl _) (fun s hs => Nat.le_trans (HK.out.2.2 s hs) (by decide)) (by show 6 ≤ 300; decide) (by omega)
  have CP := Lib.hid cP
  have HN := Lib.hid hkb2
  clear cP hn2 hkb2 hb hf t0 t1 hgb
  try go_frame
  go_wp2_with fail
  refine CP.out.mono ?_
  rintro e w8 ⟨⟨vv, rfl⟩, hst, -, -⟩
  have H8 := Lib.hid hst
  clear hst CP HN
  go_wp2_with fail
  go_roundw
  case rel => exact ⟨m + 1, Sm.putRule V ⟨rn, rk, ra, rb, rv⟩, by go_num, by omega, HK.out.1.symm, by have := HK.out.2.1; omega, H8.out⟩
  case measure => simp [intOf]; omega
 obtain rfl : m = NR := by omega
 have hVz : V = z := by
  rw [HV.out, List.take_of_length_le (by rw [← HZ.out.2.2.2]; exact Nat.le_refl _), HPK.out, HOK.out, HO0.out, HZ.out.1]
 rw [hVz] at hst
 have c := hst.2.1.cell 0 _ rfl
 have H5 := Lib.hid hst
 have cS := Tryz.Builder_String_any_k xb (xb + 1) (sb z) wr hst.2.2.1 (Nat.le_of_lt hst.1.lt)
 have CS := Lib.hid cS
 clear hVz hst HV hm hlt hVs cS hPs2
 go_wp2_with fail
 refine CS.out.mono ?_
 rintro e w9 ⟨rfl, -, hb, -⟩
 have H9 := Lib.hid (H5.out.2.2.2.trans hb)
 clear hb CS c H5
 go_wp2_with fail
 go_ret
 exact ⟨rfl, HXB.out ▸ H9.out⟩
end Go.Proofs.YtkgddcemocfgfaaGreatDoor
end

