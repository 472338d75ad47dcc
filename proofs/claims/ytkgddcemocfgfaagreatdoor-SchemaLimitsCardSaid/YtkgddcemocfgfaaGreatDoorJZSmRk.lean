import Derived.Test.YtkgddcemocfgfaaGreatDoorJZSmEa

section
/- The reference of schemas: Source. -/

namespace Go.Proofs.YtkgddcemocfgfaaGreatDoor
open Go.RowKit
set_option linter.unusedVariables false
set_option linter.unusedSimpArgs false
set_option maxRecDepth 100000

theorem fold_take_succ {α : Type} (F : ByteArray → α → ByteArray) (l : List α) (k : Nat) (x : α) (o : ByteArray) (hx : l[k]? = some x) : (l.take (k + 1)).foldl F o = F ((l.take k).foldl F o) x := by
 rw [List.take_add_one, hx]
 simp

set_option maxHeartbeats 8000000 in
theorem smSource_any (x : Sm.Sc) (Ak : Option Addr) (ck : Nat) (Al : Option Addr) (cl : Nat) (Ar : Option Addr) (cr : Nat) (w : World) (hK : Rows KdC w w.heap.size Ak x.kinds) (hL : Rows LfC w w.heap.size Al x.lives) (hR : Rows RuC w w.heap.size Ar x.rules) (hS : Sm.SmallS x) :
  Calls Tryz.prog 22 #[.agg #[.int .i64 x.version, .slice Ak x.kinds.length ck, .slice Al x.lives.length cl, .slice Ar x.rules.length cr]] w fun e w' => e = .returned (.string (Sm.source x)) ∧ Below w.heap.size w w' := by
 obtain ⟨version, kinds, lives, rules⟩ := x
 dsimp only at hK hL hR ⊢
 obtain ⟨z, hz⟩ : ∃ z, z = Sm.source ⟨version, kinds, lives, rules⟩ := ⟨_, rfl⟩
 rw [← hz]
 have hz2 : z = rules.foldl Sm.ruleT (lives.foldl Sm.lifeT (kinds.foldl Sm.kindT (Sm.and ⟨#[115, 99, 104, 101, 109, 97]⟩ version))) ++ ⟨#[10]⟩ := hz
 have hv : -4611686018427387904 < version ∧ version < 4611686018427387904 := by have := hS.version; unfold Sm.num at this; dsimp only at this; omega
 have cV := fun W => smAnd_any ⟨#[115, 99, 104, 101, 109, 97]⟩ version W (by decide) hv.1 hv.2
 have hvs := Sm.and_le (s := ⟨#[115, 99, 104, 101, 109, 97]⟩) hS.version
 dsimp only at hvs
 rw [show (ByteArray.mk #[115, 99, 104, 101, 109, 97]).size = 6 from rfl] at hvs
 obtain ⟨O0, hO0⟩ : ∃ o, o = Sm.and ⟨#[115, 99, 104, 101, 109, 97]⟩ version := ⟨_, rfl⟩
 rw [← hO0] at hz2 hvs
 simp only [← hO0] at cV
 obtain ⟨NK, hNK⟩ : ∃ n, n = kinds.length := ⟨_, rfl⟩
 obtain ⟨NL, hNL⟩ : ∃ n, n = lives.length := ⟨_, rfl⟩
 obtain ⟨NR, hNR⟩ : ∃ n, n = rules.length := ⟨_, rfl⟩
 have hs1 := hS.fewk
 have hs2 := hS.fewl
 have hs3 := hS.fewr
 dsimp only at hs1 hs2 hs3
 rw [← hNK] at hs1 ⊢
 rw [← hNL] at hs2 ⊢
 rw [← hNR] at hs3 ⊢
 have HZ := Lib.hid (And.intro hz2 (And.intro hNK (And.intro hNL (And.intro hNR hS))))
 have HR := Lib.hid (And.intro hK (And.intro hL hR))
 have CV := Lib.hid cV
 clear hz hz2 cV hNK hNL hNR hS hK hL hR hv hO0
 go_enter Tryz.func22, Tryz.ntmps22
 go_wp2_with fail
 refine (CV.out _).mono ?_
 rintro e w1 ⟨rfl, hb⟩
 have g := (Blk.new w [.int .i64 version, .slice Ak NK ck, .slice Al NL cl, .slice Ar NR cr] 27).below hb (by simp)
 have hb1 : Below w.heap.size w w1 := ((Below.refl _ _).alloc (Nat.le_refl _) _).trans (hb.mono (by simp))
 have HB := Lib.hid (And.intro g hb1)
 clear g hb hb1 CV
 go_wp2_with fail
 go_loopw [3, 4] (fun o i wr => ∃ (j : Nat) (O : ByteArray), j ≤ NK ∧ i = .int .i64 j ∧ o = .string O ∧ O = (kinds.take j).foldl Sm.kindT O0 ∧ O.size ≤ 100 + 130152 * j ∧ Blk wr w.heap.size [.int .i64 version, .slice Ak NK ck, .slice Al NL cl, .slice Ar NR cr] 27 ∧ Below w.heap.size w wr) (fun _ i _ => NK - (intOf i).toNat)
 case atStart => exact ⟨0, O0, by omega, rfl, rfl, rfl, by omega, HB.out.1, HB.out.2⟩
 case round =>
  clear HB
  obtain ⟨j, O, hj, rfl, rfl, hO, hOs, hx, hb⟩ := hrel
  have HO := Lib.hid hO
  clear hO
  obtain ⟨Wr, hWr⟩ : ∃ W, W = wr := ⟨_, rfl⟩
  rw [← hWr] at hx hb ⊢
  clear hWr
  have c1 := hx.cell 1 _ rfl
  by_cases hlt : j < NK
  ·have hlt2 : j < kinds.length := by rw [← HZ.out.2.1]; exact hlt
   have hg : kinds[j]? = some kinds[j] := List.getElem?_eq_getElem hlt2
   have hst := fold_take_succ Sm.kindT kinds j _ O0 hg
   have hsk := HZ.out.2.2.2.2.kinds _ (List.getElem_mem hlt2)
   obtain ⟨kd, hkd⟩ : ∃ k, k = kinds[j] := ⟨_, rfl⟩
   rw [← hkd] at hg hst hsk
   rw [← HO.out] at hst
   have hkl := Sm.kindT_le (o := O) hsk
   have hk0 := Sm.kind0_le (o := O) hsk
   obtain ⟨kname, klo, khi, fields⟩ := kd
   obtain ⟨b, off, cs, rfl, hbl, ⟨Af, cf, rfl, hrf, -⟩, hcell⟩ := (HR.out.1.keep (Keep.of hb) fun _ _ k => KdC.keep k (Keep.of hb)).at (by decide) (fun _ _ => KdC.size) j _ hg
   dsimp only at hcell hrf
   obtain ⟨NF, hNF⟩ : ∃ n, n = fields.length := ⟨_, rfl⟩
   rw [← hNF] at hcell
   have d0 : Wr.cell? ⟨b, off + j * 4, none⟩ = some (.string kname) := hcell 0 _ rfl
   have d1 := hcell 1 _ rfl
   have d2 := hcell 2 _ rfl
   have d3 := hcell 3 _ rfl
   have j1 : (j : Int) < NK := by omega
   have hkn := hsk.name
   have hklo := hsk.lo
   have hkhi := hsk.hi
   have hkf := hsk.few
   have hkfs := hsk.fields
   unfold Sm.num at hklo hkhi
   dsimp only at hkn hklo hkhi hkf hkfs
   rw [← hNF] at hkf
   have hkb := Blk.new Wr [.string kname, .int .i64 klo, .int .i64 khi, .slice Af NF cf] 63
   have hxa := hx.alloc (.cells [.string kname, .int .i64 klo, .int .i64 khi, .slice Af NF cf].toArray 63)
   have hba := hb.alloc hb.size (.cells [.string kname, .int .i64 klo, .int .i64 khi, .slice Af NF cf].toArray 63)
   have hlx := hx.lt
   have HQ := Lib.hid (And.intro hst (And.intro hkl (And.intro hrf (And.intro hb (And.intro hNF hkfs)))))
   clear hst hrf hNF hkfs hkd hcell hg hsk hlt2 hx hb hkl
   go_wp2_with fail
   obtain ⟨W2, hW2⟩ : ∃ W, W = Wr.alloc (.cells #[.string kname, .int .i64 klo, .int .i64 khi, .slice Af NF cf] 63) := ⟨_, rfl⟩
   rw [← hW2]
   have hW3 : W2 = Wr.alloc (.cells [.string kname, .int .i64 klo, .int .i64 khi, .slice Af NF cf].toArray 63) := hW2
   rw [← hW3] at hkb hxa hba
   clear hW2 hW3 d0 d1 d2 d3 c1
   obtain ⟨kb, hkbn⟩ : ∃ k, k = Wr.heap.size := ⟨_, rfl⟩
   rw [← hkbn] at hkb hlx ⊢
   clear hkbn
   have q0 : ∀ q : BelT W2.heap.size W2, q.at.cell? ⟨kb, 0, none⟩ = some (.string kname) := fun q => (hkb.below q.out hkb.lt).cell 0 _ rfl
   have q1 : ∀ q : BelT W2.heap.size W2, q.at.cell? ⟨kb, 1, none⟩ = some (.int .i64 klo) := fun q => (hkb.below q.out hkb.lt).cell 1 _ rfl
   have q2 : ∀ q : BelT W2.heap.size W2, q.at.cell? ⟨kb, 2, none⟩ = some (.int .i64 khi) := fun q => (hkb.below q.out hkb.lt).cell 2 _ rfl
   have e1 : ¬ 9223372036854775807 < O.size + 6 := by omega
   have e2 : ¬ 9223372036854775807 < O.size + 6 + kname.size := by omega
   have z1 : (O ++ ⟨#[10, 107, 105, 110, 100, 32]⟩ ++ kname).size ≤ 8000000 := by rw [ByteArray.size_append, ByteArray.size_append, show (ByteArray.mk #[10, 107, 105, 110, 100, 32]).size = 6 from rfl]; omega
   have z2 : (Sm.and (O ++ ⟨#[10, 107, 105, 110, 100, 32]⟩ ++ kname) klo).size ≤ 8000000 := by
    have := Sm.and_size (O ++ ⟨#[10, 107, 105, 110, 100, 32]⟩ ++ kname) klo (by omega) (by omega)
    rw [ByteArray.size_append, ByteArray.size_append, show (ByteArray.mk #[10, 107, 105, 110, 100, 32]).size = 6 from rfl] at this
    omega
   have HZ12 := Lib.hid (And.intro z1 z2)
   clear z1 z2
   refine wp_region_below W2.heap.size (by kernel_rfl) (by kernel_rfl) ?_
   repeat (go_big_quiet_step (exact (smAnd_any _ _ _ (by first | exact HZ12.out.1 | exact HZ12.out.2) (by omega) (by omega)).mono fun e w' h => ⟨h.1, BelT.of ((BelT.out _).trans (h.2.mono (BelT.out _).size))⟩))
   refine wpQuiet_nil ?_
   intro w'' hw''
   obtain ⟨q, rfl⟩ := hw''
   have HY := Lib.hid (And.intro (hkb.below q.out hkb.lt) (And.intro (hxa.below q.out hxa.lt) (hba.trans (q.out.mono hba.size))))
   obtain ⟨W5, hW5⟩ : ∃ W, W = q.at := ⟨_, rfl⟩
   rw [← hW5] at HY ⊢
   clear q0 q1 q2 hkb hxa hba hW5
   obtain ⟨O1, hO1⟩ : ∃ o, o = Sm.and (Sm.and (O ++ ⟨#[10, 107, 105, 110, 100, 32]⟩ ++ kname) klo) khi := ⟨_, rfl⟩
   have hk0' : O1.size ≤ O.size + 152 := by rw [hO1]; exact hk0
   rw [← hO1]
   have HO1 := Lib.hid hO1
   clear hO1 e1 e2 hk0 HZ12
   go_wp2_with fail
   go_loopw [3, 6] (fun o i wr => ∃ (m : Nat) (P : ByteArray), m ≤ NF ∧ i = .int .i64 m ∧ o = .string P ∧ P = (fields.take m).foldl Sm.addLine O1 ∧ P.size ≤ O.size + 152 + 13000 * m ∧ Blk wr kb [.string kname, .int .i64 klo, .int .i64 khi, .slice Af NF cf] 63 ∧ Blk wr w.heap.size [.int .i64 version, .slice (some ⟨b, off, none⟩) NK ck, .slice Al NL cl, .slice Ar NR cr] 27 ∧ Below w.heap.size w wr) (fun _ i _ => NF - (intOf i).toNat)
   case atStart => exact ⟨0, O1, by omega, rfl, rfl, rfl, by omega, HY.out.1, HY.out.2.1, HY.out.2.2⟩
   case round =>
    clear HY
    obtain ⟨m, P, hm, rfl, rfl, hP, hPs, hkb, hx, hb⟩ := hrel
    have HP := Lib.hid hP
    clear hP
    have c3 := hkb.cell 3 _ rfl
    by_cases hlt3 : m < NF
    ·have hlt4 : m < fields.length := by rw [← HQ.out.2.2.2.2.1]; exact hlt3
     have hg : fields[m]? = some fields[m] := List.getElem?_eq_getElem hlt4
     have hst := fold_take_succ Sm.addLine fields m _ O1 hg
     have hsf := HQ.out.2.2.2.2.2 _ (List.getElem_mem hlt4)
     obtain ⟨f, hf⟩ : ∃ f, f = fields[m] := ⟨_, rfl⟩
     rw [← hf] at hg hst hsf
     rw [← HP.out] at hst
     have hkp : Keep w.heap.size Wr wr := fun p hp => (hb.cell hp).trans (HQ.out.2.2.2.1.cell hp).symm
     obtain ⟨bf, of, cs, rfl, hbl2, ⟨Aw, cw, Ag, cg, rfl, r1, r2, -⟩, hcell⟩ := (HQ.out.2.2.1.keep hkp fun _ _ k => FdC.keep k hkp).at (by decide) (fun _ _ => FdC.size) m f hg
     have d0 : wr.cell? ⟨bf, of + m * 8, none⟩ = some (.string f.name) := hcell 0 _ rfl
     have d1 := hcell 1 _ rfl
     have d2 := hcell 2 _ rfl
     have d3 := hcell 3 _ rfl
     have d4 := hcell 4 _ rfl
     have d5 := hcell 5 _ rfl
     have d6 := hcell 6 _ rfl
     have d7 := hcell 7 _ rfl
     have cF := smLine_any f Aw cw Ag cg wr (r1.more hb.size) (r2.more hb.size) hsf
     have hll := Sm.line_le hsf
     obtain ⟨T, hT⟩ : ∃ T, T = Sm.line f := ⟨_, rfl⟩
     rw [← hT] at cF hll
     have hst2 : (fields.take (m + 1)).foldl Sm.addLine O1 = P ++ T := by rw [hst, hT]; rfl
     unfold fdV at cF
     have CF := Lib.hid cF
     have j2 : (m : Int) < NF := by omega
     have e1 : ¬ 9223372036854775807 < P.size + T.size := by omega
     have HK := Lib.hid (And.intro hkb (And.intro hx (And.intro hb hst2)))
     clear hst hst2 hg hf cF hcell r1 r2 hsf hkb hx hb hlt4 hT hkp
     go_wp2_with fail
     refine CF.out.mono ?_
     rintro e w7 ⟨rfl, hb7⟩
     have HN := Lib.hid (And.intro (HK.out.1.below hb7 HK.out.1.lt) (And.intro (HK.out.2.1.below hb7 HK.out.2.1.lt) (HK.out.2.2.1.trans (hb7.mono HK.out.2.2.1.size))))
     clear hb7 CF d0 d1 d2 d3 d4 d5 d6 d7 c3
     go_wp2_with fail
     go_roundw
     case rel => exact ⟨m + 1, P ++ T, by omega, by go_num, rfl, HK.out.2.2.2.symm, by rw [ByteArray.size_append]; omega, HN.out.1, HN.out.2.1, HN.out.2.2⟩
     case measure => simp [intOf]; omega
    ·obtain rfl : m = NF := by omega
     have hPf : P = Sm.kindT O ⟨kname, klo, khi, fields⟩ := by
      rw [HP.out, List.take_of_length_le (by rw [← HQ.out.2.2.2.2.1]; omega), HO1.out]; rfl
     have HN := Lib.hid (And.intro (HQ.out.1.trans hPf.symm) (And.intro hx hb))
     have hPs3 : P.size ≤ O.size + 130152 := by rw [hPf]; exact HQ.out.2.1
     have hPs2 : P.size ≤ 100 + 130152 * (j + 1) := by rw [Nat.mul_succ, ← Nat.add_assoc]; exact Nat.le_trans hPs3 (Nat.add_le_add_right hOs _)
     clear hkb hx hb hPf HP
     go_wp2_with fail
     go_roundw
     case rel => exact ⟨j + 1, P, by omega, by go_num, rfl, HN.out.1.symm, hPs2, HN.out.2.1, HN.out.2.2⟩
     case measure => simp [intOf]; omega
  ·obtain rfl : j = NK := by omega
   have hOs2 : O.size ≤ 1301620 := Nat.le_trans hOs (by have := Nat.mul_le_mul_left 130152 hs1; exact Nat.add_le_add_left this 100)
   have hOK : O = kinds.foldl Sm.kindT O0 := by rw [HO.out, List.take_of_length_le (by rw [← HZ.out.2.1]; exact Nat.le_refl _)]
   have HB := Lib.hid (And.intro hx (And.intro hb hOK))
   clear hOs hOK hx hb HO hvs hj
   go_wp2_with fail
   clear c1 hlt
   go_loopw [3, 7] (fun o i wr => ∃ (k : Nat) (P : ByteArray), k ≤ NL ∧ i = .int .i64 k ∧ o = .string P ∧ P = (lives.take k).foldl Sm.lifeT O ∧ P.size ≤ 1301620 + 4189 * k ∧ Blk wr w.heap.size [.int .i64 version, .slice Ak j ck, .slice Al NL cl, .slice Ar NR cr] 27 ∧ Below w.heap.size w wr) (fun _ i _ => NL - (intOf i).toNat)
   case atStart => exact ⟨0, O, Nat.zero_le _, rfl, rfl, rfl, hOs2, HB.out.1, HB.out.2.1⟩
   case round =>
    obtain ⟨k, P, hk, rfl, rfl, hP, hPs, hx, hb⟩ := hrel
    have HP := Lib.hid hP
    clear hP
    obtain ⟨Wl, hWl⟩ : ∃ W, W = wr := ⟨_, rfl⟩
    rw [← hWl] at hx hb ⊢
    clear hWl
    have c2 := hx.cell 2 _ rfl
    by_cases hlk : k < NL
    ·have hlk2 : k < lives.length := by rw [← HZ.out.2.2.1]; exact hlk
     have hg : lives[k]? = some lives[k] := List.getElem?_eq_getElem hlk2
     have hst := fold_take_succ Sm.lifeT lives k _ O hg
     have hsk := HZ.out.2.2.2.2.lives _ (List.getElem_mem hlk2)
     obtain ⟨lf, hlf⟩ : ∃ f, f = lives[k] := ⟨_, rfl⟩
     rw [← hlf] at hg hst hsk
     rw [← HP.out] at hst
     have hkl := Sm.lifeT_le (o := P) hsk
     have hk0 := Sm.life0_le (o := P) hsk
     obtain ⟨lname, states, moves⟩ := lf
     obtain ⟨b, off, cs, rfl, hbl, ⟨As, cs', Am, cm, rfl, hrs, hrm, -⟩, hcell⟩ := (HR.out.2.1.keep (Keep.of hb) fun _ _ q => LfC.keep q (Keep.of hb)).at (by decide) (fun _ _ => LfC.size) k _ hg
     dsimp only at hcell hrs hrm
     obtain ⟨NS, hNS⟩ : ∃ n, n = states.length := ⟨_, rfl⟩
     obtain ⟨NM, hNM⟩ : ∃ n, n = moves.length := ⟨_, rfl⟩
     rw [← hNS, ← hNM] at hcell
     have d0 : Wl.cell? ⟨b, off + k * 3, none⟩ = some (.string lname) := hcell 0 _ rfl
     have d1 := hcell 1 _ rfl
     have d2 := hcell 2 _ rfl
     have j1 : (k : Int) < NL := by omega
     have hln := hsk.name
     have hlfs := hsk.few
     have hlfm := hsk.fewm
     have hlst := hsk.states
     have hlmv := hsk.moves
     dsimp only at hln hlfs hlfm hlst hlmv
     rw [← hNS] at hlfs
     rw [← hNM] at hlfm
     have hkb := Blk.new Wl [.string lname, .slice As NS cs', .slice Am NM cm] 67
     have hxa := hx.alloc (.cells [.string lname, .slice As NS cs', .slice Am NM cm].toArray 67)
     have hba := hb.alloc hb.size (.cells [.string lname, .slice As NS cs', .slice Am NM cm].toArray 67)
     have hlx := hx.lt
     have HQ := Lib.hid (And.intro hst (And.intro hkl (And.intro hrs (And.intro hrm (And.intro hb (And.intro hNS (And.intro hNM (And.intro hlst hlmv))))))))
     have e1 : ¬ 9223372036854775807 < P.size + 6 := by omega
     have e2 : ¬ 9223372036854775807 < P.size + 6 + lname.size := by omega
     have z1 : (P ++ ⟨#[10, 108, 105, 102, 101, 32]⟩ ++ lname).size ≤ 8000000 := by rw [ByteArray.size_append, ByteArray.size_append, show (ByteArray.mk #[10, 108, 105, 102, 101, 32]).size = 6 from rfl]; omega
     have cA := fun W => smAnd_any (P ++ ⟨#[10, 108, 105, 102, 101, 32]⟩ ++ lname) (NS : Int) W z1 (by omega) (by omega)
     have CA := Lib.hid cA
     clear hst hrs hrm hNS hNM hlst hlmv hlf hcell hg hsk hlk2 hx hb hkl z1 cA
     go_wp2_with fail
     obtain ⟨W2, hW2⟩ : ∃ W, W = Wl.alloc (.cells #[.string lname, .slice As NS cs', .slice Am NM cm] 67) := ⟨_, rfl⟩
     rw [← hW2]
     have hW3 : W2 = Wl.alloc (.cells [.string lname, .slice As NS cs', .slice Am NM cm].toArray 67) := hW2
     rw [← hW3] at hkb hxa hba
     clear hW2 hW3 d0 d1 d2 c2
     obtain ⟨kb, hkbn⟩ : ∃ k, k = Wl.heap.size := ⟨_, rfl⟩
     rw [← hkbn] at hkb hlx ⊢
     clear hkbn
     refine (CA.out _).mono ?_
     rintro e w5 ⟨rfl, hb5⟩
     have HY := Lib.hid (And.intro (hkb.below hb5 hkb.lt) (And.intro (hxa.below hb5 hxa.lt) (hba.trans (hb5.mono hba.size))))
     obtain ⟨O1, hO1⟩ : ∃ o, o = Sm.and (P ++ ⟨#[10, 108, 105, 102, 101, 32]⟩ ++ lname) (NS : Int) := ⟨_, rfl⟩
     have hO2 : O1 = Sm.life0 P ⟨lname, states, moves⟩ := by rw [hO1, HQ.out.2.2.2.2.2.1]; rfl
     have hk0' : O1.size ≤ P.size + 129 := by rw [hO2]; exact hk0
     rw [← hO1]
     have HO1 := Lib.hid hO2
     clear hO1 hO2 CA e1 e2 hk0 hb5 hkb hxa hba
     go_wp2_with fail
     go_loopw [3, 9] (fun o i wr => ∃ (m : Nat) (T : ByteArray), m ≤ NS ∧ i = .int .i64 m ∧ o = .string T ∧ T = (states.take m).foldl Sm.addState O1 ∧ T.size ≤ P.size + 129 + 101 * m ∧ Blk wr kb [.string lname, .slice As NS cs', .slice Am NM cm] 67 ∧ Blk wr w.heap.size [.int .i64 version, .slice Ak j ck, .slice (some ⟨b, off, none⟩) NL cl, .slice Ar NR cr] 27 ∧ Below w.heap.size w wr) (fun _ i _ => NS - (intOf i).toNat)
     case atStart => exact ⟨0, O1, Nat.zero_le _, rfl, rfl, rfl, hk0', HY.out.1, HY.out.2.1, HY.out.2.2⟩
     case round =>
      clear HY
      obtain ⟨m, T, hm, rfl, rfl, hT, hTs, hkb, hx, hb⟩ := hrel
      have HT := Lib.hid hT
      clear hT
      have c1 := hkb.cell 1 _ rfl
      by_cases hlt3 : m < NS
      ·have hlt4 : m < states.length := by rw [← HQ.out.2.2.2.2.2.1]; exact hlt3
       have hg : states[m]? = some states[m] := List.getElem?_eq_getElem hlt4
       have hst := fold_take_succ Sm.addState states m _ O1 hg
       have hss := HQ.out.2.2.2.2.2.2.2.1 _ (List.getElem_mem hlt4)
       obtain ⟨bs', os', hAs, hbs, hcs⟩ := HQ.out.2.2.1 (by rw [List.length_map]; omega)
       have d0 := hcs m (sv states[m]) (by rw [List.getElem?_map, hg]; rfl)
       obtain ⟨s, hs⟩ : ∃ s, s = states[m] := ⟨_, rfl⟩
       rw [← hs] at hst hss d0
       rw [← HT.out] at hst
       unfold sv at d0
       have d1 : wr.cell? ⟨bs', os' + m, none⟩ = some (.string s) := ((hb.cell hbs).trans (HQ.out.2.2.2.2.1.cell hbs).symm).trans d0
       have e1 : ¬ 9223372036854775807 < T.size + 1 := by omega
       have e2 : ¬ 9223372036854775807 < T.size + 1 + s.size := by omega
       have j2 : (m : Int) < NS := by omega
       have hts2 : (T ++ ⟨#[32]⟩ ++ s).size ≤ P.size + 129 + 101 * (m + 1) := by
        rw [ByteArray.size_append, ByteArray.size_append, show (ByteArray.mk #[32]).size = 1 from rfl]
        omega
       have HK := Lib.hid (And.intro hkb (And.intro hx (And.intro hb (And.intro hst hts2))))
       rw [hAs] at c1
       clear hst hg hs hcs d0 hkb hx hb hlt4 hts2 hAs hbs hss
       go_wp2_with fail
       go_roundw
       case rel => exact ⟨m + 1, T ++ ⟨#[32]⟩ ++ s, by omega, by go_num, rfl, HK.out.2.2.2.1.symm, HK.out.2.2.2.2, HK.out.1, HK.out.2.1, HK.out.2.2.1⟩
       case measure => simp [intOf]; omega
      ·obtain rfl : m = NS := by omega
       have hT2 : T = states.foldl Sm.addState O1 := by rw [HT.out, List.take_of_length_le (by rw [← HQ.out.2.2.2.2.2.1]; exact Nat.le_refl _)]
       have hTs2 : T.size ≤ P.size + 2149 := by have := Nat.mul_le_mul_left 101 hlfs; omega
       have HN := Lib.hid (And.intro hkb (And.intro hx (And.intro hb hT2)))
       clear hkb hx hb hT2 HT hTs hm hlt3
       go_wp2_with fail
       clear c1
       go_loopw [3, 10] (fun o i wr => ∃ (q : Nat) (V : ByteArray), q ≤ NM ∧ i = .int .i64 q ∧ o = .string V ∧ V = (moves.take q).foldl Sm.moveT T ∧ V.size ≤ P.size + 2149 + 51 * q ∧ Blk wr kb [.string lname, .slice As m cs', .slice Am NM cm] 67 ∧ Blk wr w.heap.size [.int .i64 version, .slice Ak j ck, .slice (some ⟨b, off, none⟩) NL cl, .slice Ar NR cr] 27 ∧ Below w.heap.size w wr) (fun _ i _ => NM - (intOf i).toNat)
       case atStart => exact ⟨0, T, Nat.zero_le _, rfl, rfl, rfl, hTs2, HN.out.1, HN.out.2.1, HN.out.2.2.1⟩
       case round =>
        obtain ⟨q, V, hq, rfl, rfl, hV, hVs, hkb, hx, hb⟩ := hrel
        have HV := Lib.hid hV
        clear hV
        have c2 := hkb.cell 2 _ rfl
        by_cases hlt3 : q < NM
        ·have hlt4 : q < moves.length := by rw [← HQ.out.2.2.2.2.2.2.1]; exact hlt3
         have hg : moves[q]? = some moves[q] := List.getElem?_eq_getElem hlt4
         have hst := fold_take_succ Sm.moveT moves q _ T hg
         have hss := HQ.out.2.2.2.2.2.2.2.2 _ (List.getElem_mem hlt4)
         obtain ⟨bm, om, hAm, hbm, hcm⟩ := HQ.out.2.2.2.1 (by rw [moveC_len]; omega)
         obtain ⟨mv, hmv⟩ : ∃ s, s = moves[q] := ⟨_, rfl⟩
         rw [← hmv] at hst hss hg
         rw [← HV.out] at hst
         have hml := Sm.move_le (o := V) hss
         obtain ⟨m1, m2⟩ := mv
         have d0 := hcm _ _ (moveC_at moves q _ hg).1
         have d1 := hcm _ _ (moveC_at moves q _ hg).2
         unfold iv at d0 d1
         dsimp only at d0 d1
         rw [← Nat.add_assoc] at d1
         have q1 : ∀ y : BelT wr.heap.size wr, y.at.cell? ⟨bm, om + q * 2, none⟩ = some (.int .i64 m1) := fun y => ((y.out.cell (Nat.lt_of_lt_of_le hbm hb.size)).trans ((hb.cell hbm).trans (HQ.out.2.2.2.2.1.cell hbm).symm)).trans d0
         have q2 : ∀ y : BelT wr.heap.size wr, y.at.cell? ⟨bm, om + q * 2 + 1, none⟩ = some (.int .i64 m2) := fun y => ((y.out.cell (Nat.lt_of_lt_of_le hbm hb.size)).trans ((hb.cell hbm).trans (HQ.out.2.2.2.2.1.cell hbm).symm)).trans d1
         have q3 : ∀ y : BelT wr.heap.size wr, y.at.cell? ⟨kb, 2, none⟩ = some (.slice (some ⟨bm, om, none⟩) NM cm) := fun y => by rw [← hAm]; exact (hkb.below y.out hkb.lt).cell 2 _ rfl
         have e1 : ¬ 9223372036854775807 < V.size + 5 := by omega
         unfold Sm.num at hss
         obtain ⟨⟨n1, n2⟩, n3, n4⟩ := hss
         dsimp only at n1 n2 n3 n4
         have z1 : (V ++ ⟨#[10, 109, 111, 118, 101]⟩).size ≤ 8000000 := by rw [ByteArray.size_append, show (ByteArray.mk #[10, 109, 111, 118, 101]).size = 5 from rfl]; omega
         have z2 : (Sm.and (V ++ ⟨#[10, 109, 111, 118, 101]⟩) m1).size ≤ 8000000 := by
          have := Sm.and_size (V ++ ⟨#[10, 109, 111, 118, 101]⟩) m1 (by omega) (by omega)
          rw [ByteArray.size_append, show (ByteArray.mk #[10, 109, 111, 118, 101]).size = 5 from rfl] at this
          omega
         have hVs2 : (Sm.moveT V (m1, m2)).size ≤ P.size + 2149 + 51 * (q + 1) := by omega
         have HZ12 := Lib.hid (And.intro z1 z2)
         have j2 : (q : Int) < NM := by omega
         have HK := Lib.hid (And.intro hkb (And.intro hx (And.intro hb (And.intro hst hVs2))))
         rw [hAm] at c2
         clear hst hg hmv hcm d0 d1 hkb hx hb hlt4 hVs2 hAm hbm z1 z2 hml
         go_wp2_with fail
         refine wp_region_below wr.heap.size (by kernel_rfl) (by kernel_rfl) ?_
         repeat (go_big_quiet_step (exact (smAnd_any _ _ _ (by first | exact HZ12.out.1 | exact HZ12.out.2) (by omega) (by omega)).mono fun e w' h => ⟨h.1, BelT.of ((BelT.out _).trans (h.2.mono (BelT.out _).size))⟩))
         refine wpQuiet_nil ?_
         intro w'' hw''
         obtain ⟨y, rfl⟩ := hw''
         have HY := Lib.hid (And.intro (HK.out.1.below y.out HK.out.1.lt) (And.intro (HK.out.2.1.below y.out HK.out.2.1.lt) (HK.out.2.2.1.trans (y.out.mono HK.out.2.2.1.size))))
         clear q1 q2 q3 c2
         go_wp2_with fail
         go_roundw
         case rel => exact ⟨q + 1, Sm.moveT V (m1, m2), by omega, by go_num, rfl, HK.out.2.2.2.1.symm, HK.out.2.2.2.2, HY.out.1, HY.out.2.1, HY.out.2.2⟩
         case measure => simp [intOf]; omega
        ·obtain rfl : q = NM := by omega
         have hV2 : V = Sm.lifeT P ⟨lname, states, moves⟩ := by
          rw [HV.out, List.take_of_length_le (by rw [← HQ.out.2.2.2.2.2.2.1]; exact Nat.le_refl _), HN.out.2.2.2, HO1.out]; rfl
         have hVs3 : V.size ≤ P.size + 4189 := by rw [hV2]; exact HQ.out.2.1
         have hVs2 : V.size ≤ 1301620 + 4189 * (k + 1) := by rw [Nat.mul_succ, ← Nat.add_assoc]; exact Nat.le_trans hVs3 (Nat.add_le_add_right hPs _)
         have HF := Lib.hid (And.intro (HQ.out.1.trans hV2.symm) (And.intro hx hb))
         clear hkb hx hb hV2 HV
         go_wp2_with fail
         go_roundw
         case rel => exact ⟨k + 1, V, by omega, by go_num, rfl, HF.out.1.symm, hVs2, HF.out.2.1, HF.out.2.2⟩
         case measure => simp [intOf]; omega
    ·obtain rfl : k = NL := by omega
     have hPs2 : P.size ≤ 1343510 := Nat.le_trans hPs (by have := Nat.mul_le_mul_left 4189 hs2; exact Nat.add_le_add_left this 1301620)
     have hPK : P = lives.foldl Sm.lifeT O := by rw [HP.out, List.take_of_length_le (by rw [← HZ.out.2.2.1]; exact Nat.le_refl _)]
     have HD := Lib.hid (And.intro hx (And.intro hb hPK))
     clear hPs hPK hx hb HP hk
     go_wp2_with fail
     clear c2 hlk
     go_loopw [3, 11] (fun o i wr => ∃ (m : Nat) (T : ByteArray), m ≤ NR ∧ i = .int .i64 m ∧ o = .string T ∧ T = (rules.take m).foldl Sm.ruleT P ∧ T.size ≤ 1343510 + 432 * m ∧ Blk wr w.heap.size [.int .i64 version, .slice Ak j ck, .slice Al k cl, .slice Ar NR cr] 27 ∧ Below w.heap.size w wr) (fun _ i _ => NR - (intOf i).toNat)
     case atStart => exact ⟨0, P, Nat.zero_le _, rfl, rfl, rfl, hPs2, HD.out.1, HD.out.2.1⟩
     case round =>
      obtain ⟨m, T, hm, rfl, rfl, hT, hTs, hx, hb⟩ := hrel
      have HT := Lib.hid hT
      clear hT
      have c3 := hx.cell 3 _ rfl
      by_cases hlt : m < NR
      ·have hlt2 : m < rules.length := by rw [← HZ.out.2.2.2.1]; exact hlt
       have hg : rules[m]? = some rules[m] := List.getElem?_eq_getElem hlt2
       have hst := fold_take_succ Sm.ruleT rules m _ P hg
       have hsk := HZ.out.2.2.2.2.rules _ (List.getElem_mem hlt2)
       obtain ⟨ru, hru⟩ : ∃ r, r = rules[m] := ⟨_, rfl⟩
       rw [← hru] at hg hst hsk
       rw [← HT.out] at hst
       have hrl := Sm.rule_le (o := T) hsk
       obtain ⟨rn, rk, ra, rb, rv⟩ := ru
       obtain ⟨b, off, cs, hAr, hbl, hcs, hcell⟩ := (HR.out.2.2.keep (Keep.of hb) fun _ _ q => q).at (by decide) (fun _ _ => RuC.size) m _ hg
       obtain rfl := hcs
       dsimp only at hcell
       have d0 : wr.cell? ⟨b, off + m * 5, none⟩ = some (.string rn) := hcell 0 _ rfl
       have d1 := hcell 1 _ rfl
       have d2 := hcell 2 _ rfl
       have d3 := hcell 3 _ rfl
       have d4 := hcell 4 _ rfl
       have j1 : (m : Int) < NR := by omega
       have n1 := hsk.name
       have n2 := hsk.kind
       have n3 := hsk.a
       have n4 := hsk.b
       have n5 := hsk.n
       unfold Sm.num at n5
       dsimp only at n1 n2 n3 n4 n5
       obtain ⟨n5, n6⟩ := n5
       have t1 := Sm.tok_le n3 (by decide)
       have t2 := Sm.tok_le n4 (by decide)
       have hkb := Blk.new wr [.string rn, .string rk, .string ra, .string rb, .int .i64 rv] 70
       have hxa := hx.alloc (.cells [.string rn, .string rk, .string ra, .string rb, .int .i64 rv].toArray 70)
       have hba := hb.alloc hb.size (.cells [.string rn, .string rk, .string ra, .string rb, .int .i64 rv].toArray 70)
       have HQ := Lib.hid (And.intro hst hrl)
       rw [hAr] at c3
       clear hst hru hcell hg hsk hlt2 hx hb hrl hAr
       go_wp2_with fail
       obtain ⟨W2, hW2⟩ : ∃ W, W = wr.alloc (.cells #[.string rn, .string rk, .string ra, .string rb, .int .i64 rv] 70) := ⟨_, rfl⟩
       rw [← hW2]
       have hW3 : W2 = wr.alloc (.cells [.string rn, .string rk, .string ra, .string rb, .int .i64 rv].toArray 70) := hW2
       rw [← hW3] at hkb hxa hba
       clear hW2 hW3 d0 d1 d2 d3 d4 c3
       obtain ⟨kb, hkbn⟩ : ∃ k, k = wr.heap.size := ⟨_, rfl⟩
       rw [← hkbn] at hkb ⊢
       clear hkbn
       have q0 : ∀ q : BelT W2.heap.size W2, q.at.cell? ⟨kb, 0, none⟩ = some (.string rn) := fun q => (hkb.below q.out hkb.lt).cell 0 _ rfl
       have q1 : ∀ q : BelT W2.heap.size W2, q.at.cell? ⟨kb, 1, none⟩ = some (.string rk) := fun q => (hkb.below q.out hkb.lt).cell 1 _ rfl
       have q2 : ∀ q : BelT W2.heap.size W2, q.at.cell? ⟨kb, 2, none⟩ = some (.string ra) := fun q => (hkb.below q.out hkb.lt).cell 2 _ rfl
       have q3 : ∀ q : BelT W2.heap.size W2, q.at.cell? ⟨kb, 3, none⟩ = some (.string rb) := fun q => (hkb.below q.out hkb.lt).cell 3 _ rfl
       have q4 : ∀ q : BelT W2.heap.size W2, q.at.cell? ⟨kb, 4, none⟩ = some (.int .i64 rv) := fun q => (hkb.below q.out hkb.lt).cell 4 _ rfl
       have e1 : ¬ 9223372036854775807 < T.size + 6 := by omega
       have e2 : ¬ 9223372036854775807 < T.size + 6 + rn.size := by omega
       have e3 : ¬ 9223372036854775807 < T.size + 6 + rn.size + 1 := by omega
       have e4 : ¬ 9223372036854775807 < T.size + 6 + rn.size + 1 + rk.size := by omega
       have e5 : ¬ 9223372036854775807 < T.size + 6 + rn.size + 1 + rk.size + 1 := by omega
       have e6 : ¬ 9223372036854775807 < T.size + 6 + rn.size + 1 + rk.size + 1 + (Sm.tok ra).size := by omega
       have e7 : ¬ 9223372036854775807 < T.size + 6 + rn.size + 1 + rk.size + 1 + (Sm.tok ra).size + 1 := by omega
       have e8 : ¬ 9223372036854775807 < T.size + 6 + rn.size + 1 + rk.size + 1 + (Sm.tok ra).size + 1 + (Sm.tok rb).size := by omega
       have z1 : (T ++ ⟨#[10, 114, 117, 108, 101, 32]⟩ ++ rn ++ ⟨#[32]⟩ ++ rk ++ ⟨#[32]⟩ ++ Sm.tok ra ++ ⟨#[32]⟩ ++ Sm.tok rb).size ≤ 8000000 := by
        simp only [ByteArray.size_append, show (ByteArray.mk #[32]).size = 1 from rfl, show (ByteArray.mk #[10, 114, 117, 108, 101, 32]).size = 6 from rfl]
        omega
       have HZ1 := Lib.hid z1
       clear z1
       refine wp_region_below W2.heap.size (by kernel_rfl) (by kernel_rfl) ?_
       repeat (go_big_quiet_step (first
        | (go_at_call 58; exact (smNamed_any _ _).mono fun e w' h => ⟨h.1, _, h.2⟩)
        | (go_at_call 56; exact (smAnd_any _ _ _ (by exact HZ1.out) (by omega) (by omega)).mono fun e w' h => ⟨h.1, BelT.of ((BelT.out _).trans (h.2.mono (BelT.out _).size))⟩)))
       refine wpQuiet_nil ?_
       intro w'' hw''
       obtain ⟨y, rfl⟩ := hw''
       have HY := Lib.hid (And.intro (hxa.below y.out hxa.lt) (hba.trans (y.out.mono hba.size)))
       have hrs : (Sm.ruleT T ⟨rn, rk, ra, rb, rv⟩).size ≤ 1343510 + 432 * (m + 1) := by rw [Nat.mul_succ, ← Nat.add_assoc]; exact Nat.le_trans HQ.out.2 (Nat.add_le_add_right hTs _)
       have HS := Lib.hid hrs
       clear q0 q1 q2 q3 q4 e1 e2 e3 e4 e5 e6 e7 e8 hrs hkb hxa hba
       go_wp2_with fail
       go_roundw
       case rel => exact ⟨m + 1, Sm.ruleT T ⟨rn, rk, ra, rb, rv⟩, by omega, by go_num, rfl, HQ.out.1.symm, HS.out, HY.out.1, HY.out.2⟩
       case measure => simp [intOf]; omega
      ·obtain rfl : m = NR := by omega
       have hTs2 : T.size ≤ 1352150 := Nat.le_trans hTs (by have := Nat.mul_le_mul_left 432 hs3; exact Nat.add_le_add_left this 1343510)
       have hfin : z = T ++ ⟨#[10]⟩ := by
        rw [HZ.out.1, HT.out, List.take_of_length_le (by rw [← HZ.out.2.2.2.1]; exact Nat.le_refl _), HD.out.2.2, HB.out.2.2]
       have HF := Lib.hid (And.intro hfin hb)
       have e1 : ¬ 9223372036854775807 < T.size + 1 := by omega
       clear hfin hb hx hTs
       go_wp2_with fail
       go_ret
       exact ⟨by show Ending.returned (Value.string _) = Ending.returned (Value.string z); rw [HF.out.1], HF.out.2⟩
end Go.Proofs.YtkgddcemocfgfaaGreatDoor
end

