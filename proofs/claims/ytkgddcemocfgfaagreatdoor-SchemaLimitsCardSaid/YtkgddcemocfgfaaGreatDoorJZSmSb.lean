import Derived.Test.YtkgddcemocfgfaaGreatDoorJZBase
import Derived.Test.YtkgddcemocfgfaaGreatDoorJZSmFst
import Derived.Test.YtkgddcemocfgfaaGreatDoorJZSmGd
import Derived.Test.YtkgddcemocfgfaaGreatDoorJZWireMathE

section
/- The reference of schemas: Valid, Print. -/

namespace Go.Proofs.YtkgddcemocfgfaaGreatDoor
open Go.RowKit
set_option linter.unusedVariables false
set_option linter.unusedSimpArgs false
set_option maxRecDepth 100000

theorem box_new' (w : World) (x : Sm.Sc) (Ak : Option Addr) (ck : Nat) (Al : Option Addr) (cl : Nat) (Ar : Option Addr) (cr : Nat) :
  Blk (w.alloc (.cells #[.int .i64 x.version, .slice Ak x.kinds.length ck, .slice Al x.lives.length cl, .slice Ar x.rules.length cr] 27)) w.heap.size [.int .i64 x.version, .slice Ak x.kinds.length ck, .slice Al x.lives.length cl, .slice Ar x.rules.length cr] 27 ∧
  Below w.heap.size w (w.alloc (.cells #[.int .i64 x.version, .slice Ak x.kinds.length ck, .slice Al x.lives.length cl, .slice Ar x.rules.length cr] 27)) := ⟨Blk.new w _ _, (Below.refl _ _).alloc (Nat.le_refl _) _⟩

set_option maxHeartbeats 8000000 in
theorem smValid_any (x : Sm.Sc) (Ak : Option Addr) (ck : Nat) (Al : Option Addr) (cl : Nat) (Ar : Option Addr) (cr : Nat) (w : World) (hK : Rows KdC w w.heap.size Ak x.kinds) (hL : Rows LfC w w.heap.size Al x.lives) (hR : Rows RuC w w.heap.size Ar x.rules) (hF : Sm.FewS x) :
  Calls Tryz.prog 13 #[.agg #[.int .i64 x.version, .slice Ak x.kinds.length ck, .slice Al x.lives.length cl, .slice Ar x.rules.length cr]] w fun e w' => e = .returned (.int .i64 (Sm.validE x)) ∧ Below w.heap.size w w' := by
 have cSrc := fun (h : Sm.shaped x = true) W (hb : Below w.heap.size w W) => smSource_any x Ak ck Al cl Ar cr W ((hK.keep (Keep.of hb) fun _ _ k => KdC.keep k (Keep.of hb)).more hb.size fun _ _ k => KdC.more k hb.size) ((hL.keep (Keep.of hb) fun _ _ k => LfC.keep k (Keep.of hb)).more hb.size fun _ _ k => LfC.more k hb.size) ((hR.keep (Keep.of hb) fun _ _ k => k).more hb.size fun _ _ k => k) (Sm.shaped_small h)
 obtain ⟨z, hz⟩ : ∃ z, z = Sm.validE x := ⟨_, rfl⟩
 have hbad : Sm.shaped x = false → z = 1 := fun h => by rw [hz]; unfold Sm.validE; rw [if_pos h]
 have hgood : Sm.shaped x = true → z = if 8192 < (Sm.source x).size then 4 else 0 := fun h => by rw [hz]; unfold Sm.validE; rw [if_neg (by rw [h]; decide)]
 rw [← hz]
 obtain ⟨sh, hsh⟩ : ∃ s, s = Sm.shaped x := ⟨_, rfl⟩
 rw [← hsh] at hbad hgood cSrc
 obtain ⟨src, hsrc⟩ : ∃ s, s = Sm.source x := ⟨_, rfl⟩
 rw [← hsrc] at hgood cSrc
 obtain ⟨version, kinds, lives, rules⟩ := x
 dsimp only at hK hL hR cSrc ⊢
 have hsh2 : sh = (Sm.within version 0 1048576 && (decide (kinds.length ≤ 6 ∧ lives.length ≤ 6 ∧ rules.length ≤ 16) && (kinds.all Sm.isKind && (lives.all Sm.isLife && rules.all Sm.isRule)))) := hsh
 have cV := fun W => smWithin_any version 0 1048576 W
 obtain ⟨p, hp⟩ : ∃ p, p = Sm.within version 0 1048576 := ⟨_, rfl⟩
 obtain ⟨NK, hNK⟩ : ∃ n, n = kinds.length := ⟨_, rfl⟩
 obtain ⟨NL, hNL⟩ : ∃ n, n = lives.length := ⟨_, rfl⟩
 obtain ⟨NR, hNR⟩ : ∃ n, n = rules.length := ⟨_, rfl⟩
 rw [← hp, ← hNK, ← hNL, ← hNR] at hsh2
 simp only [← hp] at cV
 rw [← hNK, ← hNL, ← hNR] at cSrc ⊢
 have HZ := Lib.hid (And.intro hsh2 (And.intro hNK (And.intro hNL (And.intro hNR (And.intro hbad (And.intro hgood hF))))))
 have HR := Lib.hid (And.intro hK (And.intro hL hR))
 have CV := Lib.hid cV
 have CS := Lib.hid cSrc
 clear hz hbad hgood hsh hsrc hsh2 cV cSrc hp hNK hNL hNR hK hL hR hF
 go_enter Tryz.func13, Tryz.ntmps13
 go_wp2_with fail
 refine (CV.out _).mono ?_
 rintro e w1 ⟨rfl, rfl⟩
 clear CV
 cases p with
 | false =>
  obtain rfl : z = 1 := HZ.out.2.2.2.2.1 (by rw [HZ.out.1]; rfl)
  go_wp2_with fail
  go_ret
  exact ⟨rfl, (Below.refl _ _).alloc (Nat.le_refl _) _⟩
 | true =>
  by_cases h6 : NK ≤ 6 ∧ NL ≤ 6 ∧ NR ≤ 16
  ·have i1 : ¬ (NK : Int) > 6 := by omega
   have i2 : ¬ (NL : Int) > 6 := by omega
   have i3 : ¬ (NR : Int) > 16 := by omega
   have hs3 : sh = (kinds.all Sm.isKind && (lives.all Sm.isLife && rules.all Sm.isRule)) := by rw [HZ.out.1, decide_eq_true h6]; rfl
   have HS := Lib.hid hs3
   clear hs3 h6
   go_wp2_with fail
   obtain ⟨W, hW⟩ : ∃ W, W = w.alloc (.cells #[.int .i64 version, .slice Ak NK ck, .slice Al NL cl, .slice Ar NR cr] 27) := ⟨_, rfl⟩
   have hk : Blk W w.heap.size [.int .i64 version, .slice Ak NK ck, .slice Al NL cl, .slice Ar NR cr] 27 := by rw [hW]; exact Blk.new w _ _
   have hb : Below w.heap.size w W := by rw [hW]; exact (Below.refl _ _).alloc (Nat.le_refl _) _
   rw [← hW]
   have HB := Lib.hid (And.intro hk hb)
   clear hW hk hb i1 i2 i3
   go_loopw [3] (fun i wr => ∃ j : Nat, j ≤ NK ∧ i = .int .i64 j ∧ (kinds.take j).all Sm.isKind = true ∧ Blk wr w.heap.size [.int .i64 version, .slice Ak NK ck, .slice Al NL cl, .slice Ar NR cr] 27 ∧ Below w.heap.size w wr) (fun i _ => NK - (intOf i).toNat)
   case atStart => exact ⟨0, Nat.zero_le _, rfl, rfl, HB.out.1, HB.out.2⟩
   case round =>
    clear HB
    obtain ⟨j, hj, rfl, ha, hk, hb⟩ := hrel
    have HA := Lib.hid ha
    have cb := hk.cell 1 _ rfl
    clear ha
    by_cases hlt : j < NK
    ·have hlt2 : j < kinds.length := by rw [← HZ.out.2.1]; exact hlt
     have hg : kinds[j]? = some kinds[j] := List.getElem?_eq_getElem hlt2
     have hs := all_take_succ Sm.isKind kinds j _ hg
     have hf := all_false Sm.isKind kinds j _ hg
     have hmem := List.getElem_mem hlt2
     obtain ⟨el, hel⟩ : ∃ e, e = kinds[j] := ⟨_, rfl⟩
     rw [← hel] at hg hs hf hmem
     obtain ⟨ename, elo, ehi, efields⟩ := el
     obtain ⟨b, off, cs, hAd, hbl, ⟨Af, cf, rfl, hrf, -⟩, hcell⟩ := (HR.out.1.keep (Keep.of hb) fun _ _ k => KdC.keep k (Keep.of hb)).at (by decide) (fun _ _ => KdC.size) j _ hg
     dsimp only at hcell hrf
     have d0 : wr.cell? ⟨b, off + j * 4, none⟩ = some (.string ename) := hcell 0 _ rfl
     have d1 := hcell 1 _ rfl
     have d2 := hcell 2 _ rfl
     have d3 := hcell 3 _ rfl
     have cE := smIsKind_any ⟨ename, elo, ehi, efields⟩ Af cf wr (hrf.more hb.size fun _ _ k => FdC.more k hb.size) (HZ.out.2.2.2.2.2.2.kinds _ hmem).2 (HZ.out.2.2.2.2.2.2.kinds _ hmem).1
     dsimp only at cE
     obtain ⟨NF, hNF⟩ : ∃ n, n = efields.length := ⟨_, rfl⟩
     obtain ⟨q, hq⟩ : ∃ q, q = Sm.isKind ⟨ename, elo, ehi, efields⟩ := ⟨_, rfl⟩
     rw [← hNF] at cE d3
     rw [← hq] at cE
     have CE := Lib.hid cE
     have HE := Lib.hid hq
     rw [hAd] at cb
     clear cE hq hNF hrf hAd
     have HQ := Lib.hid (And.intro hs hf)
     have j1 : (j : Int) < NK := by omega
     have HK := Lib.hid (And.intro hk hb)
     clear hs hf hg hel hmem hk hb hlt2 hcell
     go_wp2_with fail
     refine CE.out.mono ?_
     rintro e w2 ⟨rfl, hb2⟩
     have HK2 := Lib.hid (And.intro (HK.out.1.below hb2 HK.out.1.lt) (HK.out.2.trans (hb2.mono HK.out.2.size)))
     clear hb2 CE cb d0 d1 d2 d3
     cases q with
     | true =>
      go_wp2_with fail
      go_roundw
      case rel => exact ⟨j + 1, by omega, by go_num, by rw [HQ.out.1, HA.out, ← HE.out]; rfl, HK2.out.1, HK2.out.2⟩
      case measure => simp [intOf]; omega
     | false =>
      obtain rfl : z = 1 := HZ.out.2.2.2.2.1 (by rw [HS.out, HQ.out.2 HE.out.symm]; simp)
      go_wp2_with fail
      go_ret
      exact ⟨rfl, HK2.out.2⟩
    ·obtain rfl : j = NK := by omega
     have hall : kinds.all Sm.isKind = true := by
      have h := HA.out
      rwa [List.take_of_length_le (by rw [← HZ.out.2.1]; exact Nat.le_refl _)] at h
     have HALL1 := Lib.hid hall
     have HB := Lib.hid (And.intro hk hb)
     clear hall hk hb HA hj hlt
     go_wp2_with fail
     clear cb
     obtain ⟨n1, hn1⟩ : ∃ n, n = j := ⟨_, rfl⟩
     rw [← hn1] at HB HZ CS ⊢
     clear hn1
     go_loopw [4] (fun i wr => ∃ j : Nat, j ≤ NL ∧ i = .int .i64 j ∧ (lives.take j).all Sm.isLife = true ∧ Blk wr w.heap.size [.int .i64 version, .slice Ak n1 ck, .slice Al NL cl, .slice Ar NR cr] 27 ∧ Below w.heap.size w wr) (fun i _ => NL - (intOf i).toNat)
     case atStart => exact ⟨0, Nat.zero_le _, rfl, rfl, HB.out.1, HB.out.2⟩
     case round =>
      clear HB
      obtain ⟨j, hj, rfl, ha, hk, hb⟩ := hrel
      have HA := Lib.hid ha
      have cb := hk.cell 2 _ rfl
      clear ha
      by_cases hlt : j < NL
      ·have hlt2 : j < lives.length := by rw [← HZ.out.2.2.1]; exact hlt
       have hg : lives[j]? = some lives[j] := List.getElem?_eq_getElem hlt2
       have hs := all_take_succ Sm.isLife lives j _ hg
       have hf := all_false Sm.isLife lives j _ hg
       have hmem := List.getElem_mem hlt2
       obtain ⟨el, hel⟩ : ∃ e, e = lives[j] := ⟨_, rfl⟩
       rw [← hel] at hg hs hf hmem
       obtain ⟨ename, est, emv⟩ := el
       obtain ⟨b, off, cs, hAd, hbl, ⟨As, cs', Am, cm, rfl, hr1, hr2, -⟩, hcell⟩ := (HR.out.2.1.keep (Keep.of hb) fun _ _ k => LfC.keep k (Keep.of hb)).at (by decide) (fun _ _ => LfC.size) j _ hg
       dsimp only at hcell hr1 hr2
       have d0 : wr.cell? ⟨b, off + j * 3, none⟩ = some (.string ename) := hcell 0 _ rfl
       have d1 := hcell 1 _ rfl
       have d2 := hcell 2 _ rfl
       have cE := smIsLife_any ⟨ename, est, emv⟩ As cs' Am cm wr (hr1.more hb.size) (hr2.more hb.size) (HZ.out.2.2.2.2.2.2.lives _ hmem).1 (HZ.out.2.2.2.2.2.2.lives _ hmem).2
       dsimp only at cE
       obtain ⟨NS, hNS⟩ : ∃ n, n = est.length := ⟨_, rfl⟩
       obtain ⟨NM, hNM⟩ : ∃ n, n = emv.length := ⟨_, rfl⟩
       obtain ⟨q, hq⟩ : ∃ q, q = Sm.isLife ⟨ename, est, emv⟩ := ⟨_, rfl⟩
       rw [← hNS, ← hNM] at cE
       rw [← hNS] at d1
       rw [← hNM] at d2
       rw [← hq] at cE
       have CE := Lib.hid cE
       have HE := Lib.hid hq
       rw [hAd] at cb
       clear cE hq hNS hNM hr1 hr2 hAd
       have HQ := Lib.hid (And.intro hs hf)
       have j1 : (j : Int) < NL := by omega
       have HK := Lib.hid (And.intro hk hb)
       clear hs hf hg hel hmem hk hb hlt2 hcell
       go_wp2_with fail
       refine CE.out.mono ?_
       rintro e w2 ⟨rfl, hb2⟩
       have HK2 := Lib.hid (And.intro (HK.out.1.below hb2 HK.out.1.lt) (HK.out.2.trans (hb2.mono HK.out.2.size)))
       clear hb2 CE cb d0 d1 d2
       cases q with
       | true =>
        go_wp2_with fail
        go_roundw
        case rel => exact ⟨j + 1, by omega, by go_num, by rw [HQ.out.1, HA.out, ← HE.out]; rfl, HK2.out.1, HK2.out.2⟩
        case measure => simp [intOf]; omega
       | false =>
        obtain rfl : z = 1 := HZ.out.2.2.2.2.1 (by rw [HS.out, HQ.out.2 HE.out.symm]; simp)
        go_wp2_with fail
        go_ret
        exact ⟨rfl, HK2.out.2⟩
      ·obtain rfl : j = NL := by omega
       have hall : lives.all Sm.isLife = true := by
        have h := HA.out
        rwa [List.take_of_length_le (by rw [← HZ.out.2.2.1]; exact Nat.le_refl _)] at h
       have HALL2 := Lib.hid hall
       have HB := Lib.hid (And.intro hk hb)
       clear hall hk hb HA hj hlt
       go_wp2_with fail
       clear cb
       obtain ⟨n2, hn2⟩ : ∃ n, n = j := ⟨_, rfl⟩
       rw [← hn2] at HB HZ CS ⊢
       clear hn2
       go_loopw [5] (fun i wr => ∃ j : Nat, j ≤ NR ∧ i = .int .i64 j ∧ (rules.take j).all Sm.isRule = true ∧ Blk wr w.heap.size [.int .i64 version, .slice Ak n1 ck, .slice Al n2 cl, .slice Ar NR cr] 27 ∧ Below w.heap.size w wr) (fun i _ => NR - (intOf i).toNat)
       case atStart => exact ⟨0, Nat.zero_le _, rfl, rfl, HB.out.1, HB.out.2⟩
       case round =>
        clear HB
        obtain ⟨j, hj, rfl, ha, hk, hb⟩ := hrel
        have HA := Lib.hid ha
        have cb := hk.cell 3 _ rfl
        clear ha
        by_cases hlt : j < NR
        ·have hlt2 : j < rules.length := by rw [← HZ.out.2.2.2.1]; exact hlt
         have hg : rules[j]? = some rules[j] := List.getElem?_eq_getElem hlt2
         have hs := all_take_succ Sm.isRule rules j _ hg
         have hf := all_false Sm.isRule rules j _ hg
         have hmem := List.getElem_mem hlt2
         obtain ⟨el, hel⟩ : ∃ e, e = rules[j] := ⟨_, rfl⟩
         rw [← hel] at hg hs hf hmem
         obtain ⟨ename, ekind, ea, eb, en⟩ := el
         obtain ⟨b, off, cs, hAd, hbl, hcs, hcell⟩ := (HR.out.2.2.keep (Keep.of hb) fun _ _ k => k).at (by decide) (fun _ _ => RuC.size) j _ hg
         obtain rfl := hcs
         dsimp only at hcell
         have d0 : wr.cell? ⟨b, off + j * 5, none⟩ = some (.string ename) := hcell 0 _ rfl
         have d1 := hcell 1 _ rfl
         have d2 := hcell 2 _ rfl
         have d3 := hcell 3 _ rfl
         have d4 := hcell 4 _ rfl
         have cE := smIsRule_any ⟨ename, ekind, ea, eb, en⟩ wr
         dsimp only at cE
         obtain ⟨q, hq⟩ : ∃ q, q = Sm.isRule ⟨ename, ekind, ea, eb, en⟩ := ⟨_, rfl⟩
         rw [← hq] at cE
         have CE := Lib.hid cE
         have HE := Lib.hid hq
         rw [hAd] at cb
         clear cE hq hAd
         have HQ := Lib.hid (And.intro hs hf)
         have j1 : (j : Int) < NR := by omega
         have HK := Lib.hid (And.intro hk hb)
         clear hs hf hg hel hmem hk hb hlt2 hcell
         go_wp2_with fail
         refine CE.out.mono ?_
         rintro e w2 ⟨rfl, hb2⟩
         have HK2 := Lib.hid (And.intro (HK.out.1.below hb2 HK.out.1.lt) (HK.out.2.trans (hb2.mono HK.out.2.size)))
         clear hb2 CE cb d0 d1 d2 d3 d4
         cases q with
         | true =>
          go_wp2_with fail
          go_roundw
          case rel => exact ⟨j + 1, by omega, by go_num, by rw [HQ.out.1, HA.out, ← HE.out]; rfl, HK2.out.1, HK2.out.2⟩
          case measure => simp [intOf]; omega
         | false =>
          obtain rfl : z = 1 := HZ.out.2.2.2.2.1 (by rw [HS.out, HQ.out.2 HE.out.symm]; simp)
          go_wp2_with fail
          go_ret
          exact ⟨rfl, HK2.out.2⟩
        ·obtain rfl : j = NR := by omega
         have hall : rules.all Sm.isRule = true := by
          have h := HA.out
          rwa [List.take_of_length_le (by rw [← HZ.out.2.2.2.1]; exact Nat.le_refl _)] at h
         have HALL3 := Lib.hid hall
         have hsh : sh = true := by rw [HS.out, HALL1.out, HALL2.out, HALL3.out]; rfl
         have c0 := hk.cell 0 _ rfl
         have c1 := hk.cell 1 _ rfl
         have c2 := hk.cell 2 _ rfl
         have HB := Lib.hid hb
         have cC := CS.out hsh wr hb
         have CC := Lib.hid cC
         have hzz := HZ.out.2.2.2.2.2.1 hsh
         have HZZ := Lib.hid hzz
         clear hall hk hb HA hj hlt hsh cC hzz CS
         go_wp2_with fail
         refine CC.out.mono ?_
         rintro e w2 ⟨rfl, hb2⟩
         have HB2 := Lib.hid (HB.out.trans (hb2.mono HB.out.size))
         clear hb2 CC c0 c1 c2 cb
         by_cases h8 : 8192 < src.size
         ·obtain rfl : z = 4 := by rw [HZZ.out, if_pos h8]
          have h9 : (src.size : Int) > 8192 := by omega
          go_wp2_with fail
          go_ret
          exact ⟨rfl, HB2.out⟩
         ·obtain rfl : z = 0 := by rw [HZZ.out, if_neg h8]
          have h9 : ¬ (src.size : Int) > 8192 := by omega
          go_wp2_with fail
          go_ret
          exact ⟨rfl, HB2.out⟩
  ·obtain rfl : z = 1 := HZ.out.2.2.2.2.1 (by rw [HZ.out.1, decide_eq_false h6]; rfl)
   by_cases h1 : NK ≤ 6
   ·have i1 : ¬ (NK : Int) > 6 := by omega
    by_cases h2 : NL ≤ 6
    ·have i2 : ¬ (NL : Int) > 6 := by omega
     have i3 : (NR : Int) > 16 := by omega
     clear h6 h1 h2
     go_wp2_with fail
     go_ret
     exact ⟨rfl, (Below.refl _ _).alloc (Nat.le_refl _) _⟩
    ·have i2 : (NL : Int) > 6 := by omega
     clear h6 h1 h2
     go_wp2_with fail
     go_ret
     exact ⟨rfl, (Below.refl _ _).alloc (Nat.le_refl _) _⟩
   ·have i1 : (NK : Int) > 6 := by omega
    clear h6 h1
    go_wp2_with fail
    go_ret
    exact ⟨rfl, (Below.refl _ _).alloc (Nat.le_refl _) _⟩

end Go.Proofs.YtkgddcemocfgfaaGreatDoor
end

section
/- The reference's Around and At: numbers made of numbers. -/


namespace Go.Proofs.YtkgddcemocfgfaaGreatDoor
open Go.RowKit
set_option linter.unusedVariables false
set_option maxRecDepth 100000

/-- A number from 0 to most - 1; 0, if there is none. -/
def around (n most : Int) : Int := if most < 1 then 0 else (if n < 0 then -(n + 1) else n).tmod most
theorem around_lt (n most : Int) (h : 1 ≤ most) : 0 ≤ around n most ∧ around n most < most := by
 unfold around
 rw [if_neg (by omega)]
 have hn : 0 ≤ (if n < 0 then -(n + 1) else n) := by split <;> omega
 rw [Int.tmod_eq_emod_of_nonneg hn]
 exact ⟨Int.emod_nonneg _ (by omega), Int.emod_lt_of_pos _ (by omega)⟩
theorem around_low (n most : Int) (h : most < 1) : around n most = 0 := by unfold around; rw [if_pos h]

set_option maxHeartbeats 2000000 in
theorem around_any (n most : Int) (w : World) (hn : M.I64 n) (hm : M.I64 most) :
  Calls Tryz.prog 29 #[.int .i64 n, .int .i64 most] w fun e w' => e = .returned (.int .i64 (around n most)) ∧ w' = w := by
 unfold M.I64 at hn hm
 obtain ⟨z, hz⟩ : ∃ z, z = around n most := ⟨_, rfl⟩
 have hlo : most < 1 → z = 0 := fun h => by rw [hz]; exact around_low n most h
 have hhi : ¬ most < 1 → n < 0 → (-(n + 1)).tmod most = z ∧ (-(n + 1)) % most = z := fun h h2 => by
  rw [hz]; unfold around; rw [if_neg h, if_pos h2]
  exact ⟨rfl, (Int.tmod_eq_emod_of_nonneg (by omega)).symm⟩
 have hhj : ¬ most < 1 → ¬ n < 0 → n.tmod most = z ∧ n % most = z := fun h h2 => by
  rw [hz]; unfold around; rw [if_neg h, if_neg h2]
  exact ⟨rfl, (Int.tmod_eq_emod_of_nonneg (by omega)).symm⟩
 have hzb : ¬ most < 1 → 0 ≤ z ∧ z < most := fun h => by rw [hz]; exact around_lt n most (by omega)
 rw [← hz]
 have HH := Lib.hid (And.intro hlo (And.intro hhi (And.intro hhj hzb)))
 clear hlo hhi hhj hzb hz
 by_cases h0 : n < 0
 ·have hw1 : wrap64 (n + 1) = n + 1 := by unfold wrap64; omega
  by_cases hm1 : most < 1
  ·obtain rfl := HH.out.1 hm1
   clear HH
   go_enter Tryz.func29, Tryz.ntmps29
   go_wp2_with fail
   go_ret
   exact ⟨rfl, rfl⟩
  ·obtain ⟨e1, e2⟩ := HH.out.2.1 hm1 h0
   obtain ⟨b1, b2⟩ := HH.out.2.2.2 hm1
   have hm0 : ¬ most = 0 := by omega
   clear HH
   go_enter Tryz.func29, Tryz.ntmps29
   go_wp2_with fail
   go_ret
   exact ⟨rfl, rfl⟩
 ·by_cases hm1 : most < 1
  ·obtain rfl := HH.out.1 hm1
   clear HH
   go_enter Tryz.func29, Tryz.ntmps29
   go_wp2_with fail
   go_ret
   exact ⟨rfl, rfl⟩
  ·obtain ⟨e1, e2⟩ := HH.out.2.2.1 hm1 h0
   obtain ⟨b1, b2⟩ := HH.out.2.2.2 hm1
   have hm0 : ¬ most = 0 := by omega
   clear HH
   go_enter Tryz.func29, Tryz.ntmps29
   go_wp2_with fail
   go_ret
   exact ⟨rfl, rfl⟩

end Go.Proofs.YtkgddcemocfgfaaGreatDoor
end

section
/- The reference's generator of schemas: Take; has, Copied. -/


namespace Go.Proofs.YtkgddcemocfgfaaGreatDoor
open Go.RowKit
set_option linter.unusedVariables false
set_option linter.unusedSimpArgs false
set_option maxRecDepth 100000

/-- All blocks but b lie as they lay. -/
structure But (b : Nat) (w w' : World) : Prop where
 os : w'.os = w.os
 tape : w'.tape = w.tape
 output : w'.output = w.output
 size : w.heap.size ≤ w'.heap.size
 block : ∀ k, k < w.heap.size → k ≠ b → w'.heap[k]? = w.heap[k]?
theorem But.refl (b : Nat) (w : World) : But b w w := ⟨rfl, rfl, rfl, Nat.le_refl _, fun _ _ _ => rfl⟩
theorem But.trans {b : Nat} {w v u : World} (h : But b w v) (k : But b v u) : But b w u :=
 ⟨k.os.trans h.os, k.tape.trans h.tape, k.output.trans h.output, Nat.le_trans h.size k.size, fun i hi hb => (k.block i (Nat.lt_of_lt_of_le hi h.size) hb).trans (h.block i hi hb)⟩
theorem But.of {b : Nat} {w w' : World} (h : Below w.heap.size w w') : But b w w' := ⟨h.os, h.tape, h.output, h.size, fun k hk _ => h.block k hk⟩
theorem But.cell {b : Nat} {w w' : World} (h : But b w w') {p : Addr} (hp : p.block < w.heap.size) (hb : p.block ≠ b) : w'.cell? p = w.cell? p := by unfold World.cell?; rw [h.block _ hp hb]
theorem But.below {b B : Nat} {w w' : World} (h : But b w w') (hB : B ≤ b) (hw : B ≤ w.heap.size) : Below B w w' := ⟨h.os, h.tape, h.output, h.size, fun k hk => h.block k (by omega) (by omega)⟩
theorem But.setCell {b : Nat} {w w' : World} (h : But b w w') (a : Addr) (v : Value) (ha : a.block = b) : But b w (w'.setCell a v) :=
 ⟨h.os, h.tape, h.output, by rw [size_setCell]; exact h.size, fun k hk hb => (heap_setCell_other w' a k v (by omega)).trans (h.block k hk hb)⟩
theorem Blk.but {b c : Nat} {vs : List Value} {t : TypeId} {w w' : World} (h : Blk w c vs t) (hb : But b w w') (hc : c ≠ b) : Blk w' c vs t := (hb.block c h.lt hc).trans h

/-- A generator's variable: its numbers, and how many were taken. -/
structure MkAt (mb : Nat) (A : Option Addr) (cap : Nat) (l : List Int) (i : Nat) (W : World) : Prop where
 blk : Blk W mb [.slice A l.length cap, .int .i64 i] 59
 rd : Rd W mb A (l.map iv)
 nums : ∀ n ∈ l, M.I64 n
 few : l.length ≤ 1000
theorem MkAt.below {mb : Nat} {A : Option Addr} {cap : Nat} {l : List Int} {i : Nat} {W W' : World} (h : MkAt mb A cap l i W) (hb : Below W.heap.size W W') : MkAt mb A cap l i W' :=
 ⟨h.blk.below hb h.blk.lt, h.rd.below (hb.mono (Nat.le_of_lt h.blk.lt)), h.nums, h.few⟩

end Go.Proofs.YtkgddcemocfgfaaGreatDoor
end

section
/- Schemas in memory, over whatever blocks; has, Copied. -/


namespace Go.Proofs.YtkgddcemocfgfaaGreatDoor
open Go.RowKit
set_option linter.unusedVariables false
set_option linter.unusedSimpArgs false
set_option maxRecDepth 100000

/-! ### Rows in blocks of S -/
def KeepS (S : Nat → Prop) (w w' : World) : Prop := ∀ p : Addr, S p.block → w'.cell? p = w.cell? p
def RdS (S : Nat → Prop) (w : World) (A : Option Addr) (xs : List Value) : Prop :=
 0 < xs.length → ∃ b off, A = some ⟨b, off, none⟩ ∧ S b ∧ ∀ (j : Nat) (u : Value), xs[j]? = some u → w.cell? ⟨b, off + j, none⟩ = some u
def RowsS {α : Type} (S : Nat → Prop) (C : World → α → List Value → Prop) (w : World) (A : Option Addr) (l : List α) : Prop :=
 ∃ cs : List (List Value), cs.length = l.length ∧ (∀ (i : Nat) (a : α) (c : List Value), l[i]? = some a → cs[i]? = some c → C w a c) ∧ RdS S w A cs.flatten
/-- The blocks of a world but one. -/
def NotB (b : Nat) (w : World) (k : Nat) : Prop := k < w.heap.size ∧ k ≠ b
theorem KeepS.but {b : Nat} {w w' : World} (h : But b w w') : KeepS (NotB b w) w w' := fun p hp => h.cell hp.1 hp.2
section
variable {α : Type} {S S' : Nat → Prop} {C C' : World → α → List Value → Prop} {w w' : World} {A : Option Addr} {xs : List Value} {l : List α}
theorem RdS.keep (h : RdS S w A xs) (hk : KeepS S w w') : RdS S w' A xs := fun hn => by
 obtain ⟨b, off, h1, h2, h3⟩ := h hn
 exact ⟨b, off, h1, h2, fun j u hu => (hk _ h2).trans (h3 j u hu)⟩
theorem RdS.mono (h : RdS S w A xs) (hS : ∀ k, S k → S' k) : RdS S' w A xs := fun hn => by
 obtain ⟨b, off, h1, h2, h3⟩ := h hn
 exact ⟨b, off, h1, hS _ h2, h3⟩
theorem RdS.rd {B : Nat} (h : RdS S w A xs) (hS : ∀ k, S k → k < B) : Rd w B A xs := fun hn => by
 obtain ⟨b, off, h1, h2, h3⟩ := h hn
 exact ⟨b, off, h1, hS _ h2, h3⟩
theorem RdS.nil : RdS S w A [] := fun h => absurd h (by simp)
theorem RowsS.keep (h : RowsS S C w A l) (hk : KeepS S w w') (hC : ∀ a c, C w a c → C w' a c) : RowsS S C w' A l := by
 obtain ⟨cs, h1, h2, h3⟩ := h
 exact ⟨cs, h1, fun i a c ha hc => hC a c (h2 i a c ha hc), h3.keep hk⟩
theorem RowsS.mono (h : RowsS S C w A l) (hS : ∀ k, S k → S' k) (hC : ∀ a c, C w a c → C' w a c) : RowsS S' C' w A l := by
 obtain ⟨cs, h1, h2, h3⟩ := h
 exact ⟨cs, h1, fun i a c ha hc => hC a c (h2 i a c ha hc), h3.mono hS⟩
theorem RowsS.rows {B : Nat} {D : World → Nat → α → List Value → Prop} (h : RowsS S C w A l) (hS : ∀ k, S k → k < B) (hC : ∀ a c, C w a c → D w B a c) : Rows D w B A l := by
 obtain ⟨cs, h1, h2, h3⟩ := h
 exact ⟨cs, h1, fun i a c ha hc => hC a c (h2 i a c ha hc), h3.rd hS⟩
theorem RowsS.nil : RowsS S C w A ([] : List α) := ⟨[], rfl, fun i a c h => by simp at h, RdS.nil⟩
end
def FdS (S : Nat → Prop) (w : World) (f : Sm.Fd) (c : List Value) : Prop := ∃ Aw cw Ag cg, c = [.string f.name, .string f.of, .string f.up, .int .i64 f.kind, .int .i64 f.lo, .int .i64 f.hi, .slice Aw f.words.length cw, .slice Ag f.weights.length cg] ∧
 RdS S w Aw (f.words.map sv) ∧ RdS S w Ag (f.weights.map iv) ∧ f.words.length ≤ cw ∧ cw ≤ maxLen ∧ f.weights.length ≤ cg ∧ cg ≤ maxLen
def KdS (S : Nat → Prop) (w : World) (k : Sm.Kd) (c : List Value) : Prop := ∃ A cf, c = [.string k.name, .int .i64 k.lo, .int .i64 k.hi, .slice A k.fields.length cf] ∧ RowsS S (FdS S) w A k.fields ∧ k.fields.length ≤ cf ∧ cf ≤ maxLen
def LfS (S : Nat → Prop) (w : World) (x : Sm.Lf) (c : List Value) : Prop := ∃ As cs Am cm, c = [.string x.name, .slice As x.states.length cs, .slice Am x.moves.length cm] ∧ RdS S w As (x.states.map sv) ∧ RdS S w Am (Sm.moveC x.moves) ∧ x.states.length ≤ cs ∧ cs ≤ maxLen ∧ x.moves.length ≤ cm ∧ cm ≤ maxLen
section
variable {S S' : Nat → Prop} {w w' : World} {c : List Value}
theorem FdS.keep {f : Sm.Fd} (h : FdS S w f c) (hk : KeepS S w w') : FdS S w' f c := by
 obtain ⟨Aw, cw, Ag, cg, h1, h2, h3, h4⟩ := h
 exact ⟨Aw, cw, Ag, cg, h1, h2.keep hk, h3.keep hk, h4⟩
theorem FdS.mono {f : Sm.Fd} (h : FdS S w f c) (hS : ∀ k, S k → S' k) : FdS S' w f c := by
 obtain ⟨Aw, cw, Ag, cg, h1, h2, h3, h4⟩ := h
 exact ⟨Aw, cw, Ag, cg, h1, h2.mono hS, h3.mono hS, h4⟩
theorem FdS.fd {B : Nat} {f : Sm.Fd} (h : FdS S w f c) (hS : ∀ k, S k → k < B) : FdC w B f c := by
 obtain ⟨Aw, cw, Ag, cg, h1, h2, h3, h4⟩ := h
 exact ⟨Aw, cw, Ag, cg, h1, h2.rd hS, h3.rd hS, h4⟩
theorem KdS.keep {k : Sm.Kd} (h : KdS S w k c) (hk : KeepS S w w') : KdS S w' k c := by
 obtain ⟨A, cf, h1, h2, h3⟩ := h
 exact ⟨A, cf, h1, h2.keep hk fun _ _ q => FdS.keep q hk, h3⟩
theorem KdS.mono {k : Sm.Kd} (h : KdS S w k c) (hS : ∀ k, S k → S' k) : KdS S' w k c := by
 obtain ⟨A, cf, h1, h2, h3⟩ := h
 exact ⟨A, cf, h1, h2.mono hS fun _ _ q => FdS.mono q hS, h3⟩
theorem KdS.kd {B : Nat} {k : Sm.Kd} (h : KdS S w k c) (hS : ∀ k, S k → k < B) : KdC w B k c := by
 obtain ⟨A, cf, h1, h2, h3⟩ := h
 exact ⟨A, cf, h1, h2.rows hS fun _ _ q => FdS.fd q hS, h3⟩
theorem LfS.keep {x : Sm.Lf} (h : LfS S w x c) (hk : KeepS S w w') : LfS S w' x c := by
 obtain ⟨As, cs, Am, cm, h1, h2, h3, h4⟩ := h
 exact ⟨As, cs, Am, cm, h1, h2.keep hk, h3.keep hk, h4⟩
theorem LfS.mono {x : Sm.Lf} (h : LfS S w x c) (hS : ∀ k, S k → S' k) : LfS S' w x c := by
 obtain ⟨As, cs, Am, cm, h1, h2, h3, h4⟩ := h
 exact ⟨As, cs, Am, cm, h1, h2.mono hS, h3.mono hS, h4⟩
theorem LfS.lf {B : Nat} {x : Sm.Lf} (h : LfS S w x c) (hS : ∀ k, S k → k < B) : LfC w B x c := by
 obtain ⟨As, cs, Am, cm, h1, h2, h3, h4⟩ := h
 exact ⟨As, cs, Am, cm, h1, h2.rd hS, h3.rd hS, h4⟩
end

namespace Sm
def has (l : List Fd) (nm : ByteArray) : Int := first (fun f => f.name.toList == nm.toList) l
end Sm

end Go.Proofs.YtkgddcemocfgfaaGreatDoor
end

