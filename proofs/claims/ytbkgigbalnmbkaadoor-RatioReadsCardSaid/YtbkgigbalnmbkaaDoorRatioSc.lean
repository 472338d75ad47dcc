/- The contract of dioramaref04.Parse. -/
import Derived.Test.YtbkgigbalnmbkaaDoorRatioSb
import Derived.Test.YtbkgigbalnmbkaaDoorRatioRe
namespace Go.Proofs.YtbkgigbalnmbkaaDoor
open Go.RowKit
set_option linter.unusedVariables false
set_option maxRecDepth 100000

theorem sgn_minus {l : List UInt8} (h : 0 < (Rt.bef l).length) (h2 : (Rt.bef l).getD 0 0 = 45) : Rt.sgnOf l = (-1, (Rt.bef l).drop 1) := by
  unfold Rt.sgnOf
  generalize Rt.bef l = m at *
  cases m with
  | nil => simp at h
  | cons c r =>
    have : c = 45 := by simpa using h2
    subst this; rfl
theorem sgn_plain {l : List UInt8} (h : (Rt.bef l).length = 0 ∨ (Rt.bef l).getD 0 0 ≠ 45) : Rt.sgnOf l = (1, Rt.bef l) := by
  unfold Rt.sgnOf
  generalize Rt.bef l = m at *
  cases m with
  | nil => rfl
  | cons c r =>
    have hc : c ≠ 45 := by simpa using h
    split
    · rename_i heq
      injection heq with h1 h2
      exact absurd h1 hc
    · rfl
theorem nres_bounds (l : List UInt8) : 0 ≤ (nres l).1 ∧ (nres l).1 < 10000000000 := by
  unfold nres Rt.numb
  by_cases h : l ≠ [] ∧ l.length ≤ 10 ∧ ∀ c ∈ l, Rt.Dig c
  · rw [if_pos h]
    have h1 := Rt.val10_lt _ h.2.2
    have h3 : 10 ^ l.length ≤ 10 ^ 10 := Nat.pow_le_pow_right (by decide) h.2.1
    simp only
    omega
  · rw [if_neg h]; simp
theorem prs_res (l : List UInt8) : Rt.prs l = if ((nres (Rt.sgnOf l).2).2 = true ∧ (nres (Rt.sec l)).2 = true) ∧ (nres (Rt.sec l)).1 ≠ 0 ∧ Rt.text ((Rt.sgnOf l).1 * (nres (Rt.sgnOf l).2).1) (nres (Rt.sec l)).1 = l then ((Rt.sgnOf l).1 * (nres (Rt.sgnOf l).2).1, (nres (Rt.sec l)).1, 0) else (0, 0, 2) := by
  rw [← Rt.prsR_eq]
  unfold Rt.prsR nres
  cases Rt.numb (Rt.sgnOf l).2 <;> cases Rt.numb (Rt.sec l) <;> simp

set_option maxHeartbeats 8000000 in
theorem refParse_any (s : ByteArray) (w : World) (hs : s.size ≤ 140737488300000) : Calls Tryd.prog 22 #[.string s] w (Says (T3 (Rt.prs (sb s))) w) := by
  obtain ⟨t, ht⟩ : ∃ t, t = Rt.prs (sb s) := ⟨_, rfl⟩
  rw [← ht]
  have HT := Lib.hid ht
  clear ht
  obtain ⟨first, hfirst⟩ : ∃ f, f = bs (Rt.bef (sb s)) := ⟨_, rfl⟩
  obtain ⟨second, hsecond⟩ : ∃ f, f = bs (Rt.sec (sb s)) := ⟨_, rfl⟩
  have HF := Lib.hid (And.intro hfirst hsecond)
  clear hfirst hsecond
  have K0 := Lib.hid (Blk.new w (Rc 0 0) 23)
  have B0 := Lib.hid ((Below.refl w.heap.size w).alloc (Nat.le_refl _) (.cells (Rc 0 0).toArray 23))
  go_enter Tryd.func22, Tryd.ntmps22
  go_upto_region 3 with fail
  obtain ⟨W, hW⟩ : ∃ W, W = w.alloc (.cells (Rc 0 0).toArray 23) := ⟨_, rfl⟩
  rw [show w.alloc (.cells #[.int .i64 0, .int .i64 0] 23) = W from hW.symm]
  rw [← hW] at K0 B0
  clear hW
  go_cut [6] from 6 to 12 (fun i wx => i = .int .i64 0 ∧ W = wx)
  case first =>
    go_wp2_with fail
    go_meet
    case rel => exact ⟨rfl, rfl⟩
  case rest =>
    obtain ⟨rfl, rfl⟩ := hcut
    go_step
    go_cut [4, 5] from 6 to 30 (fun f g wx => f = .string first ∧ g = .string second ∧ W = wx)
    case first =>
      go_wp2_with fail
      go_loopw [4, 5, 6] (fun f g i wr => ∃ k : Nat, k ≤ s.size ∧ i = .int .i64 k ∧ f = .string s ∧ g = .string ⟨#[49]⟩ ∧ (∀ j, j < k → (sb s).getD j 0 ≠ 47) ∧ W = wr) (fun _ _ i _ => s.size - (intOf i).toNat)
      case atStart => exact ⟨0, by omega, rfl, rfl, rfl, fun j hj => absurd hj (by omega), rfl⟩
      case round =>
        obtain ⟨k, hk, rfl, rfl, rfl, hno, rfl⟩ := hrel
        have hsc := Rt.scan_cases (sb s) k (by rw [sb_len]; exact hk) hno
        by_cases hlt : k < s.size
        · have i1 : (k : Int) < s.size := by omega
          have i0 : (0 : Int) ≤ k := by omega
          have hat := sb_at s k hlt
          by_cases hc : ((s[k]'hlt).toNat : Int) = 47
          · have e47 : (sb s).getD k 0 = 47 := by rw [hat]; apply UInt8.toNat.inj; show _ = 47; omega
            have h2 := hsc.1 (by rw [sb_len]; exact hlt) e47
            have e1 : s.extract 0 k = first := by rw [HF.out.1, h2.1, extract_take]
            have e2 : s.extract (k + 1) s.size = second := by rw [HF.out.2, h2.2, extract_drop]
            have E := Lib.hid (And.intro e1 e2)
            clear e47 h2 e1 e2 hat hsc hno
            go_wp2_with fail
            go_meet
            case rel => exact ⟨by rw [← E.out.1]; first | rfl | skip, by rw [← E.out.2]; first | rfl | skip, rfl⟩
          · have n47 : (sb s).getD k 0 ≠ 47 := by rw [hat]; intro h; apply hc; rw [h]; rfl
            have hno2 : ∀ j, j < k + 1 → (sb s).getD j 0 ≠ 47 := fun j hj => by
              by_cases h : j < k
              · exact hno j h
              · rw [show j = k by omega]; exact n47
            have H2 := Lib.hid hno2
            clear hno2 n47 hat hsc hno
            go_wp2_with fail
            refine ⟨⟨k + 1, by omega, by simp, rfl, rfl, H2.out, by trivial⟩, ?_⟩
            simp [intOf]; omega
        · have i1 : ¬ (k : Int) < s.size := by omega
          have h2 := hsc.2 (by rw [sb_len]; omega)
          have e1 : s = first := by rw [HF.out.1, h2.1, bs_sb]
          have e2 : (⟨#[49]⟩ : ByteArray) = second := by rw [HF.out.2, h2.2]; rfl
          have E := Lib.hid (And.intro e1 e2)
          clear e1 e2 h2 hsc hno
          go_wp2_with fail
          go_meet
          case rel => exact ⟨by rw [← E.out.1], by rw [← E.out.2], rfl⟩
    case rest =>
      obtain ⟨rfl, rfl, rfl⟩ := hcut
      obtain ⟨num, hnum⟩ : ∃ f, f = bs (Rt.sgnOf (sb s)).2 := ⟨_, rfl⟩
      obtain ⟨sg, hsg⟩ : ∃ f, f = (Rt.sgnOf (sb s)).1 := ⟨_, rfl⟩
      have hsf : sb first = Rt.bef (sb s) := by rw [HF.out.1, sb_bs]
      have hsl : (Rt.bef (sb s)).length = first.size := by rw [← hsf, sb_len]
      have hmi := sgn_minus (l := sb s)
      have hpl := sgn_plain (l := sb s)
      rw [← hsf] at hmi hpl
      have HN := Lib.hid (And.intro hnum hsg)
      have HM := Lib.hid hmi
      have HP := Lib.hid hpl
      clear hnum hsg hsf hsl hmi hpl
      have hfs : first.size ≤ 140737488300000 := by
        have := bef_len (sb s)
        rw [HF.out.1, size_bs]; rw [sb_len] at this; omega
      have HFS := Lib.hid hfs
      go_upto_if 33 with fail
      go_cut [4, 7] from 31 to 38 (fun f i wx => f = .string num ∧ i = .int .i64 sg ∧ W = wx)
      case first =>
        by_cases h0 : first.size = 0
        · have e := HP.out (.inl (by rw [sb_len]; exact h0))
          have e1 : first = num := by rw [HN.out.1, e, bs_sb]
          have e2 : (1 : Int) = sg := by rw [HN.out.2, e]
          have E := Lib.hid (And.intro e1 e2)
          have h0' : ¬ ((0 : Int) < first.size) := by omega
          clear e e1 e2 hfs h0
          go_wp2_with fail
          go_meet
          case rel => exact ⟨by rw [← E.out.1], by rw [← E.out.2], rfl⟩
        · have h0' : (0 : Int) < first.size := by omega
          have h1 : 0 < first.size := by omega
          have hat := sb_at first 0 h1
          by_cases hc : ((first[0]'h1).toNat : Int) = 45
          · have e45 : (sb first).getD 0 0 = 45 := by rw [hat]; apply UInt8.toNat.inj; show _ = 45; omega
            have e := HM.out (by rw [sb_len]; exact h1) e45
            have e1 : first.extract 1 first.size = num := by rw [HN.out.1, e, extract_drop]
            have e2 : (-1 : Int) = sg := by rw [HN.out.2, e]
            have E := Lib.hid (And.intro e1 e2)
            clear e e1 e2 e45 hat
            go_wp2_with fail
            go_meet
            case rel => exact ⟨by rw [← E.out.1], by rw [← E.out.2], rfl⟩
          · have n45 : (sb first).getD 0 0 ≠ 45 := by rw [hat]; intro h; apply hc; rw [h]; rfl
            have e := HP.out (.inr n45)
            have e1 : first = num := by rw [HN.out.1, e, bs_sb]
            have e2 : (1 : Int) = sg := by rw [HN.out.2, e]
            have E := Lib.hid (And.intro e1 e2)
            clear e e1 e2 n45 hat
            go_wp2_with fail
            go_meet
            case rel => exact ⟨by rw [← E.out.1], by rw [← E.out.2], rfl⟩
      case rest =>
        obtain ⟨rfl, rfl, rfl⟩ := hcut
        have hns : num.size ≤ 140737488351232 := by
          by_cases h0 : first.size = 0 ∨ (sb first).getD 0 0 ≠ 45
          · rw [HN.out.1, size_bs, HP.out (by rw [sb_len]; exact h0)]
            show (sb first).length ≤ _
            rw [sb_len]; omega
          · rw [HN.out.1, size_bs, HM.out (by rw [sb_len]; omega) (by
              by_cases h : (sb first).getD 0 0 = 45
              · exact h
              · exact absurd (.inr h) h0)]
            show ((sb first).drop 1).length ≤ _
            rw [List.length_drop, sb_len]; omega
        have hss : second.size ≤ 140737488351232 := by
          have := sec_len (sb s)
          rw [HF.out.2, size_bs]; rw [sb_len] at this; omega
        have hsgn : sg = 1 ∨ sg = -1 := by
          rw [HN.out.2]; unfold Rt.sgnOf; split <;> simp
        have n1 := fun W => number_any num W hns
        have n2 := fun W => number_any second W hss
        have hb1 := nres_bounds (sb num)
        have hb2 := nres_bounds (sb second)
        have hp := prs_res (sb s)
        rw [← HT.out, ← HN.out.2, show (Rt.sgnOf (sb s)).2 = sb num by rw [HN.out.1, sb_bs], show Rt.sec (sb s) = sb second by rw [HF.out.2, sb_bs]] at hp
        generalize (nres (sb num)).1 = p at *
        generalize (nres (sb num)).2 = x at *
        generalize (nres (sb second)).1 = q at *
        generalize (nres (sb second)).2 = y at *
        have hin : In64 (sg * p) ∧ In64 q := by
          rcases hsgn with h | h <;> rw [h] <;> unfold In64 <;> omega
        obtain ⟨w1, w2⟩ := in_both hin.1
        obtain ⟨z, hz⟩ : ∃ z, z = sg * p := ⟨_, rfl⟩
        rw [← hz] at hin w1 w2 hp
        rw [hz] at w1 w2
        have tx := fun W => refText_any z q W hin.1 hin.2
        obtain ⟨u, hu⟩ : ∃ u, u = bs (Rt.text z q) := ⟨_, rfl⟩
        have hbeq := bs_beq (Rt.text z q) s
        rw [← hu] at hbeq tx
        rw [← hz] at w1 w2
        have N1 := Lib.hid n1
        have N2 := Lib.hid n2
        have TX := Lib.hid tx
        have HW := Lib.hid (And.intro hz (And.intro w1 w2))
        have HBQ := Lib.hid hbeq
        have HPR := Lib.hid hp
        clear n1 n2 tx hz w1 w2 hbeq hp hu hin hb1 hb2 hsgn hns hss hfs HFS HM HP HN HF HT hs
        obtain ⟨⟨c0, c1⟩, f0, f1⟩ := Rc_facts K0.out
        have hlt := K0.out.lt
        go_wp2_with fail
        refine (N1.out _).mono ?_
        rintro e w' ⟨rfl, rfl⟩
        go_wp2_with fail
        refine (N2.out _).mono ?_
        rintro e w' ⟨rfl, rfl⟩
        have r1 : wrap64 (sg * p) = z := by rw [← HW.out.1]; exact HW.out.2.1
        have r2 : IntKind.i64.wrap (sg * p) = z := by rw [← HW.out.1]; exact HW.out.2.2
        clear HW
        have bad : ∀ h : ¬ (x = true ∧ y = true ∧ q ≠ 0 ∧ Rt.text z q = sb s), t = (0, 0, 2) := fun h => by
          rw [HPR.out, if_neg (fun k => h ⟨k.1.1, k.1.2, k.2⟩)]
        have good : x = true ∧ y = true ∧ q ≠ 0 ∧ Rt.text z q = sb s → t = (z, q, 0) := fun h => by
          rw [HPR.out, if_pos ⟨⟨h.1, h.2.1⟩, h.2.2⟩]
        have BAD := Lib.hid bad
        have GOOD := Lib.hid good
        clear bad good HPR
        cases x
        · have ET := Lib.hid (BAD.out (fun h => by simp at h))
          go_wp2_with fail
          all_goals exact rat_end rfl rfl rfl ((Rc_set K0.out 0 0).alloc _) ((below_set2 (c := w.heap.size) B0.out (Nat.le_refl _) (.int .i64 0) (.int .i64 0)).alloc (by rw [size_setCell, size_setCell]; exact B0.out.size) _) ET.out
        · cases y
          · have ET := Lib.hid (BAD.out (fun h => by simp at h))
            go_wp2_with fail
            all_goals exact rat_end rfl rfl rfl ((Rc_set K0.out 0 0).alloc _) ((below_set2 (c := w.heap.size) B0.out (Nat.le_refl _) (.int .i64 0) (.int .i64 0)).alloc (by rw [size_setCell, size_setCell]; exact B0.out.size) _) ET.out
          · by_cases hq : q = 0
            · have ET := Lib.hid (BAD.out (fun h => h.2.2.1 hq))
              subst hq
              go_wp2_with fail
              all_goals exact rat_end rfl rfl rfl ((Rc_set K0.out 0 0).alloc _) ((below_set2 (c := w.heap.size) B0.out (Nat.le_refl _) (.int .i64 0) (.int .i64 0)).alloc (by rw [size_setCell, size_setCell]; exact B0.out.size) _) ET.out
            · by_cases hE : Rt.text z q = sb s
              · have ET := Lib.hid (GOOD.out ⟨rfl, rfl, hq, hE⟩)
                have hbeq := HBQ.out
                rw [decide_eq_true hE] at hbeq
                clear hE
                go_wp2_with fail
                refine (TX.out _).mono ?_
                rintro e w5 ⟨rfl, hb⟩
                have n0 := (Blk.new w' (Rc z q) 23).below hb (by simp)
                have n1 := (K0.out.alloc _).below hb (Nat.lt_of_lt_of_le K0.out.lt (by simp))
                have nB := (B0.out.alloc B0.out.size (.cells (Rc z q).toArray 23)).trans (hb.mono (by have := B0.out.size; simp; omega))
                clear c0 c1 f0 f1 hb
                obtain ⟨⟨c0, c1⟩, f0, f1⟩ := Rc_facts n1
                obtain ⟨⟨d0, d1⟩, -, -⟩ := Rc_facts n0
                have M := Lib.hid (And.intro n1 nB)
                clear n0 n1 nB
                go_wp2_with fail
                exact rat_end rfl rfl rfl (Rc_set M.out.1 z q) (below_set2 (c := w.heap.size) M.out.2 (Nat.le_refl _) (.int .i64 z) (.int .i64 q)) ET.out
              · have ET := Lib.hid (BAD.out (fun h => hE h.2.2.2))
                have hbeq := HBQ.out
                rw [decide_eq_false hE] at hbeq
                clear hE
                go_wp2_with fail
                refine (TX.out _).mono ?_
                rintro e w5 ⟨rfl, hb⟩
                have n1 := (K0.out.alloc _).below hb (Nat.lt_of_lt_of_le K0.out.lt (by simp))
                have nB := (B0.out.alloc B0.out.size (.cells (Rc z q).toArray 23)).trans (hb.mono (by have := B0.out.size; simp; omega))
                clear c0 c1 f0 f1 hb
                obtain ⟨⟨c0, c1⟩, f0, f1⟩ := Rc_facts n1
                have M := Lib.hid (And.intro n1 nB)
                clear n1 nB
                go_wp2_with fail
                exact rat_end rfl rfl rfl (Rc_set M.out.1 0 0) (below_set2 (c := w.heap.size) M.out.2 (Nat.le_refl _) (.int .i64 0) (.int .i64 0)) ET.out
end Go.Proofs.YtbkgigbalnmbkaaDoor
