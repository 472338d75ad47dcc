/- The contract of calendar.Moments: the walk. -/
import Derived.Test.YtkenfgifhebnpaaDoorCalPn
import Derived.Laws.OwnMore
import Derived.Maps.AppendAt
namespace Go.Proofs.YtkenfgifhebnpaaDoor
open Go.RowKit
set_option linter.unusedVariables false
set_option maxRecDepth 100000

set_option maxHeartbeats 8000000 in
theorem calMoments_any (d u o s f t : Int) (w : World) (hd : M.I64 d) (hu : M.I64 u) (ho : M.I64 o) (hs : M.I64 s) (hf : M.I64 f) (ht : M.I64 t) :
    Calls Tryd.prog 29 #[.int .i64 d, .int .i64 u, .agg #[.int .i64 o, .int .i64 s, .int .i64 f, .int .i64 t]] w (RowE (momL d u o s f t) (momE d u o s f t) w) := by
  have cP := fun W => valid_any o s f t W
  obtain ⟨RL, hL⟩ : ∃ r, r = momL d u o s f t := ⟨_, rfl⟩
  obtain ⟨RE, hE⟩ : ∃ r, r = momE d u o s f t := ⟨_, rfl⟩
  rw [← hL, ← hE]
  unfold momL at hL
  rw [← hE] at hL
  unfold momE at hE
  have hk0 : Blk (w.alloc (.cells #[.int .i64 o, .int .i64 s, .int .i64 f, .int .i64 t] 39)) w.heap.size (zc o s f t) 39 := Blk.new w (zc o s f t) _
  have hb0 : Below w.heap.size w (w.alloc (.cells #[.int .i64 o, .int .i64 s, .int .i64 f, .int .i64 t] 39)) := (Below.refl _ _).alloc (Nat.le_refl _) _
  have hsz : w.heap.size ≤ (w.alloc (.cells #[.int .i64 o, .int .i64 s, .int .i64 f, .int .i64 t] 39)).heap.size := by simp
  have K0 := Lib.hid (And.intro hk0 (And.intro hb0 hsz))
  clear hk0 hb0 hsz
  by_cases hp : proper o s f t
  · rw [decide_eq_true hp] at cP
    rw [if_neg (by simp [hp])] at hE
    have CP := Lib.hid cP
    clear cP
    have ck := fun W => calKnown_any d W
    by_cases hk : Cal.known d
    · rw [decide_eq_true hk] at ck
      have CK := Lib.hid ck
      clear ck
      by_cases hu2 : u < 0 ∨ (¬ u < 0 ∧ 1440 ≤ u)
      · rw [if_pos (by omega)] at hE
        rw [if_neg (by omega)] at hL
        subst hE hL
        clear hp hk hd hu ho hs hf ht
        rcases hu2 with h | ⟨h1, h⟩
        all_goals
          go_enter Tryd.func29, Tryd.ntmps29
          go_wp2_with fail
          refine (CP.out _).mono ?_
          rintro e W ⟨rfl, hb⟩
          have HB := Lib.hid (K0.out.2.1.trans (hb.mono K0.out.2.2))
          clear hb
          go_wp2_with fail
          refine (CK.out _).mono ?_
          rintro e w' ⟨rfl, hw'⟩
          obtain rfl := hw'.symm
          go_wp2_with fail
          refine bodyPost_ret (results_tmp2 rfl _ _ _) rfl ⟨_, rfl, World.ownsRow_nil _ _ _ _, HB.out⟩
      · rw [if_neg (by simp [hk]; omega)] at hE
        rw [if_pos hE] at hL
        have u1 : ¬ u < 0 := by omega
        have u2 : ¬ 1440 ≤ u := by omega
        have hk2 := hk
        replace hL := hL.trans (momUp_two hp)
        have hp2 := hp
        unfold proper at hp2
        unfold Cal.known at hk2
        obtain ⟨wi, hwi⟩ : ∃ x, x = 1440 * d + u - o := ⟨_, rfl⟩
        have hw1 : wrap64 (wrap64 (wrap64 (d * 1440) + u) - o) = wi := by rw [hwi]; unfold wrap64; omega
        obtain ⟨wj, hwj⟩ : ∃ x, x = wi - s := ⟨_, rfl⟩
        have hw2 : wrap64 (wrap64 (wrap64 (wrap64 (d * 1440) + u) - o) - s) = wj := by rw [hw1, hwj]; unfold wrap64; omega
        rw [← hwi, ← hwj] at hL
        have hcl := cands_len wj wi
        have hin : ∀ x ∈ cands wj wi, M.I64 x := by
          intro x hx
          have h1 : x = wj ∨ x = wi := by
            unfold cands at hx
            split at hx
            · exact .inl (List.mem_singleton.1 hx)
            · simpa using hx
          unfold M.I64
          rcases h1 with rfl | rfl <;> omega
        have cL := fun (x : Int) (hx : x ∈ cands wj wi) (W : World) => calLocal_any x o s f t W (hin x hx) ho hs hf ht
        have cC := fun (g : Nat) (W : World) (a b : Int) (ha : a = wj) (hb : b = wi) (h : Blk W g [.int .i64 a, .int .i64 b] 3) => (show Calls Tryd.prog 54 #[.slice (some ⟨g, 0, none⟩) 2 2] W fun e w' => e = .returned (.slice (some ⟨g, 0, none⟩) (cands wj wi).length 2) ∧ Below g W w' ∧ ∀ k x, (cands wj wi)[k]? = some x → w'.cell? ⟨g, k, none⟩ = some (.int .i64 x) by
          rw [ha, hb] at h; exact compactC wj wi g W h)
        obtain ⟨C, hC⟩ : ∃ C, C = cands wj wi := ⟨_, rfl⟩
        simp only [← hC] at hL hcl cL cC
        obtain ⟨N, hN⟩ : ∃ N, N = C.length := ⟨_, rfl⟩
        simp only [← hN] at hL hcl cC
        have HW := Lib.hid (And.intro hw1 hw2)
        have CL := Lib.hid cL
        have CC := Lib.hid cC
        have HL := Lib.hid (And.intro hL hN)
        have HN := Lib.hid hcl
        clear hw1 hw2 cL cC hL hp hk hk2 hu2 hwi hwj hcl hin hC hN hp2 hd hu ho hs hf ht
        subst hE
        go_enter Tryd.func29, Tryd.ntmps29
        go_wp2_with fail
        refine (CP.out _).mono ?_
        rintro e W ⟨rfl, hb⟩
        have hz := K0.out.1.below hb K0.out.1.lt
        have KZ := Lib.hid (And.intro hz (K0.out.2.1.trans (hb.mono K0.out.2.2)))
        clear hb hz K0 CP
        go_wp2_with fail
        refine (CK.out _).mono ?_
        rintro e w' ⟨rfl, hw'⟩
        obtain rfl := hw'.symm
        have z0 := KZ.out.1.cell 0 _ rfl
        have z1 := KZ.out.1.cell 1 _ rfl
        have hlt := KZ.out.1.lt
        have u3 : decide (u < 0) = false := decide_eq_false (by omega)
        have u4 : decide (1440 ≤ u) = false := decide_eq_false (by omega)
        clear hw' CK
        go_wp2_with fail
        clear z0 z1 hlt u1 u2 u3 u4
        obtain ⟨W1, hW1⟩ : ∃ W1, W1 = W.alloc (.cells #[] 3) := ⟨_, rfl⟩
        have hs1 : W1.heap.size = W.heap.size + 1 := by rw [hW1]; simp
        have hown1 : W1.ownsRow W.heap.size 3 1 (.slice (some ⟨W.heap.size, 0, none⟩) 0 0) 0 [] := by rw [hW1]; exact World.ownsRow_lit W #[] 0 (Nat.le_refl _) (Nat.zero_le _) rfl
        have hbW1 : Below W.heap.size W W1 := by rw [hW1]; exact (Below.refl _ _).alloc (Nat.le_refl _) _
        rw [← hW1]
        obtain ⟨V, hV⟩ : ∃ V, V = W1.alloc (.cells #[.int .i64 (wrap64 (wrap64 (wrap64 (wrap64 (d * 1440) + u) - o) - s)), .int .i64 (wrap64 (wrap64 (wrap64 (d * 1440) + u) - o))] 3) := ⟨_, rfl⟩
        have hkb : Blk V (W.heap.size + 1) [.int .i64 (wrap64 (wrap64 (wrap64 (wrap64 (d * 1440) + u) - o) - s)), .int .i64 (wrap64 (wrap64 (wrap64 (d * 1440) + u) - o))] 3 := by rw [hV, ← hs1]; exact Blk.new W1 _ _
        have hbV : Below W1.heap.size W1 V := by rw [hV]; exact (Below.refl _ _).alloc (Nat.le_refl _) _
        have hVl : W.heap.size + 1 < V.heap.size := hkb.lt
        rw [← hV]
        have cc := CC.out (W.heap.size + 1) V _ _ HW.out.2 HW.out.1 hkb
        have HV := Lib.hid (And.intro hs1 (And.intro hown1 (And.intro hbW1 (And.intro hbV hVl))))
        clear hs1 hown1 hbW1 hW1 hV hkb hbV CC hVl
        refine cc.mono ?_
        rintro e w3 ⟨rfl, hb3, hcells⟩
        have hb13 : Below W1.heap.size W1 w3 := HV.out.2.2.2.1.trans (hb3.mono (by rw [HV.out.1]; exact Nat.le_refl _))
        have hown3 : w3.ownsRow W.heap.size 3 1 (.slice (some ⟨W.heap.size, 0, none⟩) 0 0) 0 [] := own_below HV.out.2.1 hb13 (Nat.le_refl _)
        have hbw3 : Below W.heap.size W w3 := HV.out.2.2.1.trans (hb13.mono (by rw [HV.out.1]; omega))
        have hsz3 : W.heap.size + 1 < w3.heap.size := Nat.lt_of_lt_of_le HV.out.2.2.2.2 hb3.size
        have H3 := Lib.hid (And.intro hown3 (And.intro hbw3 (And.intro hcells hsz3)))
        obtain ⟨i0, hi, hz0, hz1, hz2⟩ := info_parts info_i64
        have HI := Lib.hid (And.intro hi (And.intro hz0 (And.intro hz1 hz2)))
        clear cc hb3 hb13 hown3 hbw3 hcells hsz3 HV W1 V hi hz0 hz1 hz2
        obtain ⟨g, hg⟩ : ∃ g, g = W.heap.size + 1 := ⟨_, rfl⟩
        rw [← hg] at H3 ⊢
        have HG := Lib.hid hg
        clear hg
        go_wp2_with fail
        go_loopw [8, 11, 12, 13, 14, 47] (fun v a b c e i wr => ∃ k : Nat, k ≤ N ∧ i = .int .i64 (k : Int) ∧ wr.ownsRow W.heap.size 3 1 v (outUp d u o s f t C k).length ((outUp d u o s f t C k).map iv) ∧ v.ownBlock ≠ some g ∧ Below W.heap.size W wr ∧ (∀ k x, C[k]? = some x → wr.cell? ⟨g, k, none⟩ = some (.int .i64 x)) ∧ g < wr.heap.size) (fun _ _ _ _ _ i _ => N - (intOf i).toNat)
        case atStart => exact ⟨0, by omega, rfl, H3.out.1, by rw [HG.out]; intro h; have h2 : some W.heap.size = some (W.heap.size + 1) := h; injection h2 with h2; omega, H3.out.2.1, H3.out.2.2.1, H3.out.2.2.2⟩
        case round =>
          obtain ⟨k, hk, rfl, hown, hne, hb, hcells, hgs⟩ := hrel
          obtain ⟨wo, rfl⟩ : ∃ wo : World, wo = wr := ⟨_, rfl⟩
          by_cases hlt : k < N
          · have hli : (k : Int) < N := by omega
            have hk2 : (k : Int) < 2 := by have := HN.out; omega
            have hkl : k < C.length := by rw [← HL.out.2]; exact hlt
            obtain ⟨x, hx⟩ : ∃ x, x = C[k] := ⟨_, rfl⟩
            have hxk : C[k]? = some x := by rw [List.getElem?_eq_getElem hkl, ← hx]
            have hck := hcells k x hxk
            have cl := CL.out x (by rw [hx]; exact List.getElem_mem hkl) wo
            have hT := outUp_len d u o s f t C k
            have hh := fun h => @outUp_hit d u o s f t x C k hxk h
            have hm := fun h => @outUp_miss d u o s f t x C k hxk h
            have hit_def : hitm d u o s f t x ↔ localE x o s f t = 0 ∧ localD x o s f t = d ∧ localM x o s f t = u := Iff.rfl
            generalize localE x o s f t = le at *
            generalize localD x o s f t = ld at *
            generalize localM x o s f t = lm at *
            obtain ⟨T, hTe⟩ : ∃ T, T = outUp d u o s f t C k := ⟨_, rfl⟩
            rw [← hTe] at hT hh hm hown
            have hz := KZ.out.1.below hb KZ.out.1.lt
            have z0 := hz.cell 0 _ rfl
            have z1 := hz.cell 1 _ rfl
            have z2 := hz.cell 2 _ rfl
            have z3 := hz.cell 3 _ rfl
            have hT3 : T.length ≤ 2 := by have := HN.out; have := HL.out.2; omega
            have CLk := Lib.hid cl
            have HH := Lib.hid (And.intro hit_def (And.intro hh (And.intro hm (And.intro hown (And.intro hb (And.intro hT3 (And.intro hne (And.intro hcells hgs))))))))
            clear cl hit_def hh hm hx hxk hTe hz hT hown hb hkl hT3 hcells hgs hne hk
            go_wp2_with fail
            refine CLk.out.mono ?_
            rintro e w2 ⟨rfl, hb2⟩
            have hcl2 : ∀ k x, C[k]? = some x → w2.cell? ⟨g, k, none⟩ = some (.int .i64 x) := fun k x h => (hb2.cell (p := ⟨g, k, none⟩) HH.out.2.2.2.2.2.2.2.2).trans (HH.out.2.2.2.2.2.2.2.1 k x h)
            have HB := Lib.hid (And.intro (HH.out.2.2.2.2.1.trans (hb2.mono HH.out.2.2.2.2.1.size)) (And.intro (own_below HH.out.2.2.2.1 hb2 (Nat.le_refl _)) (And.intro hcl2 (Nat.lt_of_lt_of_le HH.out.2.2.2.2.2.2.2.2 hb2.size))))
            clear hb2 z0 z1 z2 z3 hck hcl2
            by_cases x1 : le = 0
            · by_cases x2 : ld = d
              · by_cases x3 : lm = u
                · have hs := HH.out.2.1 (HH.out.1.2 ⟨x1, x2, x3⟩)
                  have HS := Lib.hid hs
                  have HT := Lib.hid (And.intro HH.out.2.2.2.2.2.1 HH.out.2.2.2.2.2.2.1)
                  have hbs : W.heap.size ≤ w2.heap.size := HB.out.1.size
                  have HBS := Lib.hid hbs
                  clear hs HH hbs
                  obtain rfl := x1
                  obtain rfl := x2.symm
                  obtain rfl := x3.symm
                  go_wp2_with (at_builtin; refine wpList_append_own_at _ rfl (.tmp 70) (.tmp 72) 23 rfl W.heap.size 3 i0 (.int .i64 0) 1 8 Tryd.underlying23 HI.out.1 HI.out.2.1 HI.out.2.2.1 HI.out.2.2.2 rfl (by decide) _ T.length (T.map iv) rfl (HB.out.2.1.alloc _) ⟨w2.heap.size, 0, none⟩ 1 1 [.int .i64 x] rfl rfl (cell_one_new _ _ _) (by intro u hu; simp at hu; subst hu; rfl) (by have := HT.out.1; unfold maxLen; omega) (by have := HT.out.1; omega) (by have := HBS.out; simp only [World.size_alloc]; omega) ?_; intro v' w4 hown' hgrow _ hat; have HA := Lib.hid (And.intro hown' (And.intro hgrow hat)); clear hown' hgrow hat)
                  have hsz4 := HA.out.2.1.size
                  simp only [World.size_alloc] at hsz4
                  refine ⟨⟨k + 1, by omega, by go_num, ?_, ?_, ?_, ?_, ?_⟩, by simp [intOf]; omega⟩
                  · rw [HS.out, List.length_append, List.map_append]; exact HA.out.1
                  · rcases HA.out.2.2 with h | h
                    · rw [h]; exact HT.out.2
                    · rw [h]; intro he; injection he with he; have := HB.out.2.2.2; simp only [World.size_alloc] at he; omega
                  · exact (HB.out.1.alloc HBS.out _).grown HA.out.2.1 (by have := HBS.out; simp only [World.size_alloc]; omega) (fun j hj => (HB.out.2.1.lt j hj).1)
                  · intro k2 x2 h2
                    have h3 := HB.out.2.2.1 k2 x2 h2
                    have hlt2 := HB.out.2.2.2
                    have h4 : (w2.alloc (.cells #[.int .i64 x] 3)).cell? ⟨g, k2, none⟩ = some (.int .i64 x2) := (World.cell?_alloc_lt w2 _ ⟨g, k2, none⟩ hlt2).trans h3
                    have h5 := HA.out.2.1.block g (by simp only [World.size_alloc]; omega) (fun e => HT.out.2 e.symm)
                    rw [← h4]
                    unfold World.cell?
                    rw [h5]
                  · have := HB.out.2.2.2; omega
                · have hn : ¬ hitm d u o s f t x := fun h => by have := HH.out.1.1 h; omega
                  have hs := HH.out.2.2.1 hn
                  have HS := Lib.hid hs
                  have q1 : (lm == u) = false := beq_eq_false_iff_ne.2 x3
                  obtain rfl := x1
                  obtain rfl := x2.symm
                  clear hn hs
                  go_wp2_with fail
                  refine ⟨⟨k + 1, by omega, by go_num, ?_, HH.out.2.2.2.2.2.2.1, HB.out.1, HB.out.2.2.1, HB.out.2.2.2⟩, by simp [intOf]; omega⟩
                  rw [HS.out]; exact HB.out.2.1
              · have hn : ¬ hitm d u o s f t x := fun h => by have := HH.out.1.1 h; omega
                have hs := HH.out.2.2.1 hn
                have HS := Lib.hid hs
                have q1 : (ld == d) = false := beq_eq_false_iff_ne.2 x2
                subst x1
                clear hn hs
                go_wp2_with fail
                refine ⟨⟨k + 1, by omega, by go_num, ?_, HH.out.2.2.2.2.2.2.1, HB.out.1, HB.out.2.2.1, HB.out.2.2.2⟩, by simp [intOf]; omega⟩
                rw [HS.out]; exact HB.out.2.1
            · have hn : ¬ hitm d u o s f t x := fun h => by have := HH.out.1.1 h; omega
              have hs := HH.out.2.2.1 hn
              have HS := Lib.hid hs
              have q1 : (le == 0) = false := beq_eq_false_iff_ne.2 x1
              clear hn hs
              go_wp2_with fail
              refine ⟨⟨k + 1, by omega, by go_num, ?_, HH.out.2.2.2.2.2.2.1, HB.out.1, HB.out.2.2.1, HB.out.2.2.2⟩, by simp [intOf]; omega⟩
              rw [HS.out]; exact HB.out.2.1
          · obtain rfl : k = N := by omega
            have hli : ¬ (k : Int) < k := by omega
            rw [← HL.out.1] at hown
            have HO := Lib.hid (And.intro (own_base hown KZ.out.2.size) (KZ.out.2.trans (hb.mono KZ.out.2.size)))
            clear hown hb hne hcells hgs
            go_wp2_with fail
            refine bodyPost_ret (results_tmp2 rfl _ _ _) rfl ⟨_, rfl, HO.out.1, HO.out.2⟩
    · rw [decide_eq_false hk] at ck
      have CK := Lib.hid ck
      rw [if_pos (.inl hk)] at hE
      rw [if_neg (by omega)] at hL
      subst hE hL
      clear ck hp hk hd hu ho hs hf ht
      go_enter Tryd.func29, Tryd.ntmps29
      go_wp2_with fail
      refine (CP.out _).mono ?_
      rintro e W ⟨rfl, hb⟩
      have HB := Lib.hid (K0.out.2.1.trans (hb.mono K0.out.2.2))
      clear hb
      go_wp2_with fail
      refine (CK.out _).mono ?_
      rintro e w' ⟨rfl, hw'⟩
      obtain rfl := hw'.symm
      go_wp2_with fail
      refine bodyPost_ret (results_tmp2 rfl _ _ _) rfl ⟨_, rfl, World.ownsRow_nil _ _ _ _, HB.out⟩
  · rw [decide_eq_false hp] at cP
    rw [if_pos hp] at hE
    rw [if_neg (by omega)] at hL
    subst hE hL
    have CP := Lib.hid cP
    clear cP hp hd hu ho hs hf ht
    go_enter Tryd.func29, Tryd.ntmps29
    go_wp2_with fail
    refine (CP.out _).mono ?_
    rintro e W ⟨rfl, hb⟩
    have HB := Lib.hid (K0.out.2.1.trans (hb.mono K0.out.2.2))
    clear hb
    go_wp2_with fail
    refine bodyPost_ret (results_tmp2 rfl _ _ _) rfl ⟨_, rfl, World.ownsRow_nil _ _ _ _, HB.out⟩
end Go.Proofs.YtkenfgifhebnpaaDoor
