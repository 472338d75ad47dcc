/- The contract of the reference's Moments. -/
import Derived.Test.YtkenfgifhebnpaaDoorCalRj
import Derived.Test.YtkenfgifhebnpaaDoorDrawA
namespace Go.Proofs.YtkenfgifhebnpaaDoor
open Go.RowKit
set_option linter.unusedVariables false
set_option maxRecDepth 100000

theorem own_base {w : World} {base base' : Nat} {e : TypeId} {size : Nat} {v : Value} {n : Nat} {xs : List Value} (h : w.ownsRow base e size v n xs) (hb : base' ≤ base) : w.ownsRow base' e size v n xs :=
  ⟨h.1, h.2.elim .inl fun ⟨g, c, cur, e, h1, h2⟩ => .inr ⟨g, c, cur, e, Nat.le_trans hb h1, h2⟩⟩
theorem load_zone (W : World) (b : Nat) (o s f t : Int) (h : Blk W b (zc o s f t) 41) : (Instr.loadAt 41 (.pointer (some ⟨b, 0, none⟩))).run Tryd.prog W = .ok (.agg #[.int .i64 o, .int .i64 s, .int .i64 f, .int .i64 t]) W :=
  run_loadAt_mid (P := Tryd.prog) W b 0 41 (zc o s f t) _ h.range Tryd.underlying41 rfl (by kernel_rfl)
/-- A row of ints and an error. -/
def RowE (l : List Int) (y : Int) (w : World) (e : Ending) (w' : World) : Prop := ∃ v, e = .returned (.tuple #[v, .int .i64 y]) ∧ w'.ownsRow w.heap.size 3 1 v l.length (l.map iv) ∧ Below w.heap.size w w'
/-- The moments that are looked at; those with the local time; the error. -/
def momN (d u o : Int) (k : Nat) : Int := 1440 * d + u - o - 120 + k
def hit (d u o s f t : Int) (k : Nat) : Prop := localE (momN d u o k) o s f t = 0 ∧ localD (momN d u o k) o s f t = d ∧ localM (momN d u o k) o s f t = u
open Classical in
noncomputable def momUp (d u o s f t : Int) (k : Nat) : List Int := (List.range k).flatMap fun j => if hit d u o s f t j then [momN d u o j] else []
theorem momUp_hit {d u o s f t : Int} {k : Nat} (h : hit d u o s f t k) : momUp d u o s f t (k + 1) = momUp d u o s f t k ++ [momN d u o k] := by
  unfold momUp
  rw [List.range_succ, List.flatMap_append]
  simp [h]
theorem momUp_miss {d u o s f t : Int} {k : Nat} (h : ¬ hit d u o s f t k) : momUp d u o s f t (k + 1) = momUp d u o s f t k := by
  unfold momUp
  rw [List.range_succ, List.flatMap_append]
  simp [h]
theorem momUp_len (d u o s f t : Int) (k : Nat) : (momUp d u o s f t k).length ≤ k := by
  induction k with
  | zero => simp [momUp]
  | succ k ih =>
    by_cases h : hit d u o s f t k
    · rw [momUp_hit h, List.length_append]; simp; omega
    · rw [momUp_miss h]; omega
noncomputable def momE (d u o s f t : Int) : Int := if ¬ proper o s f t then 1 else if ¬ Cal.known d ∨ u < 0 ∨ u > 1439 then 5 else 0
noncomputable def momL (d u o s f t : Int) : List Int := if momE d u o s f t = 0 then momUp d u o s f t 121 else []

set_option maxHeartbeats 8000000 in
theorem refMoments_any (d u o s f t : Int) (w : World) :
    Calls Tryd.prog 30 #[.int .i64 d, .int .i64 u, .agg #[.int .i64 o, .int .i64 s, .int .i64 f, .int .i64 t]] w (RowE (momL d u o s f t) (momE d u o s f t) w) := by
  have cP := fun W => proper_any o s f t W
  obtain ⟨RL, hL⟩ : ∃ r, r = momL d u o s f t := ⟨_, rfl⟩
  obtain ⟨RE, hE⟩ : ∃ r, r = momE d u o s f t := ⟨_, rfl⟩
  rw [← hL, ← hE]
  unfold momL at hL
  rw [← hE] at hL
  unfold momE at hE
  have hk0 : Blk (w.alloc (.cells #[.int .i64 o, .int .i64 s, .int .i64 f, .int .i64 t] 41)) w.heap.size (zc o s f t) 41 := Blk.new w (zc o s f t) _
  have hb0 : Below w.heap.size w (w.alloc (.cells #[.int .i64 o, .int .i64 s, .int .i64 f, .int .i64 t] 41)) := (Below.refl _ _).alloc (Nat.le_refl _) _
  have hsz : w.heap.size ≤ (w.alloc (.cells #[.int .i64 o, .int .i64 s, .int .i64 f, .int .i64 t] 41)).heap.size := by simp
  have K0 := Lib.hid (And.intro hk0 (And.intro hb0 hsz))
  clear hk0 hb0 hsz
  by_cases hp : proper o s f t
  · rw [decide_eq_true hp] at cP
    rw [if_neg (by simp [hp])] at hE
    have CP := Lib.hid cP
    clear cP
    have ck := fun W => known_any d W
    by_cases hk : Cal.known d
    · rw [decide_eq_true hk] at ck
      have CK := Lib.hid ck
      clear ck
      by_cases hu : u < 0 ∨ (¬ u < 0 ∧ 1439 < u)
      · rw [if_pos (by omega)] at hE
        rw [if_neg (by omega)] at hL
        subst hE hL
        clear hp hk
        rcases hu with h | ⟨h1, h⟩
        all_goals
          go_enter Tryd.func30, Tryd.ntmps30
          go_wp2_with fail
          refine (CP.out _).mono ?_
          rintro e W ⟨rfl, hb⟩
          have HB := Lib.hid (K0.out.2.1.trans (hb.mono K0.out.2.2))
          clear hb
          go_wp2_with fail
          refine (CK.out _).mono ?_
          rintro e w' ⟨rfl, hw'⟩
          obtain rfl := hw'.symm
          go_wp2_with fail
          refine bodyPost_ret (results_tmp2 rfl _ _ _) rfl ⟨_, rfl, World.ownsRow_nil _ _ _ _, HB.out⟩
      · rw [if_neg (by simp [hk]; omega)] at hE
        rw [if_pos hE] at hL
        have u1 : ¬ u < 0 := by omega
        have u2 : ¬ 1439 < u := by omega
        have hk2 := hk
        unfold proper at hp
        unfold Cal.known at hk2
        have hw1 : ∀ k : Nat, k ≤ 120 → wrap64 (wrap64 (wrap64 (wrap64 (wrap64 (1440 * d) + u) - o) - 120) + (k : Int)) = momN d u o k := fun k hk => by unfold momN wrap64; omega
        have cL := fun (k : Nat) (W : World) (x : Int) (hx : x = momN d u o k) => refLocal_any (momN d u o k) o s f t W
        have cL2 : ∀ (k : Nat) (W : World) (x : Int), x = momN d u o k → Calls Tryd.prog 27 #[.int .i64 x, .agg #[.int .i64 o, .int .i64 s, .int .i64 f, .int .i64 t]] W fun e w' => e = .returned (.tuple #[.int .i64 (localD (momN d u o k) o s f t), .int .i64 (localM (momN d u o k) o s f t), .int .i64 (localE (momN d u o k) o s f t)]) ∧ Below W.heap.size W w' := fun k W x hx => by rw [hx]; exact cL k W x hx
        have HW := Lib.hid hw1
        have CL := Lib.hid cL2
        have HL := Lib.hid hL
        clear hw1 cL cL2 hL hp hk hk2 hu
        subst hE
        go_enter Tryd.func30, Tryd.ntmps30
        go_wp2_with fail
        refine (CP.out _).mono ?_
        rintro e W ⟨rfl, hb⟩
        have hz := K0.out.1.below hb K0.out.1.lt
        have KZ := Lib.hid (And.intro hz (K0.out.2.1.trans (hb.mono K0.out.2.2)))
        clear hb hz K0 CP
        go_wp2_with fail
        refine (CK.out _).mono ?_
        rintro e w' ⟨rfl, hw'⟩
        obtain rfl := hw'.symm
        go_wp2_with fail
        clear hw' CK u1 u2
        go_loopw [8, 9, 10, 11, 12, 13] (fun v i a b c e wr => ∃ k : Nat, k ≤ 121 ∧ i = .int .i64 (k : Int) ∧ wr.ownsRow W.heap.size 3 1 v (momUp d u o s f t k).length ((momUp d u o s f t k).map iv) ∧ Below W.heap.size W wr) (fun _ i _ _ _ _ _ => 121 - (intOf i).toNat)
        case atStart => exact ⟨0, by omega, rfl, World.ownsRow_nil _ _ _ _, Below.refl _ _⟩
        case round =>
          obtain ⟨k, hk, rfl, hown, hb⟩ := hrel
          by_cases hlt : k ≤ 120
          · have hli : (k : Int) ≤ 120 := by omega
            have hT := momUp_len d u o s f t k
            have hh := @momUp_hit d u o s f t k
            have hm := @momUp_miss d u o s f t k
            have hit_def : hit d u o s f t k ↔ localE (momN d u o k) o s f t = 0 ∧ localD (momN d u o k) o s f t = d ∧ localM (momN d u o k) o s f t = u := Iff.rfl
            have cl := CL.out k
            have hwk := HW.out k hlt
            obtain ⟨nk, hnk⟩ : ∃ n, n = momN d u o k := ⟨_, rfl⟩
            rw [← hnk] at cl hit_def hh hwk
            generalize localE nk o s f t = le at *
            generalize localD nk o s f t = ld at *
            generalize localM nk o s f t = lm at *
            obtain ⟨T, hTe⟩ : ∃ T, T = momUp d u o s f t k := ⟨_, rfl⟩
            rw [← hTe] at hT hh hm hown
            obtain ⟨X, hX⟩ : ∃ X, X = wrap64 (wrap64 (wrap64 (wrap64 (wrap64 (1440 * d) + u) - o) - 120) + (k : Int)) := ⟨_, rfl⟩
            have hz := KZ.out.1.below hb KZ.out.1.lt
            have z0 := hz.cell 0 _ rfl
            have z1 := hz.cell 1 _ rfl
            have z2 := hz.cell 2 _ rfl
            have z3 := hz.cell 3 _ rfl
            have CLk := Lib.hid cl
            have HH := Lib.hid (And.intro hit_def (And.intro hh (And.intro hm (And.intro hwk (And.intro hown (And.intro hb hT))))))
            clear cl hit_def hh hm hwk hnk hTe hz hT hown hb hX X
            go_wp2_with fail
            refine (CLk.out _ _ HH.out.2.2.2.1).mono ?_
            rintro e w2 ⟨rfl, hb2⟩
            have HB := Lib.hid (And.intro (HH.out.2.2.2.2.2.1.trans (hb2.mono HH.out.2.2.2.2.2.1.size)) (own_below HH.out.2.2.2.2.1 hb2 (Nat.le_refl _)))
            clear hb2 z0 z1 z2 z3
            by_cases x1 : le = 0
            · by_cases x2 : ld = d
              · by_cases x3 : lm = u
                · have hs := HH.out.2.1 (HH.out.1.2 ⟨x1, x2, x3⟩)
                  have HS := Lib.hid hs
                  have HX := Lib.hid HH.out.2.2.2.1
                  have HT := Lib.hid (And.intro HH.out.2.2.2.2.2.2 HB.out.1.size)
                  clear hs HH
                  obtain rfl := x1
                  obtain rfl := x2.symm
                  obtain rfl := x3.symm
                  go_wp2_with (at_builtin; refine wpList_append_ownI _ rfl (.tmp 61) (.tmp 63) rfl W.heap.size _ T [wrap64 (wrap64 (wrap64 (wrap64 (wrap64 (1440 * d) + u) - o) - 120) + (k : Int))] (some ⟨w2.heap.size, 0, none⟩) 1 rfl rfl (HB.out.2.alloc _) (rd_new w2 [iv (wrap64 (wrap64 (wrap64 (wrap64 (wrap64 (1440 * d) + u) - o) - 120) + (k : Int)))] 3) (by have := HT.out.1; simp; omega) (by have := HT.out.2; simp; omega) ?_; intro v' w3 hown' hgrow; have HG := Lib.hid (And.intro hown' hgrow); clear hown' hgrow)
                  refine ⟨⟨k + 1, by omega, by go_num, ?_, (HB.out.1.alloc HT.out.2 _).grown HG.out.2 (by have := HT.out.2; simp; omega) (fun j hj => (HB.out.2.lt j hj).1)⟩, by simp [intOf]; omega⟩
                  rw [HS.out, ← HX.out]
                  exact HG.out.1
                · have hn : ¬ hit d u o s f t k := fun h => by have := HH.out.1.1 h; omega
                  have hs := HH.out.2.2.1 hn
                  have HS := Lib.hid hs
                  have q1 : (lm == u) = false := beq_eq_false_iff_ne.2 x3
                  obtain rfl := x1
                  obtain rfl := x2.symm
                  clear hn hs
                  go_wp2_with fail
                  refine ⟨⟨k + 1, by omega, by go_num, ?_, HB.out.1⟩, by simp [intOf]; omega⟩
                  rw [HS.out]; exact HB.out.2
              · have hn : ¬ hit d u o s f t k := fun h => by have := HH.out.1.1 h; omega
                have hs := HH.out.2.2.1 hn
                have HS := Lib.hid hs
                have q1 : (ld == d) = false := beq_eq_false_iff_ne.2 x2
                subst x1
                clear hn hs
                go_wp2_with fail
                refine ⟨⟨k + 1, by omega, by go_num, ?_, HB.out.1⟩, by simp [intOf]; omega⟩
                rw [HS.out]; exact HB.out.2
            · have hn : ¬ hit d u o s f t k := fun h => by have := HH.out.1.1 h; omega
              have hs := HH.out.2.2.1 hn
              have HS := Lib.hid hs
              have q1 : (le == 0) = false := beq_eq_false_iff_ne.2 x1
              clear hn hs
              go_wp2_with fail
              refine ⟨⟨k + 1, by omega, by go_num, ?_, HB.out.1⟩, by simp [intOf]; omega⟩
              rw [HS.out]; exact HB.out.2
          · obtain rfl : k = 121 := by omega
            rw [← HL.out] at hown
            have HO := Lib.hid (And.intro (own_base hown KZ.out.2.size) (KZ.out.2.trans (hb.mono KZ.out.2.size)))
            clear hown hb
            go_wp2_with fail
            refine bodyPost_ret (results_tmp2 rfl _ _ _) rfl ⟨_, rfl, HO.out.1, HO.out.2⟩
    · rw [decide_eq_false hk] at ck
      have CK := Lib.hid ck
      rw [if_pos (.inl hk)] at hE
      rw [if_neg (by omega)] at hL
      subst hE hL
      clear ck hp hk
      go_enter Tryd.func30, Tryd.ntmps30
      go_wp2_with fail
      refine (CP.out _).mono ?_
      rintro e W ⟨rfl, hb⟩
      have HB := Lib.hid (K0.out.2.1.trans (hb.mono K0.out.2.2))
      clear hb
      go_wp2_with fail
      refine (CK.out _).mono ?_
      rintro e w' ⟨rfl, hw'⟩
      obtain rfl := hw'.symm
      go_wp2_with fail
      refine bodyPost_ret (results_tmp2 rfl _ _ _) rfl ⟨_, rfl, World.ownsRow_nil _ _ _ _, HB.out⟩
  · rw [decide_eq_false hp] at cP
    rw [if_pos hp] at hE
    rw [if_neg (by omega)] at hL
    subst hE hL
    have CP := Lib.hid cP
    clear cP hp
    go_enter Tryd.func30, Tryd.ntmps30
    go_wp2_with fail
    refine (CP.out _).mono ?_
    rintro e w' ⟨rfl, hb⟩
    have HB := Lib.hid (K0.out.2.1.trans (hb.mono K0.out.2.2))
    clear hb
    go_wp2_with fail
    refine bodyPost_ret (results_tmp2 rfl _ _ _) rfl ⟨_, rfl, World.ownsRow_nil _ _ _ _, HB.out⟩
end Go.Proofs.YtkenfgifhebnpaaDoor
