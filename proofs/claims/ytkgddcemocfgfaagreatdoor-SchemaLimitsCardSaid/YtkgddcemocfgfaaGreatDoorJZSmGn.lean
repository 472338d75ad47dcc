import Derived.Test.YtkgddcemocfgfaaGreatDoorJZSmGl

section
/- The program's reader: schema. -/

namespace Go.Proofs.YtkgddcemocfgfaaGreatDoor
open Go.RowKit
set_option linter.unusedVariables false
set_option linter.unusedSimpArgs false
set_option maxRecDepth 100000

namespace Sm
def kindsGo (T : List ByteArray) (p : PS) : List Kd × PS := whileB (elB T kindWd) (elV (kindGo T)) (T.length + 1) [] p
def livesGo (T : List ByteArray) (p : PS) : List Lf × PS := whileB (elB T lifeWd) (elV (lifeGo T)) (T.length + 1) [] p
def rulesGo (T : List ByteArray) (p : PS) : List Ru × PS := whileB (elB T ruleWd) (elV (ruleGo T)) (T.length + 1) [] p
def headG (T : List ByteArray) (p : PS) : PS := wantP T schemaWd p
def schemaGo (T : List ByteArray) (p : PS) : Sc × PS :=
 (⟨numG T (headG T p), (kindsGo T (numP T (headG T p))).1, (livesGo T (kindsGo T (numP T (headG T p))).2).1, (rulesGo T (livesGo T (kindsGo T (numP T (headG T p))).2).2).1⟩, (rulesGo T (livesGo T (kindsGo T (numP T (headG T p))).2).2).2)
/-- Each element that is read goes on. -/
structure OnG (T : List ByteArray) (n : Nat) : Prop where
 fields : ∀ q, q.i ≤ n → fieldB T q = true → q.i + 1 ≤ (fieldGo T q).2.i ∧ (fieldGo T q).2.i ≤ n
 moves : ∀ q, q.i ≤ n → elB T moveWd q = true → q.i + 1 ≤ (elV (moveGo T) q).2.i ∧ (elV (moveGo T) q).2.i ≤ n
 kinds : ∀ q, q.i ≤ n → elB T kindWd q = true → q.i + 1 ≤ (elV (kindGo T) q).2.i ∧ (elV (kindGo T) q).2.i ≤ n
 lives : ∀ q, q.i ≤ n → elB T lifeWd q = true → q.i + 1 ≤ (elV (lifeGo T) q).2.i ∧ (elV (lifeGo T) q).2.i ≤ n
 rules : ∀ q, q.i ≤ n → elB T ruleWd q = true → q.i + 1 ≤ (elV (ruleGo T) q).2.i ∧ (elV (ruleGo T) q).2.i ≤ n
end Sm
set_option maxHeartbeats 2000000 in
theorem gSchema1_any (lw : ByteArray) (w : World) : Calls Tryz.prog 111 #[.string lw] w (Ans (.bool (Sm.eqW lw Sm.schemaWd)) w) := by
 unfold Ans
 obtain ⟨z, hz⟩ : ∃ z, z = Sm.eqW lw Sm.schemaWd := ⟨_, rfl⟩
 rw [← hz]
 have hw : Sm.schemaWd.toList = [115, 99, 104, 101, 109, 97] := by unfold Sm.schemaWd; rw [Lib.toList_data]
 by_cases he : lw.toList = [115, 99, 104, 101, 109, 97]
 ·obtain rfl : z = true := by rw [hz]; unfold Sm.eqW; rw [hw]; simpa using he
  have h2 : (lw.toList == [115, 99, 104, 101, 109, 97]) = true := by simpa using he
  clear hz hw
  go_enter Tryz.func111, Tryz.ntmps111
  go_wp2_with fail
  go_ret
  exact ⟨by simp [he], rfl⟩
 ·obtain rfl : z = false := by rw [hz]; unfold Sm.eqW; rw [hw]; simpa using he
  have h2 : (lw.toList == [115, 99, 104, 101, 109, 97]) = false := by simpa using he
  clear hz hw
  go_enter Tryz.func111, Tryz.ntmps111
  go_wp2_with fail
  go_ret
  exact ⟨by simp [he], rfl⟩
/-- What schema answers. -/
def ScA2 (rb : Nat) (s : ByteArray) (ts : List (Nat × Nat)) (stop : Nat) (x : Sm.Sc) (p : Sm.PS) (W : World) (e : Ending) (w' : World) : Prop :=
 ∃ c, e = .returned (.agg c.toArray) ∧ ScS (Fresh W w') w' x c ∧ RdAt rb s ts stop p w' ∧ But rb W w'

set_option maxHeartbeats 8000000 in
theorem gSchema_any (rb : Nat) (s : ByteArray) (ts : List (Nat × Nat)) (stop : Nat) (p : Sm.PS) (W : World) (h : RdAt rb s ts stop p W) (hD : SDoor W) (hg : doorB ≤ rb) (hs8 : ts.length ≤ 8192) (hon : Sm.OnG (tokT s ts) ts.length) :
  Calls Tryz.prog 62 #[.pointer (some ⟨rb, 0, none⟩)] W (ScA2 rb s ts stop (Sm.schemaGo (tokT s ts) p).1 (Sm.schemaGo (tokT s ts) p).2 W) := by
 have hr0 := h.blk.lt
 have hgs : 5 < rb := by unfold doorB at hg; omega
 have hDD : ∀ V, But rb W V → SDoor V := fun V hb => hD.below (hb.below (Nat.le_refl _) (Nat.le_of_lt hr0)) hg
 have cT := fun V (hV : RdAt rb s ts stop p V) => gTake_any rb s ts stop p V hV 111 (fun _ _ => rfl) (Sm.eqW (Sm.look (tokT s ts) p) Sm.schemaWd) fun V' _ => (gSchema1_any _ V').mono fun e w' h => ⟨h.1, by rw [h.2]; exact Below.refl _ _⟩
 have cM := fun q V (hV : RdAt rb s ts stop q V) (hb : But rb W V) => gNumber_any rb s ts stop q V hV ((hDD V hb).syn) hgs
 have cK := fun q V (hV : RdAt rb s ts stop q V) (hb : But rb W V) => gListKd_any rb s ts stop q V hV hs8 114 (fun _ _ => rfl) (Sm.elB (tokT s ts) Sm.kindWd) (Sm.elV (Sm.kindGo (tokT s ts))) Sm.zeroKd (fun q' V' hV' hb' => gKind_any rb s ts stop q' V' hV' (hDD V' (hb.trans hb')) hg hs8 hon.fields) hon.kinds
 have cL := fun q V (hV : RdAt rb s ts stop q V) (hb : But rb W V) => gListLf_any rb s ts stop q V hV hs8 116 (fun _ _ => rfl) (Sm.elB (tokT s ts) Sm.lifeWd) (Sm.elV (Sm.lifeGo (tokT s ts))) Sm.zeroLf (fun q' V' hV' hb' => gLife_any rb s ts stop q' V' hV' (hDD V' (hb.trans hb')) hg hs8 hon.moves) hon.lives
 have cR := fun q V (hV : RdAt rb s ts stop q V) (hb : But rb W V) => gListRu_any rb s ts stop q V hV hs8 118 (fun _ _ => rfl) (Sm.elB (tokT s ts) Sm.ruleWd) (Sm.elV (Sm.ruleGo (tokT s ts))) Sm.zeroRu (fun q' V' hV' hb' => gRule_any rb s ts stop q' V' hV' (hDD V' (hb.trans hb')) hg) hon.rules
 obtain ⟨T, hT⟩ : ∃ T, T = tokT s ts := ⟨_, rfl⟩
 have hTl : T.length = ts.length := by rw [hT]; unfold tokT; rw [List.length_map]
 rw [← hT]
 simp only [← hT] at cT cM cK cL cR
 obtain ⟨q1, hq1⟩ : ∃ q, q = Sm.headG T p := ⟨_, rfl⟩
 have hq1' : Sm.takeP T (Sm.eqW (Sm.look T p) Sm.schemaWd) p = q1 := hq1.symm
 simp only [hq1'] at cT
 obtain ⟨tw, htw⟩ : ∃ t, t = Sm.takeW T (Sm.eqW (Sm.look T p) Sm.schemaWd) p := ⟨_, rfl⟩
 simp only [← htw] at cT
 obtain ⟨q2, hq2⟩ : ∃ q, q = Sm.numP T q1 := ⟨_, rfl⟩
 obtain ⟨ver, hver⟩ : ∃ q, q = Sm.numG T q1 := ⟨_, rfl⟩
 have c2 := fun V hV hb => cM q1 V hV hb
 simp only [← hq2, ← hver] at c2
 obtain ⟨RK, hRK⟩ : ∃ R, R = Sm.kindsGo T q2 := ⟨_, rfl⟩
 have eK : Sm.whileB (Sm.elB T Sm.kindWd) (Sm.elV (Sm.kindGo T)) (ts.length + 1) [] q2 = RK := by rw [hRK]; unfold Sm.kindsGo; rw [hTl]
 have c3 := fun V hV hb => cK q2 V hV hb
 simp only [eK] at c3
 obtain ⟨RL, hRL⟩ : ∃ R, R = Sm.livesGo T RK.2 := ⟨_, rfl⟩
 have eL : Sm.whileB (Sm.elB T Sm.lifeWd) (Sm.elV (Sm.lifeGo T)) (ts.length + 1) [] RK.2 = RL := by rw [hRL]; unfold Sm.livesGo; rw [hTl]
 have c4 := fun V hV hb => cL RK.2 V hV hb
 simp only [eL] at c4
 obtain ⟨RR, hRR⟩ : ∃ R, R = Sm.rulesGo T RL.2 := ⟨_, rfl⟩
 have eR : Sm.whileB (Sm.elB T Sm.ruleWd) (Sm.elV (Sm.ruleGo T)) (ts.length + 1) [] RL.2 = RR := by rw [hRR]; unfold Sm.rulesGo; rw [hTl]
 have c5 := fun V hV hb => cR RL.2 V hV hb
 simp only [eR] at c5
 have hGo : Sm.schemaGo T p = (⟨ver, RK.1, RL.1, RR.1⟩, RR.2) := by
  unfold Sm.schemaGo
  rw [← hq1, ← hver, ← hq2, ← hRK, ← hRL, ← hRR]
 rw [hGo]
 have C1 := Lib.hid cT
 have C2 := Lib.hid c2
 have C3 := Lib.hid c3
 have C4 := Lib.hid c4
 have C5 := Lib.hid c5
 have H0 := Lib.hid (show RdAt rb s ts stop p (W.alloc (.cells scZ.toArray 27)) ∧ But rb W (W.alloc (.cells scZ.toArray 27)) ∧ Blk (W.alloc (.cells scZ.toArray 27)) W.heap.size scZ 27 ∧ rb < W.heap.size from ⟨h.alloc _, But.of ((Below.refl _ _).alloc (Nat.le_refl _) _), Blk.new W scZ _, hr0⟩)
 clear cT cM cK cL cR c2 c3 c4 c5 hGo hq1 hq1' htw hq2 hver hRK eK hRL eL hRR eR hT hTl hD hg hgs hDD hon hs8 h hr0
 go_enter Tryz.func62, Tryz.ntmps62
 go_wp2_with fail
 obtain ⟨ob, hob⟩ : ∃ n, n = W.heap.size := ⟨_, rfl⟩
 obtain ⟨W0, hW0⟩ : ∃ w, w = W.alloc (.cells scZ.toArray 27) := ⟨_, rfl⟩
 rw [← hW0, ← hob] at H0
 have hW0' : W0 = W.alloc (.cells #[.int .i64 0, .slice none 0 0, .slice none 0 0, .slice none 0 0] 27) := hW0
 rw [← hW0', ← hob]
 have HOB := Lib.hid hob
 clear hW0 hW0' hob
 refine (C1.out _ H0.out.1).mono ?_
 rintro e w1 ⟨rfl, ha, hb⟩
 have K1 := Lib.hid (And.intro ha (And.intro (H0.out.2.1.trans hb) (H0.out.2.2.1.but hb (by have := H0.out.2.2.2; omega))))
 clear ha hb C1
 go_wp2_with fail
 refine (C2.out _ K1.out.1 K1.out.2.1).mono ?_
 rintro e w2 ⟨rfl, ha, hb⟩
 have K2 := Lib.hid (And.intro ha (And.intro (K1.out.2.1.trans hb) (K1.out.2.2.but hb (by have := H0.out.2.2.2; omega))))
 clear ha hb C2 K1
 go_wp2_with fail
 refine (C3.out _ K2.out.1 K2.out.2.1).mono ?_
 rintro e w3 ⟨Ak, ck, rfl, hrk, hk1, hk2, ha, hb⟩
 obtain ⟨nk, hnk⟩ : ∃ n, n = RK.1.length := ⟨_, rfl⟩
 rw [← hnk] at hk1 ⊢
 have HFK := Lib.hid (And.intro hrk (And.intro hk1 (And.intro hk2 (And.intro hnk (And.intro K2.out.2.2.lt K2.out.2.1.size)))))
 have K3 := Lib.hid (And.intro ha (And.intro (K2.out.2.1.trans hb) (K2.out.2.2.but hb (by have := H0.out.2.2.2; omega))))
 clear ha hb C3 K2 hrk hk1 hk2 hnk
 go_wp2_with fail
 refine (C4.out _ K3.out.1 K3.out.2.1).mono ?_
 rintro e w4 ⟨Al, cl, rfl, hrk, hk1, hk2, ha, hb⟩
 obtain ⟨nl, hnl⟩ : ∃ n, n = RL.1.length := ⟨_, rfl⟩
 rw [← hnl] at hk1 ⊢
 have HFL := Lib.hid (And.intro hrk (And.intro hk1 (And.intro hk2 (And.intro hnl (And.intro K3.out.2.2.lt (And.intro K3.out.2.1.size hb))))))
 have K4 := Lib.hid (And.intro ha (And.intro (K3.out.2.1.trans hb) (K3.out.2.2.but hb (by have := H0.out.2.2.2; omega))))
 clear ha hb C4 K3 hrk hk1 hk2 hnl
 go_wp2_with fail
 refine (C5.out _ K4.out.1 K4.out.2.1).mono ?_
 rintro e w5 ⟨Ar, cr, rfl, hrk, hk1, hk2, ha, hb⟩
 obtain ⟨nr, hnr⟩ : ∃ n, n = RR.1.length := ⟨_, rfl⟩
 rw [← hnr] at hk1 ⊢
 have HFR := Lib.hid (And.intro hrk (And.intro hk1 (And.intro hk2 (And.intro hnr (And.intro K4.out.2.2.lt (And.intro K4.out.2.1.size hb))))))
 have K5 := Lib.hid (And.intro ha (And.intro (K4.out.2.1.trans hb) (K4.out.2.2.but hb (by have := H0.out.2.2.2; omega))))
 clear ha hb C5 K4 hrk hk1 hk2 hnr
 have r0 := K5.out.2.2.cell 0 _ rfl
 have r1 := K5.out.2.2.cell 1 _ rfl
 have r2 := K5.out.2.2.cell 2 _ rfl
 have r3 := K5.out.2.2.cell 3 _ rfl
 have g0 := K5.out.2.2.frozen 0
 have g1 := K5.out.2.2.frozen 1
 have g2 := K5.out.2.2.frozen 2
 have g3 := K5.out.2.2.frozen 3
 go_wp2_with fail
 obtain ⟨E, hE⟩ : ∃ w, w = (((w5.setCell ⟨ob, 0, none⟩ (.int .i64 ver)).setCell ⟨ob, 1, none⟩ (.slice Ak nk ck)).setCell ⟨ob, 2, none⟩ (.slice Al nl cl)).setCell ⟨ob, 3, none⟩ (.slice Ar nr cr) := ⟨_, rfl⟩
 have hblk : Blk E ob [.int .i64 ver, .slice Ak nk ck, .slice Al nl cl, .slice Ar nr cr] 27 := by rw [hE]; exact (((K5.out.2.2.set 0 _).set 1 _).set 2 _).set 3 _
 have hob : But ob w5 E := by rw [hE]; exact ((((But.refl ob w5).setCell ⟨ob, 0, none⟩ _ rfl).setCell ⟨ob, 1, none⟩ _ rfl).setCell ⟨ob, 2, none⟩ _ rfl).setCell ⟨ob, 3, none⟩ _ rfl
 have hrd := K5.out.1.but hob (by have := H0.out.2.2.2; have := HOB.out; omega)
 have hbE : But rb W E := K5.out.2.1.trans_other hob (by rw [HOB.out]; exact Nat.le_refl _)
 have hlo : rb < ob := by rw [HOB.out]; have := H0.out.2.2.2; have := HOB.out; omega
 have s3 : ob < w2.heap.size := HFK.out.2.2.2.2.1
 have s4 : ob < w3.heap.size := HFL.out.2.2.2.2.1
 have s5 : ob < w4.heap.size := HFR.out.2.2.2.2.1
 have b34 := HFL.out.2.2.2.2.2.2
 have b45 := HFR.out.2.2.2.2.2.2
 have k1 : KeepS (Fresh w2 w3) w3 E := fun a ha => by
  have h1 := ha.1
  have h2 := ha.2
  have z4 := b34.size
  have z5 := b45.size
  exact (hob.cell (by omega) (by omega)).trans ((b45.cell (by omega) (by omega)).trans (b34.cell h2 (by omega)))
 have k2 : KeepS (Fresh w3 w4) w4 E := fun a ha => by
  have h1 := ha.1
  have h2 := ha.2
  have z5 := b45.size
  exact (hob.cell (by omega) (by omega)).trans (b45.cell h2 (by omega))
 have k3 : KeepS (Fresh w4 w5) w5 E := fun a ha => by
  have h1 := ha.1
  have h2 := ha.2
  exact hob.cell h2 (by omega)
 have m1 : ∀ k, Fresh w2 w3 k → Fresh W E k := fun k hk => ⟨Nat.le_trans HFK.out.2.2.2.2.2 hk.1, by have := hk.2; have z4 := b34.size; have z5 := b45.size; have := hob.size; omega⟩
 have m2 : ∀ k, Fresh w3 w4 k → Fresh W E k := fun k hk => ⟨Nat.le_trans HFL.out.2.2.2.2.2.1 hk.1, by have := hk.2; have z5 := b45.size; have := hob.size; omega⟩
 have m3 : ∀ k, Fresh w4 w5 k → Fresh W E k := fun k hk => ⟨Nat.le_trans HFR.out.2.2.2.2.2.1 hk.1, by have := hk.2; have := hob.size; omega⟩
 have hsc : ScS (Fresh W E) E ⟨ver, RK.1, RL.1, RR.1⟩ [.int .i64 ver, .slice Ak nk ck, .slice Al nl cl, .slice Ar nr cr] := by
  refine ⟨Ak, ck, Al, cl, Ar, cr, by rw [HFK.out.2.2.2.1, HFL.out.2.2.2.1, HFR.out.2.2.2.1], ?_, ?_, ?_, ?_, HFK.out.2.2.1, ?_, HFL.out.2.2.1, ?_, HFR.out.2.2.1⟩
  ·exact (HFK.out.1.keep k1 fun _ _ h => h.keep k1).mono m1 fun _ _ h => h.mono m1
  ·exact (HFL.out.1.keep k2 fun _ _ h => h.keep k2).mono m2 fun _ _ h => h.mono m2
  ·exact (HFR.out.1.keep k3 fun _ _ h => h.keep k3).mono m3 fun _ _ h => h.mono m3
  ·show RK.1.length ≤ ck; rw [← HFK.out.2.2.2.1]; exact HFK.out.2.1
  ·show RL.1.length ≤ cl; rw [← HFL.out.2.2.2.1]; exact HFL.out.2.1
  ·show RR.1.length ≤ cr; rw [← HFR.out.2.2.2.1]; exact HFR.out.2.1
 rw [hE] at hblk hrd hbE hsc
 exact bodyPost_ret (results_cell_row rfl _ _ ob 27 #[.int .i64 ver, .slice Ak nk ck, .slice Al nl cl, .slice Ar nr cr] (0, 0) _ rfl hblk Tryz.underlying27 rfl (by kernel_rfl)) rfl
  ⟨_, rfl, hsc, hrd, hbE⟩
end Go.Proofs.YtkgddcemocfgfaaGreatDoor
end

section
/- The program's reader against the reference's parser. Plain mathematics. -/

namespace Go.Proofs.YtkgddcemocfgfaaGreatDoor
open Go.RowKit
set_option linter.unusedVariables false
set_option linter.unusedSimpArgs false

namespace Sm
theorem takeP_fail (T : List ByteArray) (r : Bool) (p : PS) (h : p.f = true) : takeP T r p = p := by
 unfold takeP
 have hl : look T p = nil := by unfold look; rw [if_pos h]
 rw [if_neg (fun x => x.2 (by rw [hl]; rfl))]
 cases p
 simp only at h
 rw [h]
theorem nameP_s {T : List ByteArray} {p : PS} (h : (nameP T p).f = false) : p.f = false := (takeP_f T _ p h).1
theorem namesP_s {T : List ByteArray} {p : PS} (h : (namesP T p).f = false) : p.f = false := (takeP_f T _ p h).1
theorem numP_s {T : List ByteArray} {p : PS} (h : (numP T p).f = false) : p.f = false := (takeP_f T _ p h).1
theorem cntP_s {T : List ByteArray} {p : PS} (h : (cntP T p).f = false) : p.f = false := (takeP_f T _ p h).1
theorem wantP_s {T : List ByteArray} {w : ByteArray} {p : PS} (h : (wantP T w p).f = false) : p.f = false := (takeP_f T _ p h).1
theorem numG_v {T : List ByteArray} {p : PS} (h : (numP T p).f = false) : numG T p = numV T p := by unfold numG; rw [h, if_neg (by decide)]
theorem cntG_v {T : List ByteArray} {p : PS} (h : (cntP T p).f = false) : cntG T p = numV T p := by unfold cntG; rw [h, if_neg (by decide)]
theorem picks_s {T : List ByteArray} : ∀ (n : Nat) (a : List (ByteArray × Int)) (p : PS), (picks T n a p).2.f = false → p.f = false := by
 intro n
 induction n with
 | zero => intro a p h; exact h
 | succ n ih =>
  intro a p h
  unfold picks at h
  split at h
  ·exact h
  ·exact nameP_s (numP_s (ih _ _ h))
theorem picks_full {T : List ByteArray} (n : Nat) (a : List (ByteArray × Int)) (p : PS) (h : p.f = true) : picks T n a p = (a, p) := by
 cases n with
 | zero => rfl
 | succ n => unfold picks; rw [if_pos h]
theorem picksG_full {T : List ByteArray} : ∀ (n : Nat) (a : List (ByteArray × Int)) (p : PS), p.f = true → (picksG T n a p).2 = p := by
 intro n
 induction n with
 | zero => intro a p _; rfl
 | succ n ih =>
  intro a p h
  unfold picksG
  have e1 : nameP T p = p := takeP_fail T _ p h
  have e2 : numP T p = p := takeP_fail T _ p h
  rw [e1, e2]
  exact ih _ p h
theorem picksG_cmp {T : List ByteArray} : ∀ (n : Nat) (a b : List (ByteArray × Int)) (p : PS), (picksG T n a p).2 = (picks T n b p).2 ∧ ((picks T n b p).2.f = false → a = b → (picksG T n a p).1 = (picks T n b p).1) := by
 intro n
 induction n with
 | zero => intro a b p; exact ⟨rfl, fun _ e => e⟩
 | succ n ih =>
  intro a b p
  cases hf : p.f with
  | true =>
   rw [picks_full _ b p hf, picksG_full _ a p hf]
   exact ⟨rfl, fun h => by rw [hf] at h; cases h⟩
  | false =>
   have e : picks T (n + 1) b p = picks T n (b ++ [(nameW T p, numV T (nameP T p))]) (numP T (nameP T p)) := by
    conv => lhs; unfold picks
    rw [if_neg (by rw [hf]; decide)]
   rw [e]
   show (picksG T n (a ++ [(nameW T p, numG T (nameP T p))]) (numP T (nameP T p))).2 = _ ∧ (_ → _ → (picksG T n (a ++ [(nameW T p, numG T (nameP T p))]) (numP T (nameP T p))).1 = _)
   refine ⟨(ih _ _ _).1, fun h he => (ih _ _ _).2 h ?_⟩
   rw [he, numG_v (picks_s n _ _ h)]

/-! ### A field -/
theorem shp_uses (k : Nat) (x : Shp) (hx : shpL[k]? = some x) :
  (usesUp k = true ∧ x.up = 1 ∨ usesUp k = false ∧ x.up = 0) ∧ ((k : Int) = 4 ∧ x.of = 2 ∨ ¬ (k : Int) = 4 ∧ usesOf k = true ∧ x.of = 1 ∨ ¬ (k : Int) = 4 ∧ usesOf k = false ∧ x.of = 0) ∧
  usesLo k = decide (0 < x.numbers) ∧ usesHi k = decide (1 < x.numbers) ∧ usesWords k = x.words := by
 match k, hx with
 | 0, hx => obtain rfl := Option.some.inj hx; decide
 | 1, hx => obtain rfl := Option.some.inj hx; decide
 | 2, hx => obtain rfl := Option.some.inj hx; decide
 | 3, hx => obtain rfl := Option.some.inj hx; decide
 | 4, hx => obtain rfl := Option.some.inj hx; decide
 | 5, hx => obtain rfl := Option.some.inj hx; decide
 | 6, hx => obtain rfl := Option.some.inj hx; decide
 | 7, hx => obtain rfl := Option.some.inj hx; decide
 | 8, hx => obtain rfl := Option.some.inj hx; decide
 | k + 9, hx => simp [shpL] at hx
theorem use_up {T : List ByteArray} {k : Int} {x : Shp} (h : usesUp k = true ∧ x.up = 1 ∨ usesUp k = false ∧ x.up = 0) (q : PS) : useP T x.up q = f2 T k q ∧ useW T x.up q = if usesUp k then nameW T q else nil := by
 unfold useP useW f2
 rcases h with ⟨h1, h2⟩ | ⟨h1, h2⟩ <;> rw [h1, h2] <;> exact ⟨rfl, rfl⟩
theorem use_of {T : List ByteArray} {k : Int} {x : Shp} (h : k = 4 ∧ x.of = 2 ∨ ¬ k = 4 ∧ usesOf k = true ∧ x.of = 1 ∨ ¬ k = 4 ∧ usesOf k = false ∧ x.of = 0) (q : PS) :
  useP T x.of q = f3 T k q ∧ useW T x.of q = if k = 4 then namesW T q else if usesOf k then nameW T q else nil := by
 unfold useP useW f3
 rcases h with ⟨h1, h2⟩ | ⟨h1, h2, h3⟩ | ⟨h1, h2, h3⟩
 ·rw [if_pos h1, if_pos h1, h2]; exact ⟨rfl, rfl⟩
 ·rw [if_neg h1, if_neg h1, h2, h3]; exact ⟨rfl, rfl⟩
 ·rw [if_neg h1, if_neg h1, h2, h3]; exact ⟨rfl, rfl⟩
theorem f2_s {T : List ByteArray} {k : Int} {p : PS} (h : (f2 T k p).f = false) : p.f = false := by unfold f2 at h; split at h; exact nameP_s h; exact h
theorem f3_s {T : List ByteArray} {k : Int} {p : PS} (h : (f3 T k p).f = false) : p.f = false := by
 unfold f3 at h
 split at h
 ·exact namesP_s h
 ·split at h
  ·exact nameP_s h
  ·exact h
theorem f4_s {T : List ByteArray} {k : Int} {p : PS} (h : (f4 T k p).f = false) : p.f = false := by unfold f4 at h; split at h; exact numP_s h; exact h
theorem f5_s {T : List ByteArray} {k : Int} {p : PS} (h : (f5 T k p).f = false) : p.f = false := by unfold f5 at h; split at h; exact numP_s h; exact h
theorem f6_s {T : List ByteArray} {k : Int} {p : PS} (h : (f6 T k p).2.f = false) : p.f = false := by
 unfold f6 at h
 split at h
 ·exact cntP_s (picks_s _ _ _ h)
 ·exact h
theorem fieldP_s {T : List ByteArray} {p : PS} (h : (fieldP T p).f = false) : p.f = false := by
 unfold fieldP at h
 have h1 := f2_s (f3_s (f4_s (f5_s (f6_s h))))
 unfold f1 at h1
 exact nameP_s (p := ⟨p.i + 1, p.f⟩) h1
theorem fieldGo_cmp {T : List ByteArray} {p : PS} (hB : fieldB T p = true) : (fieldGo T p).2 = fieldP T p ∧ ((fieldP T p).f = false → (fieldGo T p).1 = fieldV T p) := by
 have h0 : 0 ≤ wordV T p := of_decide_eq_true hB
 have h8 := (wordV_in h0).1
 obtain ⟨k, hk⟩ : ∃ k : Nat, wordV T p = (k : Int) := Int.eq_ofNat_of_zero_le h0
 obtain ⟨x, hx⟩ : ∃ x, shpL[k]? = some x := ⟨_, List.getElem?_eq_getElem (by show k < 9; omega)⟩
 obtain ⟨hu, ho, hlo, hhi, hw⟩ := shp_uses k x hx
 have hgo : fieldGo T p = fieldG T k x ⟨p.i + 1, p.f⟩ := by
  unfold fieldGo
  rw [hk, show ((k : Int)).toNat = k by omega, List.getD_eq_getElem?_getD, hx]
  rfl
 obtain ⟨p0, hp0⟩ : ∃ q, q = (⟨p.i + 1, p.f⟩ : PS) := ⟨_, rfl⟩
 have e1 : f1 T p = nameP T p0 := by unfold f1; rw [hp0]
 have e2 : g2 T x p0 = f2 T k (f1 T p) := by unfold g2; rw [(use_up hu _).1, e1]
 have e3 : g3 T x p0 = f3 T k (f2 T k (f1 T p)) := by unfold g3; rw [(use_of ho _).1, e2]
 have e4 : g4 T x p0 = f4 T k (f3 T k (f2 T k (f1 T p))) := by
  unfold g4 f4
  rw [e3, hlo]
  simp only [decide_eq_true_eq]
 have e5 : g5 T x p0 = f5 T k (f4 T k (f3 T k (f2 T k (f1 T p)))) := by
  unfold g5 f5
  rw [e4, hhi]
  simp only [decide_eq_true_eq]
 obtain ⟨P5, hP5⟩ : ∃ q, q = f5 T k (f4 T k (f3 T k (f2 T k (f1 T p)))) := ⟨_, rfl⟩
 have e6 : (g6 T x p0).2 = (f6 T k P5).2 ∧ ((f6 T k P5).2.f = false → (g6 T x p0).1 = (f6 T k P5).1) := by
  unfold g6 f6
  rw [e5, ← hP5, hw]
  by_cases hww : x.words = true
  ·rw [if_pos hww, if_pos hww]
   cases hc : (cntP T P5).f with
   | true =>
    rw [picks_full _ [] _ hc, picksG_full _ [] _ hc]
    exact ⟨rfl, fun h => by rw [hc] at h; cases h⟩
   | false =>
    rw [cntG_v hc]
    exact ⟨(picksG_cmp _ _ _ _).1, fun h => (picksG_cmp _ _ _ _).2 h rfl⟩
  ·rw [if_neg hww, if_neg hww]
   exact ⟨rfl, fun _ => rfl⟩
 have hP : fieldP T p = (f6 T k P5).2 := by unfold fieldP; simp only [hk, ← hP5]
 rw [hgo, ← hp0, hP]
 refine ⟨e6.1, fun h => ?_⟩
 have s5 : P5.f = false := f6_s h
 have s4 : (f4 T k (f3 T k (f2 T k (f1 T p)))).f = false := f5_s (by rw [← hP5]; exact s5)
 have hi : (if 1 < x.numbers then numG T (g4 T x p0) else 0) = if usesHi k then numV T (f4 T k (f3 T k (f2 T k (f1 T p)))) else 0 := by
  rw [hhi, e4]
  by_cases hc : 1 < x.numbers
  ·rw [if_pos hc, if_pos (by simpa using hc)]
   refine numG_v ?_
   have : f5 T k (f4 T k (f3 T k (f2 T k (f1 T p)))) = numP T (f4 T k (f3 T k (f2 T k (f1 T p)))) := by unfold f5; rw [hhi, if_pos (by simpa using hc)]
   rw [← this, ← hP5]
   exact s5
  ·rw [if_neg hc, if_neg (by simpa using hc)]
 have lo : (if 0 < x.numbers then numG T (g3 T x p0) else 0) = if usesLo k then numV T (f3 T k (f2 T k (f1 T p))) else 0 := by
  rw [hlo, e3]
  by_cases hc : 0 < x.numbers
  ·rw [if_pos hc, if_pos (by simpa using hc)]
   refine numG_v ?_
   have : f4 T k (f3 T k (f2 T k (f1 T p))) = numP T (f3 T k (f2 T k (f1 T p))) := by unfold f4; rw [hlo, if_pos (by simpa using hc)]
   rw [← this]
   exact s4
  ·rw [if_neg hc, if_neg (by simpa using hc)]
 unfold fieldG fieldV
 simp only [hk, ← hP5]
 rw [lo, hi, e6.2 h, (use_up hu _).2, (use_of ho _).2, e2, e1, hp0]

/-! ### Lists -/
section
variable {α : Type} {T : List ByteArray} {B : PS → Bool} {V V' : PS → α × PS}
theorem whileB_s (hs : ∀ p, B p = true → (V p).2.f = false → p.f = false) : ∀ (n : Nat) (a : List α) (p : PS), (whileB B V n a p).2.f = false → p.f = false := by
 intro n
 induction n with
 | zero => intro a p h; exact h
 | succ n ih =>
  intro a p h
  cases hb : B p with
  | true => rw [whileB_next _ _ _ hb] at h; exact hs p hb (ih _ _ h)
  | false => rw [whileB_end _ _ _ hb] at h; exact h
theorem whileB_cmp (hc : ∀ p, B p = true → (V p).2 = (V' p).2 ∧ ((V' p).2.f = false → (V p).1 = (V' p).1)) (hs : ∀ p, B p = true → (V' p).2.f = false → p.f = false) :
  ∀ (n : Nat) (a b : List α) (p : PS), (whileB B V n a p).2 = (whileB B V' n b p).2 ∧ ((whileB B V' n b p).2.f = false → a = b → (whileB B V n a p).1 = (whileB B V' n b p).1) := by
 intro n
 induction n with
 | zero => intro a b p; exact ⟨rfl, fun _ e => e⟩
 | succ n ih =>
  intro a b p
  cases hb : B p with
  | false => rw [whileB_end _ _ _ hb, whileB_end _ _ _ hb]; exact ⟨rfl, fun _ e => e⟩
  | true =>
   rw [whileB_next _ _ _ hb, whileB_next _ _ _ hb, (hc p hb).1]
   refine ⟨(ih _ _ _).1, fun h he => (ih _ _ _).2 h ?_⟩
   rw [he, (hc p hb).2 (whileB_s hs _ _ _ h)]
end
theorem whileL_B {α : Type} (T : List ByteArray) (wd : ByteArray) (V : PS → α × PS) : ∀ (n : Nat) (a : List α) (p : PS), whileL T wd V n a p = whileB (elB T wd) V n a p := by
 intro n
 induction n with
 | zero => intro a p; rfl
 | succ n ih => intro a p; unfold whileL whileB elB; split <;> first | exact ih _ _ | rfl
theorem fieldsL_B (T : List ByteArray) : ∀ (n : Nat) (a : List Fd) (p : PS), fieldsL T n a p = whileB (fieldB T) (fun p => (fieldV T p, fieldP T p)) n a p := by
 intro n
 induction n with
 | zero => intro a p; rfl
 | succ n ih =>
  intro a p
  by_cases h : wordV T p < 0
  ·rw [fieldsL_end T _ a p h, whileB_end _ _ _ (decide_eq_false (by omega))]
  ·rw [fieldsL_next T n a p h, whileB_next _ _ _ (decide_eq_true (by omega))]
   exact ih _ _
theorem movesL_B (T : List ByteArray) : ∀ (n : Nat) (a : List (Int × Int)) (p : PS), movesL T n a p = whileB (elB T moveWd) (fun p => (moveV T p, moveP T p)) n a p := by
 intro n
 induction n with
 | zero => intro a p; rfl
 | succ n ih => intro a p; unfold movesL whileB elB; split <;> first | exact ih _ _ | rfl
theorem elB_list {T : List ByteArray} {wd : ByteArray} {p : PS} (h : elB T wd p = true) : (look T p).toList = wd.toList := by unfold elB eqW at h; simpa using h
theorem elB_want {T : List ByteArray} {wd : ByteArray} {p : PS} (h : elB T wd p = true) (hw : wd.size ≠ 0) : wantP T wd p = ⟨p.i + 1, p.f⟩ ∧ p.f = false := ⟨(wantP_next (elB_list h) hw).1, (wantP_next (elB_list h) hw).2.1⟩
theorem move_cmp {T : List ByteArray} {p : PS} (h : elB T moveWd p = true) : (elV (moveGo T) p).2 = moveP T p ∧ ((moveP T p).f = false → (elV (moveGo T) p).1 = moveV T p) := by
 have e := (elB_want h (by decide)).1
 unfold elV moveGo moveP moveV
 rw [e]
 exact ⟨rfl, fun hf => by rw [numG_v hf, numG_v (numP_s hf)]⟩
theorem rule_cmp {T : List ByteArray} {p : PS} (h : elB T ruleWd p = true) : (elV (ruleGo T) p).2 = (ruleV T p).2 ∧ ((ruleV T p).2.f = false → (elV (ruleGo T) p).1 = (ruleV T p).1) := by
 have e := (elB_want h (by decide)).1
 unfold elV ruleGo ruleV
 simp only [e]
 exact ⟨trivial, fun hf => by rw [numG_v hf]⟩
theorem fields_cmp (T : List ByteArray) (p : PS) : (fieldsGo T p).2 = (fieldsL T (T.length + 1) [] p).2 ∧ ((fieldsL T (T.length + 1) [] p).2.f = false → (fieldsGo T p).1 = (fieldsL T (T.length + 1) [] p).1) := by
 rw [fieldsL_B]
 unfold fieldsGo
 have := whileB_cmp (B := fieldB T) (V := fieldGo T) (V' := fun p => (fieldV T p, fieldP T p)) (fun p hb => fieldGo_cmp hb) (fun p hb h => fieldP_s h) (T.length + 1) [] [] p
 exact ⟨this.1, fun h => this.2 h rfl⟩
theorem fieldsL_s {T : List ByteArray} {n : Nat} {a : List Fd} {p : PS} (h : (fieldsL T n a p).2.f = false) : p.f = false := by
 rw [fieldsL_B] at h
 exact whileB_s (B := fieldB T) (V := fun p => (fieldV T p, fieldP T p)) (fun p hb h => fieldP_s h) n a p h
theorem kind_cmp {T : List ByteArray} {p : PS} (h : elB T kindWd p = true) : (elV (kindGo T) p).2 = (kindV T p).2 ∧ ((kindV T p).2.f = false → (elV (kindGo T) p).1 = (kindV T p).1) := by
 have e := (elB_want h (by decide)).1
 unfold elV kindGo kindV
 simp only [e]
 have hc := fields_cmp T (numP T (numP T (nameP T ⟨p.i + 1, p.f⟩)))
 refine ⟨hc.1, fun hf => ?_⟩
 have s3 := fieldsL_s hf
 rw [hc.2 hf, numG_v s3, numG_v (numP_s s3)]
theorem statesG_full {T : List ByteArray} : ∀ (n : Nat) (a : List ByteArray) (p : PS), p.f = true → (statesG T n a p).2 = p := by
 intro n
 induction n with
 | zero => intro a p _; rfl
 | succ n ih =>
  intro a p h
  unfold statesG
  have e1 : nameP T p = p := takeP_fail T _ p h
  rw [e1]
  exact ih _ p h
theorem statesL_s {T : List ByteArray} : ∀ (n : Nat) (a : List ByteArray) (p : PS), (statesL T n a p).2.f = false → p.f = false := by
 intro n
 induction n with
 | zero => intro a p h; exact h
 | succ n ih =>
  intro a p h
  unfold statesL at h
  split at h
  ·exact h
  ·exact nameP_s (ih _ _ h)
theorem statesG_cmp {T : List ByteArray} : ∀ (n : Nat) (a : List ByteArray) (p : PS), (statesG T n a p).2 = (statesL T n a p).2 ∧ ((statesL T n a p).2.f = false → (statesG T n a p).1 = (statesL T n a p).1) := by
 intro n
 induction n with
 | zero => intro a p; exact ⟨rfl, fun _ => rfl⟩
 | succ n ih =>
  intro a p
  cases hf : p.f with
  | true =>
   have e : statesL T (n + 1) a p = (a, p) := by unfold statesL; rw [if_pos hf]
   rw [e, statesG_full _ a p hf]
   exact ⟨rfl, fun h => by rw [hf] at h; cases h⟩
  | false =>
   have e : statesL T (n + 1) a p = statesL T n (a ++ [nameW T p]) (nameP T p) := by
    conv => lhs; unfold statesL
    rw [if_neg (by rw [hf]; decide)]
   rw [e]
   exact ih _ _
theorem moves_cmp (T : List ByteArray) (p : PS) : (movesGo T p).2 = (movesL T (T.length + 1) [] p).2 ∧ ((movesL T (T.length + 1) [] p).2.f = false → (movesGo T p).1 = (movesL T (T.length + 1) [] p).1) := by
 rw [movesL_B]
 unfold movesGo
 have := whileB_cmp (B := elB T moveWd) (V := elV (moveGo T)) (V' := fun p => (moveV T p, moveP T p)) (fun p hb => move_cmp hb) (fun p hb h => wantP_s (numP_s (numP_s h))) (T.length + 1) [] [] p
 exact ⟨this.1, fun h => this.2 h rfl⟩
theorem movesL_s {T : List ByteArray} {n : Nat} {a : List (Int × Int)} {p : PS} (h : (movesL T n a p).2.f = false) : p.f = false := by
 rw [movesL_B] at h
 exact whileB_s (B := elB T moveWd) (V := fun p => (moveV T p, moveP T p)) (fun p hb h => wantP_s (numP_s (numP_s h))) n a p h
theorem life_cmp {T : List ByteArray} {p : PS} (h : elB T lifeWd p = true) : (elV (lifeGo T) p).2 = (lifeV T p).2 ∧ ((lifeV T p).2.f = false → (elV (lifeGo T) p).1 = (lifeV T p).1) := by
 have e := (elB_want h (by decide)).1
 unfold elV lifeGo lifeV statesGo
 simp only [e]
 obtain ⟨q1, hq1⟩ : ∃ q, q = nameP T ⟨p.i + 1, p.f⟩ := ⟨_, rfl⟩
 rw [← hq1]
 have hst : (statesG T (cntG T q1).toNat [] (cntP T q1)).2 = (statesL T (numV T q1).toNat [] (cntP T q1)).2 ∧ ((statesL T (numV T q1).toNat [] (cntP T q1)).2.f = false → (statesG T (cntG T q1).toNat [] (cntP T q1)).1 = (statesL T (numV T q1).toNat [] (cntP T q1)).1) := by
  cases hc : (cntP T q1).f with
  | true =>
   have e2 : ∀ n a, statesL T n a (cntP T q1) = (a, cntP T q1) := fun n a => by
    cases n with
    | zero => rfl
    | succ n => unfold statesL; rw [if_pos hc]
   rw [e2, statesG_full _ _ _ hc]
   exact ⟨rfl, fun h => by rw [hc] at h; cases h⟩
  | false => rw [cntG_v hc]; exact statesG_cmp _ _ _
 rw [hst.1]
 have hm := moves_cmp T (statesL T (numV T q1).toNat [] (cntP T q1)).2
 refine ⟨hm.1, fun hf => ?_⟩
 rw [hm.2 hf, hst.2 (movesL_s hf)]
theorem kindV_s {T : List ByteArray} {p : PS} (h : (kindV T p).2.f = false) : p.f = false := by
 unfold kindV at h
 exact wantP_s (nameP_s (numP_s (numP_s (fieldsL_s h))))
theorem lifeV_s {T : List ByteArray} {p : PS} (h : (lifeV T p).2.f = false) : p.f = false := by
 unfold lifeV at h
 exact wantP_s (nameP_s (cntP_s (statesL_s _ _ _ (movesL_s h))))
theorem ruleV_s {T : List ByteArray} {p : PS} (h : (ruleV T p).2.f = false) : p.f = false := by
 have h5 : (numP T (namesP T (namesP T (nameP T (nameP T (wantP T ruleWd p)))))).f = false := h
 have h4 := numP_s (p := namesP T (namesP T (nameP T (nameP T (wantP T ruleWd p))))) h5
 have h3 := namesP_s (p := namesP T (nameP T (nameP T (wantP T ruleWd p)))) h4
 have h2 := namesP_s (p := nameP T (nameP T (wantP T ruleWd p))) h3
 have h1 := nameP_s (p := nameP T (wantP T ruleWd p)) h2
 have h0 := nameP_s (p := wantP T ruleWd p) h1
 exact wantP_s h0
/-- What the program reads is what the reference reads, if nothing went wrong; where it stands is the same. -/
theorem schema_cmp (T : List ByteArray) : (schemaGo T ⟨0, false⟩).2 = (rulesR T).2 ∧ ((rulesR T).2.f = false → (schemaGo T ⟨0, false⟩).1 = scR T) := by
 have hk := whileB_cmp (B := elB T kindWd) (V := elV (kindGo T)) (V' := kindV T) (fun p hb => kind_cmp hb) (fun p hb h => kindV_s h) (T.length + 1) [] [] (numP T (headP T))
 have hl := whileB_cmp (B := elB T lifeWd) (V := elV (lifeGo T)) (V' := lifeV T) (fun p hb => life_cmp hb) (fun p hb h => lifeV_s h) (T.length + 1) [] [] (kindsR T).2
 have hr := whileB_cmp (B := elB T ruleWd) (V := elV (ruleGo T)) (V' := ruleV T) (fun p hb => rule_cmp hb) (fun p hb h => ruleV_s h) (T.length + 1) [] [] (livesR T).2
 have eh : headG T ⟨0, false⟩ = headP T := rfl
 have eK : whileB (elB T kindWd) (kindV T) (T.length + 1) [] (numP T (headP T)) = kindsR T := by unfold kindsR; rw [whileL_B]
 have eL : whileB (elB T lifeWd) (lifeV T) (T.length + 1) [] (kindsR T).2 = livesR T := by unfold livesR; rw [whileL_B]
 have eR : whileB (elB T ruleWd) (ruleV T) (T.length + 1) [] (livesR T).2 = rulesR T := by unfold rulesR; rw [whileL_B]
 rw [eK] at hk
 rw [eL] at hl
 rw [eR] at hr
 unfold schemaGo
 rw [eh]
 unfold kindsGo livesGo rulesGo
 rw [hk.1, hl.1, hr.1]
 refine ⟨rfl, fun hf => ?_⟩
 have sR : (livesR T).2.f = false := whileB_s (B := elB T ruleWd) (V := ruleV T) (fun p hb h => ruleV_s h) _ _ _ (by rw [eR]; exact hf)
 have sL : (kindsR T).2.f = false := whileB_s (B := elB T lifeWd) (V := lifeV T) (fun p hb h => lifeV_s h) _ _ _ (by rw [eL]; exact sR)
 have sK : (numP T (headP T)).f = false := whileB_s (B := elB T kindWd) (V := kindV T) (fun p hb h => kindV_s h) _ _ _ (by rw [eK]; exact sL)
 unfold scR
 rw [hk.2 sL rfl, hl.2 sR rfl, hr.2 hf rfl, numG_v sK]
theorem onG (T : List ByteArray) : OnG T T.length where
 fields q hq hb := by
  rw [(fieldGo_cmp hb).1]
  exact fieldP_on T q (wordV_in (of_decide_eq_true hb)).2.2
 moves q hq hb := by rw [(move_cmp hb).1]; exact moveP_on (elB_list hb)
 kinds q hq hb := by rw [(kind_cmp hb).1]; exact kindV_on (elB_list hb)
 lives q hq hb := by rw [(life_cmp hb).1]; exact lifeV_on (elB_list hb)
 rules q hq hb := by rw [(rule_cmp hb).1]; exact ruleV_on (elB_list hb)
end Sm
end Go.Proofs.YtkgddcemocfgfaaGreatDoor
end

