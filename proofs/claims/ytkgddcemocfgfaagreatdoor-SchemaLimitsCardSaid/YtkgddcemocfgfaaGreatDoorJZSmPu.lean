import Derived.Test.YtkgddcemocfgfaaGreatDoorJZFactsO
import Derived.Test.YtkgddcemocfgfaaGreatDoorJZSmPt

section
/- The reference's parser: Parse, the walk. -/


namespace Go.Proofs.YtkgddcemocfgfaaGreatDoor
open Go.RowKit
set_option linter.unusedVariables false
set_option linter.unusedSimpArgs false
set_option maxRecDepth 100000

def ScS (S : Nat → Prop) (w : World) (x : Sm.Sc) (c : List Value) : Prop := ∃ Ak ck Al cl Ar cr, c = [.int .i64 x.version, .slice Ak x.kinds.length ck, .slice Al x.lives.length cl, .slice Ar x.rules.length cr] ∧
 RowsS S (KdS S) w Ak x.kinds ∧ RowsS S (LfS S) w Al x.lives ∧ RowsS S (RuS S) w Ar x.rules ∧ x.kinds.length ≤ ck ∧ ck ≤ maxLen ∧ x.lives.length ≤ cl ∧ cl ≤ maxLen ∧ x.rules.length ≤ cr ∧ cr ≤ maxLen
def scZ : List Value := [.int .i64 0, .slice none 0 0, .slice none 0 0, .slice none 0 0]
/-- What Parse answers. -/
def PrA (r : Sm.Sc × Nat × Int) (W : World) (e : Ending) (w' : World) : Prop :=
 ∃ c, e = .returned (.tuple #[.agg c.toArray, .int .i64 r.2.1, .int .i64 r.2.2]) ∧ ScS (Fresh W w') w' r.1 c ∧ Below W.heap.size W w'
theorem info_kd : ((Tryz.prog.info? 63).map fun i => (i.zero, i.size, i.bytes)) = some (some (.agg kdZ.toArray), 4, 56) := by kernel_rfl
theorem info_lf : ((Tryz.prog.info? 67).map fun i => (i.zero, i.size, i.bytes)) = some (some (.agg lfZ.toArray), 3, 64) := by kernel_rfl
theorem info_ru : ((Tryz.prog.info? 70).map fun i => (i.zero, i.size, i.bytes)) = some (some (.agg ruZ.toArray), 5, 72) := by kernel_rfl

/-- Parse under way: the parser's variable, the schema's, the result's. -/
structure PrSt (s : ByteArray) (A : Option Addr) (cap : Nat) (ts : List (Nat × Nat)) (W : World) (rb pb fb : Nat) (q : Sm.PS) (cs : List Value) (w : World) : Prop where
 pa : PaAt pb s A cap ts q w
 bel : Below W.heap.size W w
 fld : Blk w fb cs 27
 res : Blk w rb scZ 27
 news : W.heap.size ≤ rb ∧ rb < pb ∧ pb < fb
section
variable {s : ByteArray} {A : Option Addr} {cap : Nat} {ts : List (Nat × Nat)} {W : World} {rb pb fb : Nat} {q q' : Sm.PS} {cs : List Value} {w w' : World} {row : Option Nat}
theorem PrSt.call (h : PrSt s A cap ts W rb pb fb q cs w) (ha : PaAt pb s A cap ts q' w') (hb : But pb w w') : PrSt s A cap ts W rb pb fb q' cs w' :=
 ⟨ha, h.bel.trans (hb.below (by have := h.news; omega) h.bel.size), h.fld.but hb (by have := h.news; omega), h.res.but hb (by have := h.news; omega), h.news⟩
theorem PrSt.set (h : PrSt s A cap ts W rb pb fb q cs w) (j : Nat) (v : Value) : PrSt s A cap ts W rb pb fb q (cs.set j v) (w.setCell ⟨fb, j, none⟩ v) :=
 ⟨h.pa.set _ _ (by have := h.news; show pb < fb; omega), h.bel.trans (((But.refl fb w).setCell ⟨fb, j, none⟩ v rfl).below (by have := h.news; omega) h.bel.size), h.fld.set j v, h.res.other _ _ (by have := h.news; show rb ≠ fb; omega), h.news⟩
theorem PrSt.grown (h : PrSt s A cap ts W rb pb fb q cs w) (hg : w.grownBy w' row) (hr : ∀ k, row = some k → fb < k) : PrSt s A cap ts W rb pb fb q cs w' :=
 ⟨h.pa.grown hg (fun k hk => by have := hr k hk; have := h.news; omega), h.bel.grown hg h.bel.size (fun k hk => by have := hr k hk; have := h.news; omega), h.fld.grown hg (fun x => by have := hr _ x; omega), h.res.grown hg (fun x => by have := hr _ x; have := h.news; omega), h.news⟩
end
theorem run_field_sc (W : World) (b i : Nat) (hi : i = 1 ∨ i = 2 ∨ i = 3) : (Instr.fieldAt 27 (.pointer (some ⟨b, 0, none⟩)) i).run Tryz.prog W = .ok (.pointer (some ⟨b, i, none⟩)) W := by
 rcases hi with rfl | rfl | rfl <;> go_simp
theorem run_load_kds (W : World) (a : Addr) (v : Value) (h : W.cell? a = some v) : (Instr.loadAt 23 (.pointer (some a))).run Tryz.prog W = .ok v W := by go_simp
theorem run_load_lfs (W : World) (a : Addr) (v : Value) (h : W.cell? a = some v) : (Instr.loadAt 24 (.pointer (some a))).run Tryz.prog W = .ok v W := by go_simp
theorem run_load_rus (W : World) (a : Addr) (v : Value) (h : W.cell? a = some v) : (Instr.loadAt 25 (.pointer (some a))).run Tryz.prog W = .ok v W := by go_simp
theorem run_build_kd (w : World) {S : Nat → Prop} {k : Sm.Kd} {c : List Value} (h : KdS S w k c) : (Instr.buildSlice 23 1 #[(0, .agg c.toArray)]).run Tryz.prog w = .ok (.slice (some ⟨w.heap.size, 0, none⟩) 1 1) (w.alloc (.cells c.toArray 63)) := by
 obtain ⟨A, cf, rfl, -⟩ := h
 generalize k.fields.length = n
 go_simp
theorem run_build_lf (w : World) {S : Nat → Prop} {k : Sm.Lf} {c : List Value} (h : LfS S w k c) : (Instr.buildSlice 24 1 #[(0, .agg c.toArray)]).run Tryz.prog w = .ok (.slice (some ⟨w.heap.size, 0, none⟩) 1 1) (w.alloc (.cells c.toArray 67)) := by
 obtain ⟨A, cf, A', cf', rfl, -⟩ := h
 generalize k.states.length = n
 generalize k.moves.length = m
 go_simp
theorem run_build_ru (w : World) {S : Nat → Prop} {k : Sm.Ru} {c : List Value} (h : RuS S w k c) : (Instr.buildSlice 25 1 #[(0, .agg c.toArray)]).run Tryz.prog w = .ok (.slice (some ⟨w.heap.size, 0, none⟩) 1 1) (w.alloc (.cells c.toArray 70)) := by
 unfold RuS at h
 subst h
 go_simp
theorem RuS.keep {S : Nat → Prop} {w w' : World} {k : Sm.Ru} {c : List Value} (h : RuS S w k c) (_ : KeepS S w w') : RuS S w' k c := h
theorem RuS.mono {S S' : Nat → Prop} {w : World} {k : Sm.Ru} {c : List Value} (h : RuS S w k c) (_ : ∀ k, S k → S' k) : RuS S' w k c := h
theorem KdS.one {S : Nat → Prop} {w : World} {k : Sm.Kd} {c : List Value} (h : KdS S w k c) : c.length = 4 ∧ ∀ u ∈ c, u.oneCell' = true := by
 obtain ⟨A, cf, rfl, -⟩ := h
 exact ⟨rfl, by intro u hu; simp at hu; rcases hu with rfl | rfl | rfl | rfl <;> rfl⟩
theorem LfS.one {S : Nat → Prop} {w : World} {k : Sm.Lf} {c : List Value} (h : LfS S w k c) : c.length = 3 ∧ ∀ u ∈ c, u.oneCell' = true := by
 obtain ⟨A, cf, A', cf', rfl, -⟩ := h
 exact ⟨rfl, by intro u hu; simp at hu; rcases hu with rfl | rfl | rfl <;> rfl⟩
theorem RuS.one {S : Nat → Prop} {w : World} {k : Sm.Ru} {c : List Value} (h : RuS S w k c) : c.length = 5 ∧ ∀ u ∈ c, u.oneCell' = true := by
 unfold RuS at h
 subst h
 exact ⟨rfl, by intro u hu; simp at hu; rcases hu with rfl | rfl | rfl | rfl | rfl <;> rfl⟩
theorem ruA_c {pb : Nat} {s : ByteArray} {A : Option Addr} {cap : Nat} {ts : List (Nat × Nat)} {r : Sm.Ru} {p : Sm.PS} {W : World} {e : Ending} {w' : World} (h : RuA pb s A cap ts r p W e w') : ∃ c : List Value, e = .returned (.agg c.toArray) ∧ RuS (Fresh W w') w' r c ∧ PaAt pb s A cap ts p w' ∧ But pb W w' :=
 ⟨_, h.1, rfl, h.2.1, h.2.2⟩

theorem runs_ok {P : Program} {R : Value → World → Prop} {S : Sem Next} {v : Value} {w w' : World} (hr : S.run P w = .ok (.value v) w') (h : R v w') : Runs P R (S.run P w) := by
 rw [hr]; exact h
theorem results_cell_row_tmp2 {P : Program} {fn : Func} {p u x : Tmp} {ty : TypeId} (h : fn.results = #[.cell p ty, .tmp u, .tmp x]) (tmps : Array Value) (w : World) (g : Nat) (t : TypeId) (cs : Array Value) (fr : Nat × Nat) (d : TypeDesc)
  (hp : tmps.getD p undef = .pointer (some ⟨g, 0, none⟩)) (hg : w.heap[g]? = some (.cells cs t fr))
  (hu : P.underlying ty = some d) (hd : (match d with | .struct _ | .array _ _ => true | _ => false) = true) (hi : (P.info? ty).map (·.size) = some cs.size) :
  (results fn tmps).run P w = .ok (.tuple #[.agg cs, tmps.getD u undef, tmps.getD x undef]) w := by
 have e : (results fn tmps).run P w =
   ((asAddr (tmps.getD p undef)).run P w).andThen fun a w₁ => ((loadVar ty a).run P w₁).andThen fun v w₂ => .ok (.tuple #[v, tmps.getD u undef, tmps.getD x undef]) w₂ := by
  simp only [results, h]
  simp [Sem.run_bind, Result.andThen]
 rw [e, hp]
 simp [asAddr, run_loadVar_row w g t ty cs fr d hg hu hd hi]
theorem ScS.zero (S : Nat → Prop) (w : World) : ScS S w Sm.zeroSc scZ := ⟨none, 0, none, 0, none, 0, rfl, RowsS.nil, RowsS.nil, RowsS.nil, Nat.le_refl _, Nat.zero_le _, Nat.le_refl _, Nat.zero_le _, Nat.le_refl _, Nat.zero_le _⟩

set_option maxHeartbeats 8000000 in
theorem paParse_any (s : ByteArray) (W : World) : Calls Tryz.prog 27 #[.string s] W (PrA (Sm.parseR s) W) := by
 by_cases hs : 8192 < s.size
 ·have hZ : Sm.parseR s = (Sm.zeroSc, 8192, 4) := by unfold Sm.parseR; rw [if_pos hs]
  rw [hZ]
  have hI : (8192 : Int) < s.size := by omega
  have HA := Lib.hid (show Blk (W.alloc (.cells scZ.toArray 27)) W.heap.size scZ 27 from Blk.new W scZ _)
  have g0 := HA.out.frozen 0
  have g1 := HA.out.frozen 1
  have g2 := HA.out.frozen 2
  have g3 := HA.out.frozen 3
  clear hZ hs
  go_enter Tryz.func27, Tryz.ntmps27
  go_wp2_with fail
  exact bodyPost_ret (results_cell_row_tmp2 rfl _ _ W.heap.size 27 scZ.toArray (0, 0) _ rfl HA.out Tryz.underlying27 rfl (by kernel_rfl)) rfl
   ⟨scZ, rfl, ScS.zero _ _, (Below.refl _ W).alloc (Nat.le_refl _) _⟩
 ·have hs8 : s.size ≤ 8192 := by omega
  obtain ⟨ts, hts⟩ : ∃ l, l = (Sm.scan (sb s)).1 := ⟨_, rfl⟩
  obtain ⟨stop, hstop⟩ : ∃ n, n = (Sm.scan (sb s)).2 := ⟨_, rfl⟩
  have hok := Sm.scan_ok (sb s)
  have cS := fun V => paScan_any s V hs8
  rw [← hts, ← hstop, sb_len] at hok
  simp only [← hts, ← hstop] at cS
  obtain ⟨T, hT⟩ : ∃ T, T = tokT s ts := ⟨_, rfl⟩
  have hTl : T.length = ts.length := by rw [hT]; unfold tokT; rw [List.length_map]
  have hT8 : T.length ≤ 8192 := by rw [hTl]; omega
  have hfew := Sm.scR_few T hT8
  obtain ⟨Z, hZ⟩ : ∃ Z, Z = Sm.parseR s := ⟨_, rfl⟩
  rw [← hZ]
  have hq : Z = if (Sm.rulesR T).2.i < T.length then (Sm.zeroSc, (ts.getD (Sm.rulesR T).2.i (0, 0)).1, 2) else if (Sm.rulesR T).2.f = true ∨ stop < s.size then (Sm.zeroSc, stop, 2) else if Sm.validE (Sm.scR T) ≠ 0 then (Sm.zeroSc, 0, 4) else (Sm.scR T, 0, 0) := by
   rw [hZ]; unfold Sm.parseR
   rw [if_neg hs]
   simp only [← hts, ← hT, ← hstop]
  obtain ⟨q1, hq1⟩ : ∃ q, q = Sm.headP T := ⟨_, rfl⟩
  obtain ⟨q2, hq2⟩ : ∃ q, q = Sm.numP T q1 := ⟨_, rfl⟩
  have hq1' := hq1
  unfold Sm.headP at hq1'
  have b1 : q1.i ≤ T.length := by rw [hq1']; exact (Sm.wantP_on T _ _ (Nat.zero_le _)).2
  have b2 : q2.i ≤ T.length := by rw [hq2]; exact (Sm.numP_on T _ b1).2
  obtain ⟨RK, hRK⟩ : ∃ R, R = Sm.kindsR T := ⟨_, rfl⟩
  obtain ⟨RL, hRL⟩ : ∃ R, R = Sm.livesR T := ⟨_, rfl⟩
  obtain ⟨RR, hRR⟩ : ∃ R, R = Sm.rulesR T := ⟨_, rfl⟩
  obtain ⟨X, hX⟩ : ∃ X, X = Sm.scR T := ⟨_, rfl⟩
  obtain ⟨ver, hver⟩ : ∃ v, v = Sm.numV T q1 := ⟨_, rfl⟩
  have hXe : X = ⟨ver, RK.1, RL.1, RR.1⟩ := by rw [hX, hver, hRK, hRL, hRR, hq1]; rfl
  rw [← hRR, ← hX] at hq
  rw [← hX] at hfew
  have bRR : RR.2.i ≤ T.length := by rw [hRR]; exact Sm.rulesR_on T
  unfold Sm.kindsR at hRK
  rw [← hq1, ← hq2] at hRK
  have hRL' : RL = Sm.whileL T Sm.lifeWd (Sm.lifeV T) (T.length + 1) [] RK.2 := by rw [hRL]; unfold Sm.livesR Sm.kindsR; rw [← hq1, ← hq2, ← hRK]
  have hRR' : RR = Sm.whileL T Sm.ruleWd (Sm.ruleV T) (T.length + 1) [] RL.2 := by rw [hRR]; unfold Sm.rulesR; rw [← hRL]
  have bRK : RK.2.i ≤ T.length := by rw [hRK]; exact (Sm.whileL_on (fun p h hi => ⟨Nat.le_of_succ_le (Sm.kindV_on h).1, (Sm.kindV_on h).2⟩) _ _ _ b2).2
  have bRL : RL.2.i ≤ T.length := by rw [hRL']; exact (Sm.whileL_on (fun p h hi => ⟨Nat.le_of_succ_le (Sm.lifeV_on h).1, (Sm.lifeV_on h).2⟩) _ _ _ bRK).2
  have c0 := fun pb A cap V hV => paWant_any pb s A cap ts ⟨0, false⟩ V hV (by show 0 ≤ _; omega) Sm.schemaWd
  simp only [← hT, ← hq1'] at c0
  have c1 := fun pb A cap V hV => paNumber_any pb s A cap ts q1 V hV (by omega)
  simp only [← hT, ← hq2, ← hver] at c1
  have cL := fun pb A cap q V (hV : PaAt pb s A cap ts q V) (hq : q.i ≤ 1000000) => paLook_any pb s A cap ts q V hV hq
  have cK := fun pb A cap q V (hV : PaAt pb s A cap ts q V) (hq : q.i ≤ T.length) => paKind_any pb s A cap ts q V hV (by omega)
  have cF := fun pb A cap q V (hV : PaAt pb s A cap ts q V) (hq : q.i ≤ T.length) => paLife_any pb s A cap ts q V hV (by omega)
  have cR := fun pb A cap q V (hV : PaAt pb s A cap ts q V) (hq : q.i ≤ T.length) => paRule_any pb s A cap ts q V hV (by omega)
  simp only [← hT] at cL cK cF cR
  unfold Sm.schemaWd at c0
  have C0 := Lib.hid c0
  have C1 := Lib.hid c1
  have CL := Lib.hid cL
  have CK := Lib.hid cK
  have CF := Lib.hid cF
  have CR := Lib.hid cR
  have CS := Lib.hid cS
  have HK := Lib.hid (And.intro hRK b2)
  have HL := Lib.hid (And.intro hRL' bRK)
  have HR := Lib.hid (And.intro hRR' (And.intro bRL bRR))
  have HZ := Lib.hid (And.intro hq (And.intro hXe (And.intro hfew (And.intro hok (And.intro hTl hT8)))))
  clear hq hXe hfew hok hTl hT8 hZ hT hts hstop hq1 hq1' hq2 b1 b2 hRK hRL hRR hX hver bRR hRL' hRR' bRK bRL c0 c1 cL cK cF cR cS hs
  go_enter Tryz.func27, Tryz.ntmps27
  go_wp2_with fail
  refine (CS.out _).mono ?_
  rintro e w1 ⟨A, cap, rfl, hrd, hcap1, hcap2, hb⟩
  have HAB := Lib.hid (show ∀ b off, 0 < ts.length → A = some ⟨b, off, none⟩ → W.heap.size < b from fun b off hl hA => by
   obtain ⟨b', off', hA', hS, -⟩ := hrd (by rw [tokC_len]; omega)
   rw [hA] at hA'
   obtain ⟨rfl, -⟩ : b = b' ∧ off = off' := by simpa using hA'
   have := hS.1
   rw [World.size_alloc] at this
   omega)
  have hb1 : Below W.heap.size W w1 := ((Below.refl _ W).alloc (Nat.le_refl _) _).trans (hb.mono (by rw [World.size_alloc]; omega))
  have hres : Blk w1 W.heap.size scZ 27 := (Blk.new W scZ _).below hb (by rw [World.size_alloc]; omega)
  have hpa : PaAt w1.heap.size s A cap ts ⟨0, false⟩ (w1.alloc (.cells #[.string s, .slice A ts.length cap, .int .i64 0, .bool false] 106)) :=
   ⟨Blk.new w1 [.string s, .slice A ts.length cap, .int .i64 0, .bool false] _, ((hrd.rd (B := w1.heap.size) fun k hk => hk.2).below ((Below.refl _ _).alloc (Nat.le_refl _) _)), fun t ht => ⟨(HZ.out.2.2.2.1.2.2 t ht).1, (HZ.out.2.2.2.1.2.2 t ht).2⟩, hs8, by have := HZ.out.2.2.2.1; omega, hcap1, hcap2⟩
  have H1 := Lib.hid (And.intro hb1 (And.intro hres hpa))
  clear hb hb1 hrd hcap1 hcap2 hres hpa CS
  go_wp2_with fail
  obtain ⟨pb, hpb⟩ : ∃ n, n = w1.heap.size := ⟨_, rfl⟩
  rw [← hpb] at H1 ⊢
  have HPB := Lib.hid hpb
  clear hpb
  refine (C0.out pb A cap _ H1.out.2.2).mono ?_
  rintro e w2 ⟨rfl, ha, hb⟩
  have H2 := Lib.hid (And.intro ha hb)
  clear ha hb C0
  go_wp2_with fail
  refine (C1.out pb A cap _ H2.out.1).mono ?_
  rintro e w3 ⟨rfl, ha, hb⟩
  have hst : PrSt s A cap ts W W.heap.size pb w3.heap.size q2 [.int .i64 ver, .slice none 0 0, .slice none 0 0, .slice none 0 0] (w3.alloc (.cells #[.int .i64 ver, .slice none 0 0, .slice none 0 0, .slice none 0 0] 27)) := by
   have hbb := H2.out.2.trans hb
   have hrp : W.heap.size < pb := by rw [HPB.out]; exact H1.out.2.1.lt
   refine ⟨ha.alloc _, ?_, Blk.new w3 [.int .i64 ver, .slice none 0 0, .slice none 0 0, .slice none 0 0] _, (((H1.out.2.1.alloc _).but hbb (by omega))).alloc _, ⟨Nat.le_refl _, hrp, ha.blk.lt⟩⟩
   exact ((H1.out.1.alloc H1.out.1.size _).trans (hbb.below (by omega) (by rw [World.size_alloc]; have := H1.out.1.size; omega))).alloc (by have := hbb.size; have := H1.out.1.size; rw [World.size_alloc] at *; omega) _
  have HS00 := Lib.hid hst
  clear ha hb C1 H2 H1 hst
  go_wp2_with fail
  generalize w3.heap.size = fb at *
  obtain ⟨rb, hrb⟩ : ∃ n, n = W.heap.size := ⟨_, rfl⟩
  rw [← hrb] at HS00 ⊢
  have HRB := Lib.hid hrb
  clear hrb
  have HS0 := Lib.hid HS00.out
  clear HS00
  obtain ⟨w4, hw4⟩ : ∃ w, w = w3.alloc (.cells #[.int .i64 ver, .slice none 0 0, .slice none 0 0, .slice none 0 0] 27) := ⟨_, rfl⟩
  rw [← hw4] at HS0 ⊢
  clear hw4
  obtain ⟨B1, hB1⟩ : ∃ B, B = fb + 1 := ⟨_, rfl⟩
  obtain ⟨Stat1, hS1⟩ : ∃ P : World → Prop, P = fun _ => True := ⟨_, rfl⟩
  have HB1 := Lib.hid (show pb < B1 ∧ fb < B1 ∧ ∀ w w', Stat1 w → KeepS (fun k => fb + 1 ≤ k ∧ k < B1) w w' → Stat1 w' from ⟨by have := HS0.out.news; omega, by omega, fun _ _ _ _ => by rw [hS1]; trivial⟩)
  have HS1 := Lib.hid (show PrSt s A cap ts W rb pb fb q2 [.int .i64 ver, .slice none 0 0, .slice none 0 0, .slice none 0 0] w4 ∧ Stat1 w4 ∧ B1 ≤ w4.heap.size from ⟨HS0.out, by rw [hS1]; trivial, by rw [hB1]; exact HS0.out.fld.lt⟩)
  have HBE := Lib.hid hB1
  clear HS0 hS1 hB1
--LOOPS
  obtain ⟨i1, hi0, hz0, hz1, hz2⟩ := info_parts8 info_kd
  have HI1 := Lib.hid (And.intro hi0 (And.intro hz0 (And.intro hz1 hz2)))
  clear hi0 hz0 hz1 hz2
  go_loopg [27] (T.length + 1) (fun m z wr => ∃ (q : Sm.PS) (v : Value) (L : List _) (F : Nat), PrSt s A cap ts W rb pb fb q [.int .i64 ver, v, .slice none 0 0, .slice none 0 0] wr ∧ GRow KdS 63 4 B1 v L wr ∧ Stat1 wr ∧ B1 ≤ wr.heap.size ∧ RK = Sm.whileL T Sm.kindWd (Sm.kindV T) F L q ∧ q.i ≤ T.length ∧ T.length < q.i + F ∧ L.length ≤ q.i ∧ T.length + 1 - q.i ≤ m)
  case atStart => exact ⟨_, _, [], T.length + 1, HS1.out.1, GRow.nil _ _ _ _ _, HS1.out.2.1, HS1.out.2.2, HK.out.1, HK.out.2, by omega, Nat.zero_le _, by omega⟩
  case round =>
   clear HS1
   obtain ⟨q, v, L, F, hst, hrow, hsta, hBw, hR, hqi, hF, hL, hm⟩ := hrel
   obtain ⟨wo, rfl⟩ : ∃ wo : World, wo = wr := ⟨_, rfl⟩
   have HQ := Lib.hid (And.intro hst (And.intro hrow (And.intro hsta (And.intro hBw (And.intro hqi (And.intro hL (And.intro hm hF)))))))
   have cl := CL.out pb A cap q wo hst.pa (by have := HZ.out.2.2.2.2.2; omega)
   have hmo := fun (x : (Sm.look T q).toList = Sm.kindWd.toList) => Sm.kindV_on (T := T) (p := q) x
   have hme := fun (x : ¬ (Sm.look T q).toList = Sm.kindWd.toList) => Sm.whileL_end (T := T) (wd := Sm.kindWd) (V := Sm.kindV T) F L q x
   have hmn := fun (G : Nat) (x : (Sm.look T q).toList = Sm.kindWd.toList) => Sm.whileL_next (T := T) (wd := Sm.kindWd) (V := Sm.kindV T) G L q x
   obtain ⟨lw, hlw⟩ : ∃ z, z = Sm.look T q := ⟨_, rfl⟩
   rw [← hlw] at cl
   simp only [← hlw] at hmo hme hmn
   have CLq := Lib.hid cl
   have HRq := Lib.hid hR
   have HMo := Lib.hid hmo
   have HMe := Lib.hid hme
   have HMn := Lib.hid hmn
   clear hst hrow hsta hBw hqi hL hm hF cl hlw hR hmo hme hmn
   go_wp2_with fail
   refine CLq.out.mono ?_
   rintro e x5 ⟨rfl, hb⟩
   have hbb : But pb wo x5 := But.of hb
   have hst5 := HQ.out.1.call (HQ.out.1.pa.below hb) hbb
   have hrow5 := HQ.out.2.1.but (fun _ _ _ _ _ h k => h.keep k) (fun _ _ _ _ _ h k => h.mono k) hbb HB1.out.1
   have hsta5 := HB1.out.2.2 wo x5 HQ.out.2.2.1 fun a ha => hbb.cell (Nat.lt_of_lt_of_le ha.2 HQ.out.2.2.2.1) (by have := HQ.out.1.news; have := ha.1; omega)
   have H5 := Lib.hid (And.intro hst5 (And.intro hrow5 (And.intro hsta5 (Nat.le_trans HQ.out.2.2.2.1 hbb.size))))
   clear hst5 hrow5 hsta5 hb hbb CLq
   have HWd := Lib.hid (show Sm.kindWd.toList = [107, 105, 110, 100] by unfold Sm.kindWd; rw [Lib.toList_data])
   by_cases hmm : lw.toList = [107, 105, 110, 100]
   ·have hmm2 : lw.toList = Sm.kindWd.toList := by rw [HWd.out]; exact hmm
    have hon := HMo.out hmm2
    obtain ⟨F', rfl⟩ : ∃ F', F = F' + 1 := ⟨F - 1, by have := HQ.out.2.2.2.2.2.2.2; have := HQ.out.2.2.2.2.1; omega⟩
    have hnx := HRq.out
    rw [HMn.out F' hmm2] at hnx
    have cf := fun V hV => CK.out pb A cap q V hV HQ.out.2.2.2.2.1
    obtain ⟨fv, hfv⟩ : ∃ f, f = (Sm.kindV T q).1 := ⟨_, rfl⟩
    obtain ⟨qb, hqb⟩ : ∃ z, z = (Sm.kindV T q).2 := ⟨_, rfl⟩
    simp only [← hfv, ← hqb] at cf hnx hon
    have CFq := Lib.hid cf
    have HX := Lib.hid (And.intro hnx (And.intro hon (And.intro (show L.length + 1 ≤ qb.i by have := HQ.out.2.2.2.2.2.1; omega) (show L.length ≤ 8192 by have := HQ.out.2.2.2.2.2.1; have := HQ.out.2.2.2.2.1; have := HZ.out.2.2.2.2.2; omega))))
    clear cf hnx hon hfv hqb hmm2 HMo HMe HMn HWd
    go_wp2_with fail
    try go_frame
    refine wp_region_statelist [30, 31, 32, 33, 34] (fun d _ w' => But pb x5 w' ∧ PaAt pb s A cap ts (if d 3 = true then qb else q) w') (fun w' w'' => But pb w' w'' ∧ w'.heap.size ≤ w''.heap.size) [fun u _ => u = .pointer (some ⟨fb, 1, none⟩), fun u _ => u = v, fun u _ => u = .pointer (some ⟨pb, 0, none⟩), fun u w' => ∃ c, u = .agg c.toArray ∧ KdS (Fresh x5 w') w' fv c, fun u w' => ∃ c g, u = .slice (some ⟨g, 0, none⟩) 1 1 ∧ KdS (Fresh x5 w') w' fv c ∧ (∀ j v, c[j]? = some v → w'.cell? ⟨g, j, none⟩ = some v) ∧ x5.heap.size ≤ g ∧ g < w'.heap.size]
     (by
      intro f hf u w' w'' h hr
      have hpx : pb < x5.heap.size := H5.out.1.pa.blk.lt
      have hfr : ∀ c, KdS (Fresh x5 w') w' fv c → KdS (Fresh x5 w'') w'' fv c := fun c hc =>
       (hc.keep (w' := w'') fun a ha => hr.1.cell ha.2 (by have := ha.1; omega)).mono fun k hk => ⟨hk.1, Nat.lt_of_lt_of_le hk.2 hr.2⟩
      simp only [List.mem_cons, List.not_mem_nil, or_false] at hf
      rcases hf with rfl | rfl | rfl | rfl | rfl
      ·exact h
      ·exact h
      ·exact h
      ·obtain ⟨c, h1, h2⟩ := h
       exact ⟨c, h1, hfr c h2⟩
      ·obtain ⟨c, g, h1, h2, h3, h4, h5⟩ := h
       exact ⟨c, g, h1, hfr c h2, fun j v hj => (hr.1.cell (p := ⟨g, j, none⟩) h5 (by show g ≠ pb; omega)).trans (h3 j v hj), h4, Nat.lt_of_lt_of_le h5 hr.2⟩)
     (fun _ => ⟨(But.refl pb x5).drewn, H5.out.1.pa.drew⟩) (by kernel_rfl) (by kernel_rfl) ?_ ?_
    ·intro y hy d vals b w' hJ hu hd hall hx o ho
     match y, hy with
     | 0, _ =>
      obtain rfl := Option.some.inj ho
      have e : b.tmps.getD 8 undef = .pointer (some ⟨fb, 0, none⟩) := hx 8 rfl
      have hr := run_field_sc w' fb 1 (by decide)
      rw [← e] at hr
      exact runs_value rfl hr ⟨rfl, ⟨But.refl _ _, Nat.le_refl _⟩, hJ⟩
     | 1, _ =>
      obtain rfl := Option.some.inj ho
      have e : b.tmps.getD 30 undef = .pointer (some ⟨fb, 1, none⟩) := (hd 0 (by kernel_rfl) (by decide)).2
      have hr := run_load_kds w' ⟨fb, 1, none⟩ v ((H5.out.1.fld.but hJ.1 (by have := H5.out.1.news; omega)).cell 1 _ rfl)
      rw [← e] at hr
      exact runs_value rfl hr ⟨rfl, ⟨But.refl _ _, Nat.le_refl _⟩, hJ⟩
     | 2, _ =>
      obtain rfl := Option.some.inj ho
      exact ⟨hx 7 rfl, ⟨But.refl _ _, Nat.le_refl _⟩, hJ⟩
     | 3, _ =>
      obtain rfl := Option.some.inj ho
      have hu : d 3 = false := hu
      have e : b.tmps.getD 32 undef = .pointer (some ⟨pb, 0, none⟩) := (hd 2 (by kernel_rfl) (by decide)).2
      have hpa := hJ.2
      rw [hu] at hpa
      refine runs_call rfl (fun _ _ => rfl) ?_
      show Calls _ _ #[b.tmps.getD 32 undef] w' _
      rw [e]
      refine (CFq.out w' hpa).mono ?_
      rintro e w'' h
      obtain ⟨c, rfl, hc, ha, hb⟩ := h
      exact ⟨_, rfl, ⟨c, rfl, hc.mono fun k hk => ⟨Nat.le_trans hJ.1.size hk.1, hk.2⟩⟩, ⟨hb, hb.size⟩, hJ.1.trans hb, ha⟩
     | 4, _ =>
      obtain rfl := Option.some.inj ho
      obtain ⟨c, e, hfd⟩ := (hd 3 (by kernel_rfl) (by decide)).2
      have e : b.tmps.getD 33 undef = .agg c.toArray := e
      have hbs := run_build_kd w' hfd
      have hbel : Below w'.heap.size w' (w'.alloc (.cells c.toArray 63)) := (Below.refl _ _).alloc (Nat.le_refl _) _
      have hks : KeepS (Fresh x5 w') w' (w'.alloc (.cells c.toArray 63)) := fun a ha => hbel.cell ha.2
      have hnew := Blk.new w' c 63
      refine runs_value (X := Instr.buildSlice 23 1 #[(0, b.tmps.getD 33 undef)]) (by unfold execOp; simp [Act.eval]) (w' := w'.alloc (.cells c.toArray 63)) (by rw [e]; exact hbs) ⟨⟨c, w'.heap.size, rfl, (hfd.keep hks).mono fun k hk => ⟨hk.1, by rw [World.size_alloc]; have := hk.2; omega⟩, fun j v hj => hnew.cell j v hj, hJ.1.size, by rw [World.size_alloc]; omega⟩, ⟨But.of hbel, hbel.size⟩, hJ.1.trans (But.of hbel), hJ.2.below hbel⟩
    ·intro d vals w' hJ hall hf
     have v1 : vals 1 = v := hf 1 (by decide)
     obtain ⟨c, g, v4, hc, hcg, hg1, hg2⟩ := hf 4 (by decide)
     have hpa := hJ.2
     rw [hall 3 (by decide)] at hpa
     have hpa : PaAt pb s A cap ts qb w' := hpa
     simp only [puts, List.length_cons, List.length_nil, Nat.zero_add, Nat.reduceAdd, List.drop_succ_cons, List.drop_zero, v1, v4]
     have hst := H5.out.1.call hpa hJ.1
     obtain ⟨cs, hcs1, hcs2, hown⟩ := H5.out.2.1.but (fun _ _ _ _ _ h k => h.keep k) (fun _ _ _ _ _ h k => h.mono k) hJ.1 HB1.out.1
     obtain ⟨cs0, -, -, hown0⟩ := H5.out.2.1
     have hvl : ∀ k, v.ownBlock = some k → k < x5.heap.size := fun k hk => (hown0.lt k hk).2
     have hg3 : B1 ≤ w'.heap.size := Nat.le_trans H5.out.2.2.2 hJ.1.size
     have hsta := HB1.out.2.2 x5 w' H5.out.2.2.1 fun a ha => hJ.1.cell (Nat.lt_of_lt_of_le ha.2 H5.out.2.2.2) (by have := H5.out.1.news; have := ha.1; omega)
     have H8 := Lib.hid (And.intro hst (And.intro hcs1 (And.intro hcs2 (And.intro hown (And.intro hvl (And.intro hg3 (And.intro hsta (And.intro hc (And.intro hcg (And.intro hg1 hg2))))))))))
     clear v1 v4 hst hcs1 hcs2 hown hown0 hvl hsta hc hcg hpa hJ hall hf hg1 hg2 hg3
     have HC8 := Lib.hid (KdS.one H8.out.2.2.2.2.2.2.2.1)
     try go_frame
     refine wpList_append_own_at _ rfl (.tmp 31) (.tmp 34) 23 rfl B1 63 i1 (.agg kdZ.toArray) 4 56 Tryz.underlying23 HI1.out.1 HI1.out.2.1 HI1.out.2.2.1 HI1.out.2.2.2 rfl (by decide) v L.length cs.flatten rfl H8.out.2.2.2.1 ⟨g, 0, none⟩ 1 1 c rfl (by rw [HC8.out.1]) (fun j u hj => by
       have := H8.out.2.2.2.2.2.2.2.2.1 j u hj
       have e : (⟨g, 0, none⟩ : Addr).add j = ⟨g, j, none⟩ := by simp [Addr.add]; omega
       rw [e]
       exact this) HC8.out.2 (by have := HX.out.2.2.2; unfold maxLen; omega) (by have := HX.out.2.2.2; omega) H8.out.2.2.2.2.2.1 ?_
     intro v' w6 hown' hgrow _ hat
     have hrow' : GRow KdS 63 4 B1 v' (L ++ [fv]) w6 := GRow.snoc (fun _ _ _ _ _ h k => h.keep k) (fun _ _ _ _ _ h k => h.mono k) hgrow hat H8.out.2.2.2.2.2.2.2.1 H5.out.2.2.2 H8.out.2.2.2.2.1 cs H8.out.2.1 H8.out.2.2.1 hown'
     have hva := H8.out.1.grown hgrow (fun k hk => by have := (H8.out.2.2.2.1.lt k hk).1; have := HB1.out.2.1; omega)
     have hsta := HB1.out.2.2 w' w6 H8.out.2.2.2.2.2.2.1 fun a ha => by
      unfold World.cell?
      rw [hgrow.block a.block (Nat.lt_of_lt_of_le ha.2 H8.out.2.2.2.2.2.1) (fun x => by have := (H8.out.2.2.2.1.lt _ x.symm).1; have := ha.2; omega)]
     obtain ⟨nv, hnv⟩ : ∃ n, n = L.length + 1 := ⟨_, rfl⟩
     rw [← hnv] at hown'
     obtain ⟨Av, cv, rfl, -, -, -⟩ := own_rdB hown'
     have d3 := hva.fld.cell 1 _ rfl
     have e3 := hva.fld.frozen 1
     have HV := Lib.hid (And.intro hva (And.intro hrow' (And.intro hsta (Nat.le_trans H8.out.2.2.2.2.2.1 hgrow.size))))
     clear hown' hgrow hat hva hrow' hsta hnv
     go_wp2_with fail
     go_roundg (T.length + 1 - qb.i)
     case measure => have := HX.out.2.1; have := HQ.out.2.2.2.2.2.2.1; omega
     case rel =>
      exact ⟨qb, _, L ++ [fv], F', HV.out.1.set 1 _, HV.out.2.1.but (fun _ _ _ _ _ h k => h.keep k) (fun _ _ _ _ _ h k => h.mono k) (b := fb) ((But.refl fb w6).setCell _ _ rfl) HB1.out.2.1, HB1.out.2.2 w6 _ HV.out.2.2.1 (fun a ha => World.cell?_setCell_other _ _ _ _ (fun x => by rw [← x] at ha; have := ha.1; exact absurd this (Nat.not_succ_le_self fb))), by rw [size_setCell]; exact HV.out.2.2.2, HX.out.1, HX.out.2.1.2, by have := HX.out.2.1; have := HQ.out.2.2.2.2.2.2.2; omega, by rw [List.length_append]; exact HX.out.2.2.1, Nat.le_refl _⟩
   ·have hRR : RK = (L, q) := by rw [HRq.out, HMe.out (by rw [HWd.out]; exact hmm)]
    have hd2 : (lw.toList == [107, 105, 110, 100]) = false := by simpa using hmm
    obtain ⟨Ak, ck, rfl, hk1, hk2, hk3⟩ := H5.out.2.1.rows fun _ _ _ _ _ h k => h.mono k
    obtain ⟨nk, hnk⟩ : ∃ n, n = L.length := ⟨_, rfl⟩
    obtain ⟨B2, hB2⟩ : ∃ B, B = x5.heap.size := ⟨_, rfl⟩
    obtain ⟨Stat2, hS2⟩ : ∃ P : World → Prop, P = fun w => RowsS (fun k => fb + 1 ≤ k ∧ k < B2) (KdS fun k => fb + 1 ≤ k ∧ k < B2) w Ak RK.1 := ⟨_, rfl⟩
    have HB2 := Lib.hid (show pb < B2 ∧ fb < B2 ∧ ∀ w w', Stat2 w → KeepS (fun k => fb + 1 ≤ k ∧ k < B2) w w' → Stat2 w' from ⟨by rw [hB2]; exact H5.out.1.pa.blk.lt, by rw [hB2]; exact H5.out.1.fld.lt, fun w w' h k => by rw [hS2] at h ⊢; exact h.keep k fun _ _ h => h.keep k⟩)
    have HS2 := Lib.hid (show PrSt s A cap ts W rb pb fb RK.2 [.int .i64 ver, .slice Ak nk ck, .slice none 0 0, .slice none 0 0] x5 ∧ Stat2 x5 ∧ B2 ≤ x5.heap.size by
     refine ⟨?_, ?_, by rw [hB2]; exact Nat.le_refl _⟩
     ·rw [hRR, hnk]; exact H5.out.1
     ·rw [hS2, hRR, hB2]; have := HB1.out; subst_vars; exact hk1)
    have HN2 := Lib.hid (And.intro hS2 (And.intro (show nk = RK.1.length by rw [hRR, hnk]) (And.intro (show nk ≤ ck by rw [hnk]; exact hk2) hk3)))
    clear hk1 hk2 hk3 hnk hB2 hS2 hRR HRq HMo HMe HMn HWd HQ H5
    go_wp2_with fail
    obtain ⟨i2, hi0, hz0, hz1, hz2⟩ := info_parts8 info_lf
    have HI2 := Lib.hid (And.intro hi0 (And.intro hz0 (And.intro hz1 hz2)))
    clear hi0 hz0 hz1 hz2
    go_loopg [37] (T.length + 1) (fun m z wr => ∃ (q : Sm.PS) (v : Value) (L : List _) (F : Nat), PrSt s A cap ts W rb pb fb q [.int .i64 ver, .slice Ak nk ck, v, .slice none 0 0] wr ∧ GRow LfS 67 3 B2 v L wr ∧ Stat2 wr ∧ B2 ≤ wr.heap.size ∧ RL = Sm.whileL T Sm.lifeWd (Sm.lifeV T) F L q ∧ q.i ≤ T.length ∧ T.length < q.i + F ∧ L.length ≤ q.i ∧ T.length + 1 - q.i ≤ m)
    case atStart => exact ⟨_, _, [], T.length + 1, HS2.out.1, GRow.nil _ _ _ _ _, HS2.out.2.1, HS2.out.2.2, HL.out.1, HL.out.2, by omega, Nat.zero_le _, by omega⟩
    case round =>
     clear HS2
     obtain ⟨q, v, L, F, hst, hrow, hsta, hBw, hR, hqi, hF, hL, hm⟩ := hrel
     obtain ⟨wo, rfl⟩ : ∃ wo : World, wo = wr := ⟨_, rfl⟩
     have HQ := Lib.hid (And.intro hst (And.intro hrow (And.intro hsta (And.intro hBw (And.intro hqi (And.intro hL (And.intro hm hF)))))))
     have cl := CL.out pb A cap q wo hst.pa (by have := HZ.out.2.2.2.2.2; omega)
     have hmo := fun (x : (Sm.look T q).toList = Sm.lifeWd.toList) => Sm.lifeV_on (T := T) (p := q) x
     have hme := fun (x : ¬ (Sm.look T q).toList = Sm.lifeWd.toList) => Sm.whileL_end (T := T) (wd := Sm.lifeWd) (V := Sm.lifeV T) F L q x
     have hmn := fun (G : Nat) (x : (Sm.look T q).toList = Sm.lifeWd.toList) => Sm.whileL_next (T := T) (wd := Sm.lifeWd) (V := Sm.lifeV T) G L q x
     obtain ⟨lw, hlw⟩ : ∃ z, z = Sm.look T q := ⟨_, rfl⟩
     rw [← hlw] at cl
     simp only [← hlw] at hmo hme hmn
     have CLq := Lib.hid cl
     have HRq := Lib.hid hR
     have HMo := Lib.hid hmo
     have HMe := Lib.hid hme
     have HMn := Lib.hid hmn
     clear hst hrow hsta hBw hqi hL hm hF cl hlw hR hmo hme hmn
     go_wp2_with fail
     refine CLq.out.mono ?_
     rintro e x5 ⟨rfl, hb⟩
     have hbb : But pb wo x5 := But.of hb
     have hst5 := HQ.out.1.call (HQ.out.1.pa.below hb) hbb
     have hrow5 := HQ.out.2.1.but (fun _ _ _ _ _ h k => h.keep k) (fun _ _ _ _ _ h k => h.mono k) hbb HB2.out.1
     have hsta5 := HB2.out.2.2 wo x5 HQ.out.2.2.1 fun a ha => hbb.cell (Nat.lt_of_lt_of_le ha.2 HQ.out.2.2.2.1) (by have := HQ.out.1.news; have := ha.1; omega)
     have H5 := Lib.hid (And.intro hst5 (And.intro hrow5 (And.intro hsta5 (Nat.le_trans HQ.out.2.2.2.1 hbb.size))))
     clear hst5 hrow5 hsta5 hb hbb CLq
     have HWd := Lib.hid (show Sm.lifeWd.toList = [108, 105, 102, 101] by unfold Sm.lifeWd; rw [Lib.toList_data])
     by_cases hmm : lw.toList = [108, 105, 102, 101]
     ·have hmm2 : lw.toList = Sm.lifeWd.toList := by rw [HWd.out]; exact hmm
      have hon := HMo.out hmm2
      obtain ⟨F', rfl⟩ : ∃ F', F = F' + 1 := ⟨F - 1, by have := HQ.out.2.2.2.2.2.2.2; have := HQ.out.2.2.2.2.1; omega⟩
      have hnx := HRq.out
      rw [HMn.out F' hmm2] at hnx
      have cf := fun V hV => CF.out pb A cap q V hV HQ.out.2.2.2.2.1
      obtain ⟨fv, hfv⟩ : ∃ f, f = (Sm.lifeV T q).1 := ⟨_, rfl⟩
      obtain ⟨qb, hqb⟩ : ∃ z, z = (Sm.lifeV T q).2 := ⟨_, rfl⟩
      simp only [← hfv, ← hqb] at cf hnx hon
      have CFq := Lib.hid cf
      have HX := Lib.hid (And.intro hnx (And.intro hon (And.intro (show L.length + 1 ≤ qb.i by have := HQ.out.2.2.2.2.2.1; omega) (show L.length ≤ 8192 by have := HQ.out.2.2.2.2.2.1; have := HQ.out.2.2.2.2.1; have := HZ.out.2.2.2.2.2; omega))))
      clear cf hnx hon hfv hqb hmm2 HMo HMe HMn HWd
      go_wp2_with fail
      try go_frame
      refine wp_region_statelist [40, 41, 42, 43, 44] (fun d _ w' => But pb x5 w' ∧ PaAt pb s A cap ts (if d 3 = true then qb else q) w') (fun w' w'' => But pb w' w'' ∧ w'.heap.size ≤ w''.heap.size) [fun u _ => u = .pointer (some ⟨fb, 2, none⟩), fun u _ => u = v, fun u _ => u = .pointer (some ⟨pb, 0, none⟩), fun u w' => ∃ c, u = .agg c.toArray ∧ LfS (Fresh x5 w') w' fv c, fun u w' => ∃ c g, u = .slice (some ⟨g, 0, none⟩) 1 1 ∧ LfS (Fresh x5 w') w' fv c ∧ (∀ j v, c[j]? = some v → w'.cell? ⟨g, j, none⟩ = some v) ∧ x5.heap.size ≤ g ∧ g < w'.heap.size]
       (by
        intro f hf u w' w'' h hr
        have hpx : pb < x5.heap.size := H5.out.1.pa.blk.lt
        have hfr : ∀ c, LfS (Fresh x5 w') w' fv c → LfS (Fresh x5 w'') w'' fv c := fun c hc =>
         (hc.keep (w' := w'') fun a ha => hr.1.cell ha.2 (by have := ha.1; omega)).mono fun k hk => ⟨hk.1, Nat.lt_of_lt_of_le hk.2 hr.2⟩
        simp only [List.mem_cons, List.not_mem_nil, or_false] at hf
        rcases hf with rfl | rfl | rfl | rfl | rfl
        ·exact h
        ·exact h
        ·exact h
        ·obtain ⟨c, h1, h2⟩ := h
         exact ⟨c, h1, hfr c h2⟩
        ·obtain ⟨c, g, h1, h2, h3, h4, h5⟩ := h
         exact ⟨c, g, h1, hfr c h2, fun j v hj => (hr.1.cell (p := ⟨g, j, none⟩) h5 (by show g ≠ pb; omega)).trans (h3 j v hj), h4, Nat.lt_of_lt_of_le h5 hr.2⟩)
       (fun _ => ⟨(But.refl pb x5).drewn, H5.out.1.pa.drew⟩) (by kernel_rfl) (by kernel_rfl) ?_ ?_
      ·intro y hy d vals b w' hJ hu hd hall hx o ho
       match y, hy with
       | 0, _ =>
        obtain rfl := Option.some.inj ho
        have e : b.tmps.getD 8 undef = .pointer (some ⟨fb, 0, none⟩) := hx 8 rfl
        have hr := run_field_sc w' fb 2 (by decide)
        rw [← e] at hr
        exact runs_value rfl hr ⟨rfl, ⟨But.refl _ _, Nat.le_refl _⟩, hJ⟩
       | 1, _ =>
        obtain rfl := Option.some.inj ho
        have e : b.tmps.getD 40 undef = .pointer (some ⟨fb, 2, none⟩) := (hd 0 (by kernel_rfl) (by decide)).2
        have hr := run_load_lfs w' ⟨fb, 2, none⟩ v ((H5.out.1.fld.but hJ.1 (by have := H5.out.1.news; omega)).cell 2 _ rfl)
        rw [← e] at hr
        exact runs_value rfl hr ⟨rfl, ⟨But.refl _ _, Nat.le_refl _⟩, hJ⟩
       | 2, _ =>
        obtain rfl := Option.some.inj ho
        exact ⟨hx 7 rfl, ⟨But.refl _ _, Nat.le_refl _⟩, hJ⟩
       | 3, _ =>
        obtain rfl := Option.some.inj ho
        have hu : d 3 = false := hu
        have e : b.tmps.getD 42 undef = .pointer (some ⟨pb, 0, none⟩) := (hd 2 (by kernel_rfl) (by decide)).2
        have hpa := hJ.2
        rw [hu] at hpa
        refine runs_call rfl (fun _ _ => rfl) ?_
        show Calls _ _ #[b.tmps.getD 42 undef] w' _
        rw [e]
        refine (CFq.out w' hpa).mono ?_
        rintro e w'' h
        obtain ⟨c, rfl, hc, ha, hb⟩ := h
        exact ⟨_, rfl, ⟨c, rfl, hc.mono fun k hk => ⟨Nat.le_trans hJ.1.size hk.1, hk.2⟩⟩, ⟨hb, hb.size⟩, hJ.1.trans hb, ha⟩
       | 4, _ =>
        obtain rfl := Option.some.inj ho
        obtain ⟨c, e, hfd⟩ := (hd 3 (by kernel_rfl) (by decide)).2
        have e : b.tmps.getD 43 undef = .agg c.toArray := e
        have hbs := run_build_lf w' hfd
        have hbel : Below w'.heap.size w' (w'.alloc (.cells c.toArray 67)) := (Below.refl _ _).alloc (Nat.le_refl _) _
        have hks : KeepS (Fresh x5 w') w' (w'.alloc (.cells c.toArray 67)) := fun a ha => hbel.cell ha.2
        have hnew := Blk.new w' c 67
        refine runs_value (X := Instr.buildSlice 24 1 #[(0, b.tmps.getD 43 undef)]) (by unfold execOp; simp [Act.eval]) (w' := w'.alloc (.cells c.toArray 67)) (by rw [e]; exact hbs) ⟨⟨c, w'.heap.size, rfl, (hfd.keep hks).mono fun k hk => ⟨hk.1, by rw [World.size_alloc]; have := hk.2; omega⟩, fun j v hj => hnew.cell j v hj, hJ.1.size, by rw [World.size_alloc]; omega⟩, ⟨But.of hbel, hbel.size⟩, hJ.1.trans (But.of hbel), hJ.2.below hbel⟩
      ·intro d vals w' hJ hall hf
       have v1 : vals 1 = v := hf 1 (by decide)
       obtain ⟨c, g, v4, hc, hcg, hg1, hg2⟩ := hf 4 (by decide)
       have hpa := hJ.2
       rw [hall 3 (by decide)] at hpa
       have hpa : PaAt pb s A cap ts qb w' := hpa
       simp only [puts, List.length_cons, List.length_nil, Nat.zero_add, Nat.reduceAdd, List.drop_succ_cons, List.drop_zero, v1, v4]
       have hst := H5.out.1.call hpa hJ.1
       obtain ⟨cs, hcs1, hcs2, hown⟩ := H5.out.2.1.but (fun _ _ _ _ _ h k => h.keep k) (fun _ _ _ _ _ h k => h.mono k) hJ.1 HB2.out.1
       obtain ⟨cs0, -, -, hown0⟩ := H5.out.2.1
       have hvl : ∀ k, v.ownBlock = some k → k < x5.heap.size := fun k hk => (hown0.lt k hk).2
       have hg3 : B2 ≤ w'.heap.size := Nat.le_trans H5.out.2.2.2 hJ.1.size
       have hsta := HB2.out.2.2 x5 w' H5.out.2.2.1 fun a ha => hJ.1.cell (Nat.lt_of_lt_of_le ha.2 H5.out.2.2.2) (by have := H5.out.1.news; have := ha.1; omega)
       have H8 := Lib.hid (And.intro hst (And.intro hcs1 (And.intro hcs2 (And.intro hown (And.intro hvl (And.intro hg3 (And.intro hsta (And.intro hc (And.intro hcg (And.intro hg1 hg2))))))))))
       clear v1 v4 hst hcs1 hcs2 hown hown0 hvl hsta hc hcg hpa hJ hall hf hg1 hg2 hg3
       have HC8 := Lib.hid (LfS.one H8.out.2.2.2.2.2.2.2.1)
       try go_frame
       refine wpList_append_own_at _ rfl (.tmp 41) (.tmp 44) 24 rfl B2 67 i2 (.agg lfZ.toArray) 3 64 Tryz.underlying24 HI2.out.1 HI2.out.2.1 HI2.out.2.2.1 HI2.out.2.2.2 rfl (by decide) v L.length cs.flatten rfl H8.out.2.2.2.1 ⟨g, 0, none⟩ 1 1 c rfl (by rw [HC8.out.1]) (fun j u hj => by
         have := H8.out.2.2.2.2.2.2.2.2.1 j u hj
         have e : (⟨g, 0, none⟩ : Addr).add j = ⟨g, j, none⟩ := by simp [Addr.add]; omega
         rw [e]
         exact this) HC8.out.2 (by have := HX.out.2.2.2; unfold maxLen; omega) (by have := HX.out.2.2.2; omega) H8.out.2.2.2.2.2.1 ?_
       intro v' w6 hown' hgrow _ hat
       have hrow' : GRow LfS 67 3 B2 v' (L ++ [fv]) w6 := GRow.snoc (fun _ _ _ _ _ h k => h.keep k) (fun _ _ _ _ _ h k => h.mono k) hgrow hat H8.out.2.2.2.2.2.2.2.1 H5.out.2.2.2 H8.out.2.2.2.2.1 cs H8.out.2.1 H8.out.2.2.1 hown'
       have hva := H8.out.1.grown hgrow (fun k hk => by have := (H8.out.2.2.2.1.lt k hk).1; have := HB2.out.2.1; omega)
       have hsta := HB2.out.2.2 w' w6 H8.out.2.2.2.2.2.2.1 fun a ha => by
        unfold World.cell?
        rw [hgrow.block a.block (Nat.lt_of_lt_of_le ha.2 H8.out.2.2.2.2.2.1) (fun x => by have := (H8.out.2.2.2.1.lt _ x.symm).1; have := ha.2; omega)]
       obtain ⟨nv, hnv⟩ : ∃ n, n = L.length + 1 := ⟨_, rfl⟩
       rw [← hnv] at hown'
       obtain ⟨Av, cv, rfl, -, -, -⟩ := own_rdB hown'
       have d3 := hva.fld.cell 2 _ rfl
       have e3 := hva.fld.frozen 2
       have HV := Lib.hid (And.intro hva (And.intro hrow' (And.intro hsta (Nat.le_trans H8.out.2.2.2.2.2.1 hgrow.size))))
       clear hown' hgrow hat hva hrow' hsta hnv
       go_wp2_with fail
       go_roundg (T.length + 1 - qb.i)
       case measure => have := HX.out.2.1; have := HQ.out.2.2.2.2.2.2.1; omega
       case rel =>
        exact ⟨qb, _, L ++ [fv], F', HV.out.1.set 2 _, HV.out.2.1.but (fun _ _ _ _ _ h k => h.keep k) (fun _ _ _ _ _ h k => h.mono k) (b := fb) ((But.refl fb w6).setCell _ _ rfl) HB2.out.2.1, HB2.out.2.2 w6 _ HV.out.2.2.1 (fun a ha => World.cell?_setCell_other _ _ _ _ (fun x => by rw [← x] at ha; have := ha.1; exact absurd this (Nat.not_succ_le_self fb))), by rw [size_setCell]; exact HV.out.2.2.2, HX.out.1, HX.out.2.1.2, by have := HX.out.2.1; have := HQ.out.2.2.2.2.2.2.2; omega, by rw [List.length_append]; exact HX.out.2.2.1, Nat.le_refl _⟩
     ·have hRR : RL = (L, q) := by rw [HRq.out, HMe.out (by rw [HWd.out]; exact hmm)]
      have hd2 : (lw.toList == [108, 105, 102, 101]) = false := by simpa using hmm
      obtain ⟨Al, cl, rfl, hk1, hk2, hk3⟩ := H5.out.2.1.rows fun _ _ _ _ _ h k => h.mono k
      obtain ⟨nl, hnl⟩ : ∃ n, n = L.length := ⟨_, rfl⟩
      obtain ⟨B3, hB3⟩ : ∃ B, B = x5.heap.size := ⟨_, rfl⟩
      have hB23 : B2 ≤ B3 := by rw [hB3]; exact H5.out.2.2.2
      obtain ⟨Stat3, hS3⟩ : ∃ P : World → Prop, P = fun w => Stat2 w ∧ RowsS (fun k => B2 ≤ k ∧ k < B3) (LfS fun k => B2 ≤ k ∧ k < B3) w Al RL.1 := ⟨_, rfl⟩
      have HB3 := Lib.hid (show pb < B3 ∧ fb < B3 ∧ ∀ w w', Stat3 w → KeepS (fun k => fb + 1 ≤ k ∧ k < B3) w w' → Stat3 w' from ⟨by rw [hB3]; exact H5.out.1.pa.blk.lt, by rw [hB3]; exact H5.out.1.fld.lt, fun w w' h k => by
       rw [hS3] at h ⊢
       have hb2 := HB2.out.2.1
       have hk2 : KeepS (fun k => B2 ≤ k ∧ k < B3) w w' := fun a ha => k a ⟨Nat.lt_of_lt_of_le hb2 ha.1, ha.2⟩
       exact ⟨HB2.out.2.2 w w' h.1 fun a ha => k a ⟨ha.1, Nat.lt_of_lt_of_le ha.2 hB23⟩, h.2.keep hk2 fun _ _ h => h.keep hk2⟩⟩)
      have HS3 := Lib.hid (show PrSt s A cap ts W rb pb fb RL.2 [.int .i64 ver, .slice Ak nk ck, .slice Al nl cl, .slice none 0 0] x5 ∧ Stat3 x5 ∧ B3 ≤ x5.heap.size by
       refine ⟨?_, ?_, by rw [hB3]; exact Nat.le_refl _⟩
       ·rw [hRR, hnl]; exact H5.out.1
       ·rw [hS3, hRR, hB3]; exact ⟨H5.out.2.2.1, hk1⟩)
      have HN3 := Lib.hid (And.intro hS3 (And.intro (show nl = RL.1.length by rw [hRR, hnl]) (And.intro (show nl ≤ cl by rw [hnl]; exact hk2) (And.intro hk3 hB23))))
      clear hk1 hk2 hk3 hnl hB3 hS3 hB23 hRR HRq HMo HMe HMn HWd HQ H5
      go_wp2_with fail
      obtain ⟨i3, hi0, hz0, hz1, hz2⟩ := info_parts8 info_ru
      have HI3 := Lib.hid (And.intro hi0 (And.intro hz0 (And.intro hz1 hz2)))
      clear hi0 hz0 hz1 hz2
      go_loopg [47] (T.length + 1) (fun m z wr => ∃ (q : Sm.PS) (v : Value) (L : List _) (F : Nat), PrSt s A cap ts W rb pb fb q [.int .i64 ver, .slice Ak nk ck, .slice Al nl cl, v] wr ∧ GRow RuS 70 5 B3 v L wr ∧ Stat3 wr ∧ B3 ≤ wr.heap.size ∧ RR = Sm.whileL T Sm.ruleWd (Sm.ruleV T) F L q ∧ q.i ≤ T.length ∧ T.length < q.i + F ∧ L.length ≤ q.i ∧ T.length + 1 - q.i ≤ m)
      case atStart => exact ⟨_, _, [], T.length + 1, HS3.out.1, GRow.nil _ _ _ _ _, HS3.out.2.1, HS3.out.2.2, HR.out.1, HR.out.2.1, by omega, Nat.zero_le _, by omega⟩
      case round =>
       clear HS3
       obtain ⟨q, v, L, F, hst, hrow, hsta, hBw, hR, hqi, hF, hL, hm⟩ := hrel
       obtain ⟨wo, rfl⟩ : ∃ wo : World, wo = wr := ⟨_, rfl⟩
       have HQ := Lib.hid (And.intro hst (And.intro hrow (And.intro hsta (And.intro hBw (And.intro hqi (And.intro hL (And.intro hm hF)))))))
       have cl := CL.out pb A cap q wo hst.pa (by have := HZ.out.2.2.2.2.2; omega)
       have hmo := fun (x : (Sm.look T q).toList = Sm.ruleWd.toList) => Sm.ruleV_on (T := T) (p := q) x
       have hme := fun (x : ¬ (Sm.look T q).toList = Sm.ruleWd.toList) => Sm.whileL_end (T := T) (wd := Sm.ruleWd) (V := Sm.ruleV T) F L q x
       have hmn := fun (G : Nat) (x : (Sm.look T q).toList = Sm.ruleWd.toList) => Sm.whileL_next (T := T) (wd := Sm.ruleWd) (V := Sm.ruleV T) G L q x
       obtain ⟨lw, hlw⟩ : ∃ z, z = Sm.look T q := ⟨_, rfl⟩
       rw [← hlw] at cl
       simp only [← hlw] at hmo hme hmn
       have CLq := Lib.hid cl
       have HRq := Lib.hid hR
       have HMo := Lib.hid hmo
       have HMe := Lib.hid hme
       have HMn := Lib.hid hmn
       clear hst hrow hsta hBw hqi hL hm hF cl hlw hR hmo hme hmn
       go_wp2_with fail
       refine CLq.out.mono ?_
       rintro e x5 ⟨rfl, hb⟩
       have hbb : But pb wo x5 := But.of hb
       have hst5 := HQ.out.1.call (HQ.out.1.pa.below hb) hbb
       have hrow5 := HQ.out.2.1.but (fun _ _ _ _ _ h k => h.keep k) (fun _ _ _ _ _ h k => h.mono k) hbb HB3.out.1
       have hsta5 := HB3.out.2.2 wo x5 HQ.out.2.2.1 fun a ha => hbb.cell (Nat.lt_of_lt_of_le ha.2 HQ.out.2.2.2.1) (by have := HQ.out.1.news; have := ha.1; omega)
       have H5 := Lib.hid (And.intro hst5 (And.intro hrow5 (And.intro hsta5 (Nat.le_trans HQ.out.2.2.2.1 hbb.size))))
       clear hst5 hrow5 hsta5 hb hbb CLq
       have HWd := Lib.hid (show Sm.ruleWd.toList = [114, 117, 108, 101] by unfold Sm.ruleWd; rw [Lib.toList_data])
       by_cases hmm : lw.toList = [114, 117, 108, 101]
       ·have hmm2 : lw.toList = Sm.ruleWd.toList := by rw [HWd.out]; exact hmm
        have hon := HMo.out hmm2
        obtain ⟨F', rfl⟩ : ∃ F', F = F' + 1 := ⟨F - 1, by have := HQ.out.2.2.2.2.2.2.2; have := HQ.out.2.2.2.2.1; omega⟩
        have hnx := HRq.out
        rw [HMn.out F' hmm2] at hnx
        have cf := fun V hV => CR.out pb A cap q V hV HQ.out.2.2.2.2.1
        obtain ⟨fv, hfv⟩ : ∃ f, f = (Sm.ruleV T q).1 := ⟨_, rfl⟩
        obtain ⟨qb, hqb⟩ : ∃ z, z = (Sm.ruleV T q).2 := ⟨_, rfl⟩
        simp only [← hfv, ← hqb] at cf hnx hon
        have CFq := Lib.hid cf
        have HX := Lib.hid (And.intro hnx (And.intro hon (And.intro (show L.length + 1 ≤ qb.i by have := HQ.out.2.2.2.2.2.1; omega) (show L.length ≤ 8192 by have := HQ.out.2.2.2.2.2.1; have := HQ.out.2.2.2.2.1; have := HZ.out.2.2.2.2.2; omega))))
        clear cf hnx hon hfv hqb hmm2 HMo HMe HMn HWd
        go_wp2_with fail
        try go_frame
        refine wp_region_statelist [50, 51, 52, 53, 54] (fun d _ w' => But pb x5 w' ∧ PaAt pb s A cap ts (if d 3 = true then qb else q) w') (fun w' w'' => But pb w' w'' ∧ w'.heap.size ≤ w''.heap.size) [fun u _ => u = .pointer (some ⟨fb, 3, none⟩), fun u _ => u = v, fun u _ => u = .pointer (some ⟨pb, 0, none⟩), fun u w' => ∃ c, u = .agg c.toArray ∧ RuS (Fresh x5 w') w' fv c, fun u w' => ∃ c g, u = .slice (some ⟨g, 0, none⟩) 1 1 ∧ RuS (Fresh x5 w') w' fv c ∧ (∀ j v, c[j]? = some v → w'.cell? ⟨g, j, none⟩ = some v) ∧ x5.heap.size ≤ g ∧ g < w'.heap.size]
         (by
          intro f hf u w' w'' h hr
          have hpx : pb < x5.heap.size := H5.out.1.pa.blk.lt
          have hfr : ∀ c, RuS (Fresh x5 w') w' fv c → RuS (Fresh x5 w'') w'' fv c := fun c hc =>
           (hc.keep (w' := w'') fun a ha => hr.1.cell ha.2 (by have := ha.1; omega)).mono fun k hk => ⟨hk.1, Nat.lt_of_lt_of_le hk.2 hr.2⟩
          simp only [List.mem_cons, List.not_mem_nil, or_false] at hf
          rcases hf with rfl | rfl | rfl | rfl | rfl
          ·exact h
          ·exact h
          ·exact h
          ·obtain ⟨c, h1, h2⟩ := h
           exact ⟨c, h1, hfr c h2⟩
          ·obtain ⟨c, g, h1, h2, h3, h4, h5⟩ := h
           exact ⟨c, g, h1, hfr c h2, fun j v hj => (hr.1.cell (p := ⟨g, j, none⟩) h5 (by show g ≠ pb; omega)).trans (h3 j v hj), h4, Nat.lt_of_lt_of_le h5 hr.2⟩)
         (fun _ => ⟨(But.refl pb x5).drewn, H5.out.1.pa.drew⟩) (by kernel_rfl) (by kernel_rfl) ?_ ?_
        ·intro y hy d vals b w' hJ hu hd hall hx o ho
         match y, hy with
         | 0, _ =>
          obtain rfl := Option.some.inj ho
          have e : b.tmps.getD 8 undef = .pointer (some ⟨fb, 0, none⟩) := hx 8 rfl
          have hr := run_field_sc w' fb 3 (by decide)
          rw [← e] at hr
          exact runs_value rfl hr ⟨rfl, ⟨But.refl _ _, Nat.le_refl _⟩, hJ⟩
         | 1, _ =>
          obtain rfl := Option.some.inj ho
          have e : b.tmps.getD 50 undef = .pointer (some ⟨fb, 3, none⟩) := (hd 0 (by kernel_rfl) (by decide)).2
          have hr := run_load_rus w' ⟨fb, 3, none⟩ v ((H5.out.1.fld.but hJ.1 (by have := H5.out.1.news; omega)).cell 3 _ rfl)
          rw [← e] at hr
          exact runs_value rfl hr ⟨rfl, ⟨But.refl _ _, Nat.le_refl _⟩, hJ⟩
         | 2, _ =>
          obtain rfl := Option.some.inj ho
          exact ⟨hx 7 rfl, ⟨But.refl _ _, Nat.le_refl _⟩, hJ⟩
         | 3, _ =>
          obtain rfl := Option.some.inj ho
          have hu : d 3 = false := hu
          have e : b.tmps.getD 52 undef = .pointer (some ⟨pb, 0, none⟩) := (hd 2 (by kernel_rfl) (by decide)).2
          have hpa := hJ.2
          rw [hu] at hpa
          refine runs_call rfl (fun _ _ => rfl) ?_
          show Calls _ _ #[b.tmps.getD 52 undef] w' _
          rw [e]
          refine (CFq.out w' hpa).mono ?_
          rintro e w'' h
          obtain ⟨c, rfl, hc, ha, hb⟩ := ruA_c h
          exact ⟨_, rfl, ⟨c, rfl, hc.mono fun k hk => ⟨Nat.le_trans hJ.1.size hk.1, hk.2⟩⟩, ⟨hb, hb.size⟩, hJ.1.trans hb, ha⟩
         | 4, _ =>
          obtain rfl := Option.some.inj ho
          obtain ⟨c, e, hfd⟩ := (hd 3 (by kernel_rfl) (by decide)).2
          have e : b.tmps.getD 53 undef = .agg c.toArray := e
          have hbs := run_build_ru w' hfd
          have hbel : Below w'.heap.size w' (w'.alloc (.cells c.toArray 70)) := (Below.refl _ _).alloc (Nat.le_refl _) _
          have hks : KeepS (Fresh x5 w') w' (w'.alloc (.cells c.toArray 70)) := fun a ha => hbel.cell ha.2
          have hnew := Blk.new w' c 70
          refine runs_value (X := Instr.buildSlice 25 1 #[(0, b.tmps.getD 53 undef)]) (by unfold execOp; simp [Act.eval]) (w' := w'.alloc (.cells c.toArray 70)) (by rw [e]; exact hbs) ⟨⟨c, w'.heap.size, rfl, (hfd.keep hks).mono fun k hk => ⟨hk.1, by rw [World.size_alloc]; have := hk.2; omega⟩, fun j v hj => hnew.cell j v hj, hJ.1.size, by rw [World.size_alloc]; omega⟩, ⟨But.of hbel, hbel.size⟩, hJ.1.trans (But.of hbel), hJ.2.below hbel⟩
        ·intro d vals w' hJ hall hf
         have v1 : vals 1 = v := hf 1 (by decide)
         obtain ⟨c, g, v4, hc, hcg, hg1, hg2⟩ := hf 4 (by decide)
         have hpa := hJ.2
         rw [hall 3 (by decide)] at hpa
         have hpa : PaAt pb s A cap ts qb w' := hpa
         simp only [puts, List.length_cons, List.length_nil, Nat.zero_add, Nat.reduceAdd, List.drop_succ_cons, List.drop_zero, v1, v4]
         have hst := H5.out.1.call hpa hJ.1
         obtain ⟨cs, hcs1, hcs2, hown⟩ := H5.out.2.1.but (fun _ _ _ _ _ h k => h.keep k) (fun _ _ _ _ _ h k => h.mono k) hJ.1 HB3.out.1
         obtain ⟨cs0, -, -, hown0⟩ := H5.out.2.1
         have hvl : ∀ k, v.ownBlock = some k → k < x5.heap.size := fun k hk => (hown0.lt k hk).2
         have hg3 : B3 ≤ w'.heap.size := Nat.le_trans H5.out.2.2.2 hJ.1.size
         have hsta := HB3.out.2.2 x5 w' H5.out.2.2.1 fun a ha => hJ.1.cell (Nat.lt_of_lt_of_le ha.2 H5.out.2.2.2) (by have := H5.out.1.news; have := ha.1; omega)
         have H8 := Lib.hid (And.intro hst (And.intro hcs1 (And.intro hcs2 (And.intro hown (And.intro hvl (And.intro hg3 (And.intro hsta (And.intro hc (And.intro hcg (And.intro hg1 hg2))))))))))
         clear v1 v4 hst hcs1 hcs2 hown hown0 hvl hsta hc hcg hpa hJ hall hf hg1 hg2 hg3
         have HC8 := Lib.hid (RuS.one H8.out.2.2.2.2.2.2.2.1)
         try go_frame
         refine wpList_append_own_at _ rfl (.tmp 51) (.tmp 54) 25 rfl B3 70 i3 (.agg ruZ.toArray) 5 72 Tryz.underlying25 HI3.out.1 HI3.out.2.1 HI3.out.2.2.1 HI3.out.2.2.2 rfl (by decide) v L.length cs.flatten rfl H8.out.2.2.2.1 ⟨g, 0, none⟩ 1 1 c rfl (by rw [HC8.out.1]) (fun j u hj => by
           have := H8.out.2.2.2.2.2.2.2.2.1 j u hj
           have e : (⟨g, 0, none⟩ : Addr).add j = ⟨g, j, none⟩ := by simp [Addr.add]; omega
           rw [e]
           exact this) HC8.out.2 (by have := HX.out.2.2.2; unfold maxLen; omega) (by have := HX.out.2.2.2; omega) H8.out.2.2.2.2.2.1 ?_
         intro v' w6 hown' hgrow _ hat
         have hrow' : GRow RuS 70 5 B3 v' (L ++ [fv]) w6 := GRow.snoc (fun _ _ _ _ _ h k => h.keep k) (fun _ _ _ _ _ h k => h.mono k) hgrow hat H8.out.2.2.2.2.2.2.2.1 H5.out.2.2.2 H8.out.2.2.2.2.1 cs H8.out.2.1 H8.out.2.2.1 hown'
         have hva := H8.out.1.grown hgrow (fun k hk => by have := (H8.out.2.2.2.1.lt k hk).1; have := HB3.out.2.1; omega)
         have hsta := HB3.out.2.2 w' w6 H8.out.2.2.2.2.2.2.1 fun a ha => by
          unfold World.cell?
          rw [hgrow.block a.block (Nat.lt_of_lt_of_le ha.2 H8.out.2.2.2.2.2.1) (fun x => by have := (H8.out.2.2.2.1.lt _ x.symm).1; have := ha.2; omega)]
         obtain ⟨nv, hnv⟩ : ∃ n, n = L.length + 1 := ⟨_, rfl⟩
         rw [← hnv] at hown'
         obtain ⟨Av, cv, rfl, -, -, -⟩ := own_rdB hown'
         have d3 := hva.fld.cell 3 _ rfl
         have e3 := hva.fld.frozen 3
         have HV := Lib.hid (And.intro hva (And.intro hrow' (And.intro hsta (Nat.le_trans H8.out.2.2.2.2.2.1 hgrow.size))))
         clear hown' hgrow hat hva hrow' hsta hnv
         go_wp2_with fail
         go_roundg (T.length + 1 - qb.i)
         case measure => have := HX.out.2.1; have := HQ.out.2.2.2.2.2.2.1; omega
         case rel =>
          exact ⟨qb, _, L ++ [fv], F', HV.out.1.set 3 _, HV.out.2.1.but (fun _ _ _ _ _ h k => h.keep k) (fun _ _ _ _ _ h k => h.mono k) (b := fb) ((But.refl fb w6).setCell _ _ rfl) HB3.out.2.1, HB3.out.2.2 w6 _ HV.out.2.2.1 (fun a ha => World.cell?_setCell_other _ _ _ _ (fun x => by rw [← x] at ha; have := ha.1; exact absurd this (Nat.not_succ_le_self fb))), by rw [size_setCell]; exact HV.out.2.2.2, HX.out.1, HX.out.2.1.2, by have := HX.out.2.1; have := HQ.out.2.2.2.2.2.2.2; omega, by rw [List.length_append]; exact HX.out.2.2.1, Nat.le_refl _⟩
       ·have hRR : RR = (L, q) := by rw [HRq.out, HMe.out (by rw [HWd.out]; exact hmm)]
        have hd2 : (lw.toList == [114, 117, 108, 101]) = false := by simpa using hmm
        obtain ⟨Ar, cr, rfl, hk1, hk2, hk3⟩ := H5.out.2.1.rows fun _ _ _ _ _ h k => h.mono k
        obtain ⟨nr, hnr⟩ : ∃ n, n = L.length := ⟨_, rfl⟩
        have HS4 := Lib.hid (show PrSt s A cap ts W rb pb fb RR.2 [.int .i64 ver, .slice Ak nk ck, .slice Al nl cl, .slice Ar nr cr] x5 ∧ Stat3 x5 ∧ RowsS (fun k => B3 ≤ k ∧ k < x5.heap.size) (RuS fun k => B3 ≤ k ∧ k < x5.heap.size) x5 Ar RR.1 ∧ nr = RR.1.length ∧ nr ≤ cr ∧ cr ≤ maxLen ∧ B3 ≤ x5.heap.size by
         rw [hRR, hnr]
         exact ⟨H5.out.1, H5.out.2.2.1, hk1, rfl, hk2, hk3, H5.out.2.2.2⟩)
        clear hk1 hk2 hk3 hnr hRR HRq HMo HMe HMn HWd HQ H5
        obtain ⟨pi, hpi⟩ : ∃ n, n = RR.2.i := ⟨_, rfl⟩
        obtain ⟨pf, hpf⟩ : ∃ b, b = RR.2.f := ⟨_, rfl⟩
        have hpx := HS4.out.1.pa.blk.lt
        have q0 : ∀ q : BelS x5.heap.size x5, q.at.cell? ⟨pb, 1, none⟩ = some (.slice A ts.length cap) := fun q => (HS4.out.1.pa.blk.below q.out hpx).cell 1 _ rfl
        have q1 : ∀ q : BelS x5.heap.size x5, q.at.cell? ⟨pb, 2, none⟩ = some (.int .i64 pi) := fun q => by
         rw [hpi]; exact (HS4.out.1.pa.blk.below q.out hpx).cell 2 _ rfl
        have HPI := Lib.hid (And.intro hpi hpf)
        clear hpx hpi hpf
        go_wp2_with fail
        refine wp_region_headB 9 x5.heap.size (by kernel_rfl) (by kernel_rfl) ?_
        dsimp only [List.take, List.drop]
        repeat (go_big_quiet_step (fail))
        refine wpQuiet_nil ?_
        intro w2' hw'
        obtain ⟨q, rfl⟩ := hw'
        have hb6 := q.out
        obtain ⟨x6, hx6⟩ : ∃ w, w = q.at := ⟨_, rfl⟩
        rw [← hx6] at hb6 ⊢
        clear q0 q1 hd2 hx6 q
        obtain ⟨nt, hnt⟩ : ∃ n, n = ts.length := ⟨_, rfl⟩
        rw [← hnt]
        have HS := Lib.hid (show PrSt s A cap ts W rb pb fb RR.2 [.int .i64 ver, .slice Ak nk ck, .slice Al nl cl, .slice Ar nr cr] x6 ∧ Stat3 x6 ∧ RowsS (fun k => B3 ≤ k ∧ k < x6.heap.size) (RuS fun k => B3 ≤ k ∧ k < x6.heap.size) x6 Ar RR.1 ∧ nr = RR.1.length ∧ nr ≤ cr ∧ cr ≤ maxLen ∧ B3 ≤ x6.heap.size by
         obtain ⟨h1, h2, h3, h4, h5, h6, h7⟩ := HS4.out
         exact ⟨h1.call (h1.pa.below hb6) (But.of hb6), HB3.out.2.2 x5 x6 h2 fun a ha => hb6.cell (Nat.lt_of_lt_of_le ha.2 h7), (h3.keep (fun a ha => hb6.cell ha.2) fun _ _ h => h).mono (fun k hk => ⟨hk.1, Nat.lt_of_lt_of_le hk.2 hb6.size⟩) fun _ _ h => h, h4, h5, h6, Nat.le_trans h7 hb6.size⟩)
        clear HS4 hb6
        have HE := Lib.hid (show ∀ (w : World) (a0 a1 a2 a3 : Value), Below x6.heap.size x6 w → Below W.heap.size W ((((w.setCell ⟨rb, 0, none⟩ a0).setCell ⟨rb, 1, none⟩ a1).setCell ⟨rb, 2, none⟩ a2).setCell ⟨rb, 3, none⟩ a3) ∧
          Blk ((((w.setCell ⟨rb, 0, none⟩ a0).setCell ⟨rb, 1, none⟩ a1).setCell ⟨rb, 2, none⟩ a2).setCell ⟨rb, 3, none⟩ a3) rb [a0, a1, a2, a3] 27 by
         intro w a0 a1 a2 a3 hb
         have hn := HS.out.1.news.1
         have hr := HS.out.1.res.below hb HS.out.1.res.lt
         exact ⟨(HS.out.1.bel.trans (hb.mono HS.out.1.bel.size)).trans ((((((But.refl rb w).setCell ⟨rb, 0, none⟩ a0 rfl).setCell ⟨rb, 1, none⟩ a1 rfl).setCell ⟨rb, 2, none⟩ a2 rfl).setCell ⟨rb, 3, none⟩ a3 rfl).below hn (Nat.le_trans HS.out.1.bel.size hb.size)), (((hr.set 0 a0).set 1 a1).set 2 a2).set 3 a3⟩)
        have HQ0 := Lib.hid (show ∀ w, Below x6.heap.size x6 w → (w.cell? ⟨rb, 0, none⟩ = some (.int .i64 0) ∧ w.cell? ⟨rb, 1, none⟩ = some (.slice none 0 0) ∧ w.cell? ⟨rb, 2, none⟩ = some (.slice none 0 0) ∧ w.cell? ⟨rb, 3, none⟩ = some (.slice none 0 0)) ∧ (w.frozen? ⟨rb, 0, none⟩ = false ∧ w.frozen? ⟨rb, 1, none⟩ = false ∧ w.frozen? ⟨rb, 2, none⟩ = false ∧ w.frozen? ⟨rb, 3, none⟩ = false) by
         intro w hb
         have hr := HS.out.1.res.below hb HS.out.1.res.lt
         exact ⟨⟨hr.cell 0 _ rfl, hr.cell 1 _ rfl, hr.cell 2 _ rfl, hr.cell 3 _ rfl⟩, hr.frozen 0, hr.frozen 1, hr.frozen 2, hr.frozen 3⟩)
        have HNT := Lib.hid hnt
        clear hnt
        by_cases hlt : pi < nt
        ·have hltI : (pi : Int) < nt := by omega
         have hpi := HPI.out.1
         obtain ⟨tk, htk⟩ : ∃ t, ts[pi]? = some t := ⟨_, List.getElem?_eq_getElem (by rw [← HNT.out]; exact hlt)⟩
         have hZ : Z = (Sm.zeroSc, tk.1, 2) := by
          rw [HZ.out.1, if_pos (by rw [← hpi, HZ.out.2.2.2.2.1, ← HNT.out]; exact hlt), ← hpi, List.getD_eq_getElem?_getD, htk]; rfl
         obtain ⟨tb, off, hA, htb, e0, -⟩ := HS.out.1.pa.at pi tk htk
         obtain ⟨ta, hta⟩ : ∃ n, n = tk.1 := ⟨_, rfl⟩
         rw [← hta] at hZ e0
         have hpx := HS.out.1.pa.blk.lt
         have HZZ := Lib.hid hZ
         have hnn : (0 : Int) ≤ pi := by omega
         have hro : rb ≠ pb := by have := HS.out.1.news; omega
         have htr : rb < tb := by rw [HRB.out]; exact HAB.out tb off (by rw [← HNT.out]; omega) hA
         have c1 : ∀ w, But rb x6 w → w.cell? ⟨pb, 1, none⟩ = some (.slice (some ⟨tb, off, none⟩) nt cap) := fun w hb => by
          rw [← hA, HNT.out]; exact (HS.out.1.pa.blk.but hb (Ne.symm hro)).cell 1 _ rfl
         have c2 : ∀ w, But rb x6 w → w.cell? ⟨pb, 2, none⟩ = some (.int .i64 pi) := fun w hb => by
          rw [hpi]; exact (HS.out.1.pa.blk.but hb (Ne.symm hro)).cell 2 _ rfl
         have ct : ∀ w, But rb x6 w → w.cell? ⟨tb, off + pi * 2, none⟩ = some (.int .i64 ta) := fun w hb => (hb.cell (p := ⟨tb, off + pi * 2, none⟩) (Nat.lt_trans htb hpx) (by show tb ≠ rb; omega)).trans e0
         have C1 := Lib.hid c1
         have C2 := Lib.hid c2
         have CTK := Lib.hid ct
         clear hZ hpi htk hA htb hta e0 hpx c1 c2 ct htr hro
         go_wp2_with fail
         refine wp_region_listX [67, 68, 69, 70, 71, 72, 73, 74, 75, 76, 77, 78, 1000012] (fun _ _ w' => But rb x6 w' ∧ Blk w' rb scZ 27) (fun _ _ => True)
          [fun u _ => u = .agg scZ.toArray, fun u _ => u = .pointer (some ⟨pb, 0, none⟩), fun u _ => u = .pointer (some ⟨pb, 0, none⟩), fun u _ => u = .pointer (some ⟨pb, 1, none⟩), fun u _ => u = .slice (some ⟨tb, off, none⟩) nt cap, fun u _ => u = .pointer (some ⟨pb, 0, none⟩), fun u _ => u = .pointer (some ⟨pb, 0, none⟩), fun u _ => u = .pointer (some ⟨pb, 2, none⟩), fun u _ => u = .int .i64 pi, fun u _ => u = .pointer (some ⟨tb, off + pi * 2, none⟩), fun u _ => u = .pointer (some ⟨tb, off + pi * 2, none⟩), fun u _ => u = .int .i64 ta, fun _ _ => True]
          (by intro f hf v w w' h _; simp only [List.mem_cons, List.not_mem_nil, or_false] at hf; rcases hf with rfl | rfl | rfl | rfl | rfl | rfl | rfl | rfl | rfl | rfl | rfl | rfl | rfl <;> exact h)
          (fun _ => ⟨(But.refl rb x6).drewn, HS.out.1.res.drew⟩) (by kernel_rfl) (by kernel_rfl) ?_ ?_
         ·intro y hy d vals b w' hJ hu hd hall hx o ho
          match y, hy with
          | 0, _ =>
           obtain rfl := Option.some.inj ho
           exact runs_ok (by unfold execOp; go_simp; rfl) ⟨rfl, trivial, hJ⟩
          | 1, _ =>
           obtain rfl := Option.some.inj ho
           exact ⟨hx 7 rfl, trivial, hJ⟩
          | 2, _ =>
           obtain rfl := Option.some.inj ho
           have e : b.tmps.getD 68 undef = .pointer (some ⟨pb, 0, none⟩) := (hd 1 (by kernel_rfl) (by decide)).2 (by decide)
           exact runs_ok (by unfold execOp; simp only [Act.eval, e]; go_simp) ⟨rfl, trivial, hJ⟩
          | 3, _ =>
           obtain rfl := Option.some.inj ho
           have e : b.tmps.getD 69 undef = .pointer (some ⟨pb, 0, none⟩) := (hd 2 (by kernel_rfl) (by decide)).2 (by decide)
           exact runs_ok (by unfold execOp; simp only [Act.eval, e]; go_simp) ⟨rfl, trivial, hJ⟩
          | 4, _ =>
           obtain rfl := Option.some.inj ho
           have e : b.tmps.getD 70 undef = .pointer (some ⟨pb, 1, none⟩) := (hd 3 (by kernel_rfl) (by decide)).2 (by decide)
           have hc := C1.out w' hJ.1
           exact runs_ok (by unfold execOp; simp only [Act.eval, e]; go_simp) ⟨rfl, trivial, hJ⟩
          | 5, _ =>
           obtain rfl := Option.some.inj ho
           exact ⟨hx 7 rfl, trivial, hJ⟩
          | 6, _ =>
           obtain rfl := Option.some.inj ho
           have e : b.tmps.getD 72 undef = .pointer (some ⟨pb, 0, none⟩) := (hd 5 (by kernel_rfl) (by decide)).2 (by decide)
           exact runs_ok (by unfold execOp; simp only [Act.eval, e]; go_simp) ⟨rfl, trivial, hJ⟩
          | 7, _ =>
           obtain rfl := Option.some.inj ho
           have e : b.tmps.getD 73 undef = .pointer (some ⟨pb, 0, none⟩) := (hd 6 (by kernel_rfl) (by decide)).2 (by decide)
           exact runs_ok (by unfold execOp; simp only [Act.eval, e]; go_simp) ⟨rfl, trivial, hJ⟩
          | 8, _ =>
           obtain rfl := Option.some.inj ho
           have e : b.tmps.getD 74 undef = .pointer (some ⟨pb, 2, none⟩) := (hd 7 (by kernel_rfl) (by decide)).2 (by decide)
           have hc := C2.out w' hJ.1
           exact runs_ok (by unfold execOp; simp only [Act.eval, e]; go_simp) ⟨rfl, trivial, hJ⟩
          | 9, _ =>
           obtain rfl := Option.some.inj ho
           have e : b.tmps.getD 71 undef = .slice (some ⟨tb, off, none⟩) nt cap := (hd 4 (by kernel_rfl) (by decide)).2 (by decide)
           have e2 : b.tmps.getD 75 undef = .int .i64 pi := (hd 8 (by kernel_rfl) (by decide)).2 (by decide)
           exact runs_ok (by unfold execOp; simp only [Act.eval, e, e2]; go_simp) ⟨rfl, trivial, hJ⟩
          | 10, _ =>
           obtain rfl := Option.some.inj ho
           have e : b.tmps.getD 76 undef = .pointer (some ⟨tb, off + pi * 2, none⟩) := (hd 9 (by kernel_rfl) (by decide)).2 (by decide)
           exact runs_ok (by unfold execOp; simp only [Act.eval, e]; go_simp) ⟨rfl, trivial, hJ⟩
          | 11, _ =>
           obtain rfl := Option.some.inj ho
           have e : b.tmps.getD 77 undef = .pointer (some ⟨tb, off + pi * 2, none⟩) := (hd 10 (by kernel_rfl) (by decide)).2 (by decide)
           have hc := CTK.out w' hJ.1
           exact runs_ok (by unfold execOp; simp only [Act.eval, e]; go_simp) ⟨rfl, trivial, hJ⟩
          | 12, _ =>
           obtain rfl := Option.some.inj ho
           have e0 : b.tmps.getD 67 undef = .agg scZ.toArray := (hd 0 (by kernel_rfl) (by decide)).2 (by decide)
           have e6 : b.tmps.getD 2 undef = .pointer (some ⟨rb, 0, none⟩) := hx 2 rfl
           have hr := run_storeAt_mid (P := Tryz.prog) w' rb 0 27 scZ.toArray (hJ.2.there 0 _ (Nat.le_refl 4)) (by kernel_rfl) (by simp [scZ, Value.oneCell'])
           rw [← e0, ← e6] at hr
           exact runs_unit rfl hr ⟨trivial, trivial, ((((hJ.1.setCell ⟨rb, 0, none⟩ _ rfl).setCell ⟨rb, 1, none⟩ _ rfl).setCell ⟨rb, 2, none⟩ _ rfl).setCell ⟨rb, 3, none⟩ _ rfl), hJ.2.whole scZ rfl⟩
         ·intro d vals x7 hJ hall hf
          have v11 : vals 11 = .int .i64 ta := hf 11 (by decide)
          simp only [puts, List.length_cons, List.length_nil, Nat.zero_add, Nat.reduceAdd, List.drop_succ_cons, List.drop_zero, v11]
          have HJ7 := Lib.hid hJ
          clear hJ hall hf v11
          go_wp2_with fail
          rw [HZZ.out]
          have hbl : Below W.heap.size W x7 := HS.out.1.bel.trans (HJ7.out.1.below HS.out.1.news.1 HS.out.1.bel.size)
          exact bodyPost_ret (results_cell_row_tmp2 rfl _ _ rb 27 scZ.toArray (0, 0) _ rfl HJ7.out.2 Tryz.underlying27 rfl (by kernel_rfl)) rfl
           ⟨scZ, rfl, ScS.zero _ _, hbl⟩
        ·have hltI : ¬ (pi : Int) < nt := by omega
         have d3 := HS.out.1.pa.blk.cell 3 _ rfl
         rw [← HPI.out.2] at d3
         have HP := Lib.hid HPI.out
         clear HPI
         obtain ⟨⟨r0, r1, r2, r3⟩, g0, g1, g2, g3⟩ := HQ0.out x6 (Below.refl _ _)
         cases pf with
         | true =>
          have hZ : Z = (Sm.zeroSc, stop, 2) := by rw [HZ.out.1, if_neg (by rw [← HP.out.1, HZ.out.2.2.2.2.1, ← HNT.out]; exact hlt), if_pos (.inl HP.out.2.symm)]
          have HZZ := Lib.hid hZ
          clear hZ
          go_wp2_with fail
          rw [HZZ.out]
          have hE := HE.out x6 (.int .i64 0) (.slice none 0 0) (.slice none 0 0) (.slice none 0 0) (Below.refl _ _)
          exact bodyPost_ret (results_cell_row_tmp2 rfl _ _ rb 27 scZ.toArray (0, 0) _ rfl hE.2 Tryz.underlying27 rfl (by kernel_rfl)) rfl
           ⟨scZ, rfl, ScS.zero _ _, hE.1⟩
         | false =>
          by_cases hst : stop < s.size
          ·have hstI : (stop : Int) < s.size := by omega
           have hZ : Z = (Sm.zeroSc, stop, 2) := by rw [HZ.out.1, if_neg (by rw [← HP.out.1, HZ.out.2.2.2.2.1, ← HNT.out]; exact hlt), if_pos (.inr hst)]
           have HZZ := Lib.hid hZ
           clear hZ
           go_wp2_with fail
           rw [HZZ.out]
           have hE := HE.out x6 (.int .i64 0) (.slice none 0 0) (.slice none 0 0) (.slice none 0 0) (Below.refl _ _)
           exact bodyPost_ret (results_cell_row_tmp2 rfl _ _ rb 27 scZ.toArray (0, 0) _ rfl hE.2 Tryz.underlying27 rfl (by kernel_rfl)) rfl
            ⟨scZ, rfl, ScS.zero _ _, hE.1⟩
          ·have hstI : ¬ (stop : Int) < s.size := by omega
           have hZ : Z = if Sm.validE X ≠ 0 then (Sm.zeroSc, 0, 4) else (X, 0, 0) := by
            rw [HZ.out.1, if_neg (by rw [← HP.out.1, HZ.out.2.2.2.2.1, ← HNT.out]; exact hlt), if_neg (fun h => h.elim (fun h => by rw [← HP.out.2] at h; exact absurd h (by decide)) hst)]
           have cV : ∀ w, Below x6.heap.size x6 w → Calls Tryz.prog 13 #[.agg #[.int .i64 ver, .slice Ak nk ck, .slice Al nl cl, .slice Ar nr cr]] w fun e w' => e = .returned (.int .i64 (Sm.validE X)) ∧ Below w.heap.size w w' := by
            intro w hb
            obtain ⟨hs2, hn2, -, -⟩ := HN2.out
            obtain ⟨hs3, hn3, -, -, -⟩ := HN3.out
            obtain ⟨-, hs, hrr, hnr, -, -, hB3⟩ := HS.out
            have hB23 := HN3.out.2.2.2.2
            rw [hs3] at hs
            obtain ⟨hs, hll⟩ := hs
            rw [hs2] at hs
            have hkp : ∀ S : Nat → Prop, (∀ k, S k → k < x6.heap.size) → KeepS S x6 w := fun S hS a ha => hb.cell (hS _ ha)
            have hsz := hb.size
            have k1 : ∀ k, (fb + 1 ≤ k ∧ k < B2) → k < x6.heap.size := fun k h => by have := h.2; omega
            have k2 : ∀ k, (B2 ≤ k ∧ k < B3) → k < x6.heap.size := fun k h => by have := h.2; omega
            have k3 : ∀ k, (B3 ≤ k ∧ k < x6.heap.size) → k < x6.heap.size := fun k h => h.2
            have hk' := (hs.keep (hkp _ k1) fun _ _ h => h.keep (hkp _ k1)).rows (B := w.heap.size) (D := KdC) (fun k h => Nat.lt_of_lt_of_le (k1 k h) hsz) fun _ _ h => h.kd fun k h => Nat.lt_of_lt_of_le (k1 k h) hsz
            have hl' := (hll.keep (hkp _ k2) fun _ _ h => h.keep (hkp _ k2)).rows (B := w.heap.size) (D := LfC) (fun k h => Nat.lt_of_lt_of_le (k2 k h) hsz) fun _ _ h => h.lf fun k h => Nat.lt_of_lt_of_le (k2 k h) hsz
            have hr' := (hrr.keep (hkp _ k3) fun _ _ h => h.keep (hkp _ k3)).rows (B := w.heap.size) (D := RuC) (fun k h => Nat.lt_of_lt_of_le (k3 k h) hsz) fun _ _ h => h
            have hX := HZ.out.2.1
            have hF := HZ.out.2.2.1
            rw [hX] at hF
            have hc := smValid_any ⟨ver, RK.1, RL.1, RR.1⟩ Ak ck Al cl Ar cr w hk' hl' hr' hF
            dsimp only at hc
            rw [← hn2, ← hn3, ← hnr, ← hX] at hc
            exact hc
           obtain ⟨vE, hvE⟩ : ∃ v, v = Sm.validE X := ⟨_, rfl⟩
           rw [← hvE] at hZ
           simp only [← hvE] at cV
           have c0 := HS.out.1.fld.cell 0 _ rfl
           have c1 := HS.out.1.fld.cell 1 _ rfl
           have c2 := HS.out.1.fld.cell 2 _ rfl
           have c3 := HS.out.1.fld.cell 3 _ rfl
           have CV := Lib.hid cV
           have HZZ := Lib.hid hZ
           clear hZ cV hvE
           go_wp2_with fail
           refine (CV.out _ (Below.refl _ x6)).mono ?_
           rintro e x7 ⟨rfl, hb6⟩
           have hB6 : Below x6.heap.size x6 x7 := (Below.refl _ x6).trans hb6
           have hr6 := HS.out.1.res.below hB6 HS.out.1.res.lt
           have hf6 := HS.out.1.fld.below hB6 HS.out.1.fld.lt
           clear c0 c1 c2 c3 d3 r0 r1 r2 r3 g0 g1 g2 g3
           have r0 := hr6.cell 0 _ rfl
           have r1 := hr6.cell 1 _ rfl
           have r2 := hr6.cell 2 _ rfl
           have r3 := hr6.cell 3 _ rfl
           have g0 := hr6.frozen 0
           have g1 := hr6.frozen 1
           have g2 := hr6.frozen 2
           have g3 := hr6.frozen 3
           have c0 := hf6.cell 0 _ rfl
           have c1 := hf6.cell 1 _ rfl
           have c2 := hf6.cell 2 _ rfl
           have c3 := hf6.cell 3 _ rfl
           have HB6 := Lib.hid hB6
           clear hb6 hB6 hr6 hf6 CV
           by_cases hv : vE = 0
           ·subst hv
            have hZ : Z = (X, 0, 0) := by rw [HZZ.out, if_neg (by simp)]
            have HZ2 := Lib.hid hZ
            clear hZ
            go_wp2_with fail
            have hE := HE.out x7 (.int .i64 ver) (.slice Ak nk ck) (.slice Al nl cl) (.slice Ar nr cr) HB6.out
            obtain ⟨wE, hwE⟩ : ∃ w, w = (((x7.setCell ⟨rb, 0, none⟩ (.int .i64 ver)).setCell ⟨rb, 1, none⟩ (.slice Ak nk ck)).setCell ⟨rb, 2, none⟩ (.slice Al nl cl)).setCell ⟨rb, 3, none⟩ (.slice Ar nr cr) := ⟨_, rfl⟩
            have hsz : wE.heap.size = x7.heap.size := by rw [hwE]; simp only [size_setCell]
            have hbe : But rb x7 wE := by rw [hwE]; exact (((((But.refl rb x7).setCell ⟨rb, 0, none⟩ _ rfl).setCell ⟨rb, 1, none⟩ _ rfl).setCell ⟨rb, 2, none⟩ _ rfl).setCell ⟨rb, 3, none⟩ _ rfl)
            rw [← hwE] at hE ⊢
            rw [HZ2.out]
            obtain ⟨hs2, hn2, hm2, hm2'⟩ := HN2.out
            obtain ⟨hs3, hn3, hm3, hm3', hB23⟩ := HN3.out
            obtain ⟨hst4, hs, hrr, hnr, hm4, hm4', hB3⟩ := HS.out
            have hnw := hst4.news
            have hfb2 := HB2.out.2.1
            rw [hs3] at hs
            obtain ⟨hs, hll⟩ := hs
            rw [hs2] at hs
            have hsz6 := HB6.out.size
            have hkp : ∀ S : Nat → Prop, (∀ k, S k → fb < k ∧ k < x6.heap.size) → KeepS S x6 wE := fun S hS a ha => (hbe.cell (Nat.lt_of_lt_of_le (hS _ ha).2 hsz6) (by have := (hS _ ha).1; omega)).trans (HB6.out.cell (hS _ ha).2)
            have hfr : ∀ k, (fb < k ∧ k < x6.heap.size) → Fresh W wE k := fun k h => ⟨by have := h.1; omega, by rw [hsz]; exact Nat.lt_of_lt_of_le h.2 hsz6⟩
            have k1 : ∀ k, (fb + 1 ≤ k ∧ k < B2) → fb < k ∧ k < x6.heap.size := fun k h => by have := h.1; have := h.2; omega
            have k2 : ∀ k, (B2 ≤ k ∧ k < B3) → fb < k ∧ k < x6.heap.size := fun k h => by have := h.1; have := h.2; omega
            have k3 : ∀ k, (B3 ≤ k ∧ k < x6.heap.size) → fb < k ∧ k < x6.heap.size := fun k h => by have := h.1; have := h.2; omega
            have hX := HZ.out.2.1
            have x1 : X.version = ver := by rw [hX]
            have x2 : X.kinds = RK.1 := by rw [hX]
            have x3 : X.lives = RL.1 := by rw [hX]
            have x4 : X.rules = RR.1 := by rw [hX]
            refine bodyPost_ret (results_cell_row_tmp2 rfl _ _ rb 27 #[.int .i64 ver, .slice Ak nk ck, .slice Al nl cl, .slice Ar nr cr] (0, 0) _ rfl hE.2 Tryz.underlying27 rfl (by kernel_rfl)) rfl
             ⟨[.int .i64 ver, .slice Ak nk ck, .slice Al nl cl, .slice Ar nr cr], rfl, ⟨Ak, ck, Al, cl, Ar, cr, ?_, ?_, ?_, ?_, ?_, hm2', ?_, hm3', ?_, hm4'⟩, hE.1⟩
            ·dsimp only; rw [x1, x2, x3, x4, ← hn2, ← hn3, ← hnr]
            ·dsimp only; rw [x2]; exact ((hs.keep (hkp _ k1) fun _ _ h => h.keep (hkp _ k1)).mono (fun k h => hfr k (k1 k h)) fun _ _ h => h.mono fun k h => hfr k (k1 k h))
            ·dsimp only; rw [x3]; exact ((hll.keep (hkp _ k2) fun _ _ h => h.keep (hkp _ k2)).mono (fun k h => hfr k (k2 k h)) fun _ _ h => h.mono fun k h => hfr k (k2 k h))
            ·dsimp only; rw [x4]; exact ((hrr.keep (hkp _ k3) fun _ _ h => h.keep (hkp _ k3)).mono (fun k h => hfr k (k3 k h)) fun _ _ h => h.mono fun k h => hfr k (k3 k h))
            ·dsimp only; rw [x2, ← hn2]; exact hm2
            ·dsimp only; rw [x3, ← hn3]; exact hm3
            ·dsimp only; rw [x4, ← hnr]; exact hm4
           ·have hZ : Z = (Sm.zeroSc, 0, 4) := by rw [HZZ.out, if_pos hv]
            have HZ2 := Lib.hid hZ
            clear hZ
            go_wp2_with fail
            rw [HZ2.out]
            have hE := HE.out x7 (.int .i64 0) (.slice none 0 0) (.slice none 0 0) (.slice none 0 0) HB6.out
            exact bodyPost_ret (results_cell_row_tmp2 rfl _ _ rb 27 scZ.toArray (0, 0) _ rfl hE.2 Tryz.underlying27 rfl (by kernel_rfl)) rfl
             ⟨scZ, rfl, ScS.zero _ _, hE.1⟩
end Go.Proofs.YtkgddcemocfgfaaGreatDoor
end

