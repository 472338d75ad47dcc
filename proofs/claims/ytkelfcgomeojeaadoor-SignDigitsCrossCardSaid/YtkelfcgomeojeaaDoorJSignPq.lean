import Derived.Laws.ResultCell
import Derived.Laws.EntriesVeiled
import Derived.Test.YtkelfcgomeojeaaDoorJFactsO
import Derived.Test.YtkelfcgomeojeaaDoorJSignPo

section
/- The closure of climb at any level; climb. -/




namespace Go.Proofs.YtkelfcgomeojeaaDoor
open Go.RowKit
set_option linter.unusedVariables false
set_option maxRecDepth 100000

theorem clo_any (e : Env) (hok : e.Ok) (hT : HTab e.w0) (hs : e.s.size ≤ 1000) (hi : e.i ≤ 1000000) : ∀ (l k : Nat) (p : List UInt8) (W : World), l ≤ 6 → (k + 1) * 2 ^ l ≤ 100000 → CQ e p.length p W → p.length + (way (sb e.s) e.i l k).length ≤ e.h * 16 → CloSpec e l k p W := by
  intro l
  induction l with
  | zero =>
    intro k p W _ hk hC _
    exact clo_zero e hok hT hs k p W (by omega) hC
  | succ l ih =>
    intro k p W hl hk hC room
    have h2 : (k + 1) * 2 ^ (l + 1) = (2 * k + 2) * 2 ^ l := by rw [Nat.pow_succ]; rw [show 2 * k + 2 = (k + 1) * 2 by omega, Nat.mul_assoc, Nat.mul_comm 2]
    have h3 : 1 ≤ 2 ^ l := Nat.one_le_two_pow
    have h4 : 2 * k + 2 ≤ (2 * k + 2) * 2 ^ l := Nat.le_mul_of_pos_right _ (by omega)
    refine clo_succ e hok hT (l + 1) l k rfl p W hl (by omega) hi hC room fun k' p' W' hk' hC' hr => ih k' p' W' (by omega) ?_ hC' hr
    have h5 : (k' + 1) * 2 ^ l ≤ (2 * k + 2) * 2 ^ l := Nat.mul_le_mul_right _ (by omega)
    omega
theorem results_cell_row_tmp {P : Program} {fn : Func} {p u : Tmp} {ty : TypeId} (h : fn.results = #[.cell p ty, .tmp u]) (tmps : Array Value) (w : World) (g : Nat) (t : TypeId) (cs : Array Value) (fr : Nat × Nat) (d : TypeDesc)
    (hp : tmps.getD p undef = .pointer (some ⟨g, 0, none⟩)) (hg : w.heap[g]? = some (.cells cs t fr))
    (hu : P.underlying ty = some d) (hd : (match d with | .struct _ | .array _ _ => true | _ => false) = true) (hi : (P.info? ty).map (·.size) = some cs.size) :
    (results fn tmps).run P w = .ok (.tuple #[.agg cs, tmps.getD u undef]) w := by
  rw [results_cell_tmp h, hp]
  simp [asAddr, run_loadVar_row w g t ty cs fr d hg hu hd hi]

def zerosP (h : Nat) : List Value := List.replicate (h * 16) (bv 0)
theorem make_path (w : World) (h : Nat) (hh : h ≤ 6) : (Instr.makeSlice 51 (.int .i64 0) (.int .i64 ((h : Int) * 16))).run Tryd.prog w = .ok (.slice (some ⟨w.heap.size, 0, none⟩) 0 (h * 16)) (w.alloc (.cells (zerosP h).toArray 5)) := by
  obtain ⟨i0, hi, hz0, hz1, hz2⟩ := info_parts info_u8
  have hmk := run_makeSlice (P := Tryd.prog) w 51 5 i0 (.int .u8 0) Tryd.underlying51 hi hz0 .i64 .i64 0 ((h : Int) * 16) (by omega) (by omega) (by rw [hz1]; omega) (by rw [hz2]; omega) (by omega)
  rw [hz1, show ((h : Int) * 16).toNat = h * 16 by omega] at hmk
  have hmc : madeCells (Value.int .u8 0).cells (h * 16 * 1) = (zerosP h).toArray := by
    rcases (show h = 0 ∨ h = 1 ∨ h = 2 ∨ h = 3 ∨ h = 4 ∨ h = 5 ∨ h = 6 by omega) with rfl | rfl | rfl | rfl | rfl | rfl | rfl <;> kernel_rfl
  rw [hmc] at hmk
  exact hmk

set_option maxHeartbeats 8000000 in
theorem climb_any (s : ByteArray) (h i : Nat) (w : World) (hs : s.size ≤ 1000) (hh : h ≤ 6) (hi : i < 2 ^ h) (hT : HTab w) :
    Calls Tryd.prog 22 #[.string s, .int .i64 (h : Int), .int .i64 (i : Int)] w fun x w' => x = .returned (.tuple #[.agg ((Sg.root (sb s) h).map bv).toArray, .string (bs (Sg.beside (sb s) i h).flatten)]) ∧ Below w.heap.size w w' := by
  obtain ⟨hzd, -⟩ := zero_of_info dig_zero
  obtain ⟨Zd, hZd⟩ : ∃ Zd, Zd = (H.zeros 16).map bv := ⟨_, rfl⟩
  rw [← hZd] at hzd
  have lZd : Zd.length = 16 := by rw [hZd, List.length_map, H.zeros_len]
  obtain ⟨W1, hW1⟩ : ∃ W1, W1 = (((w.alloc (.cells #[.string s] 9)).alloc (.cells #[.int .i64 (i : Int)] 3)).alloc (.cells Zd.toArray 23)).alloc (.cells #[.int .i64 3] 3) := ⟨_, rfl⟩
  have hs1 : W1.heap.size = w.heap.size + 4 := by rw [hW1]; simp
  have hc1 : W1.cell? ⟨w.heap.size + 1 + 1 + 1, 0, none⟩ = some (dv 3) := by
    have h := Blk.new (((w.alloc (.cells #[.string s] 9)).alloc (.cells #[.int .i64 (i : Int)] 3)).alloc (.cells Zd.toArray 23)) [dv 3] 3
    rw [show (((w.alloc (.cells #[.string s] 9)).alloc (.cells #[.int .i64 (i : Int)] 3)).alloc (.cells Zd.toArray 23)).heap.size = w.heap.size + 1 + 1 + 1 by simp] at h
    rw [hW1]
    exact h.cell 0 _ rfl
  have hbel1 : Below w.heap.size w W1 := by
    rw [hW1]
    exact ((((Below.refl _ _).alloc (Nat.le_refl _) _).alloc (by simp) _).alloc (by simp; omega) _).alloc (by simp; omega) _
  have ks : Blk W1 w.heap.size [.string s] 9 := by
    rw [hW1]
    exact (((Blk.new w [.string s] _).alloc _).alloc _).alloc _
  have ki : Blk W1 (w.heap.size + 1) [.int .i64 (i : Int)] 3 := by
    rw [hW1]
    have h := (Blk.new (w.alloc (.cells #[.string s] 9)) [.int .i64 (i : Int)] 3).alloc (.cells Zd.toArray 23)
    rw [show (w.alloc (.cells #[.string s] 9)).heap.size = w.heap.size + 1 by simp] at h
    exact h.alloc _
  have kz : Blk W1 (w.heap.size + 1 + 1) Zd 23 := by
    rw [hW1]
    have h := (Blk.new ((w.alloc (.cells #[.string s] 9)).alloc (.cells #[.int .i64 (i : Int)] 3)) Zd 23).alloc (.cells #[.int .i64 3] 3)
    rw [show ((w.alloc (.cells #[.string s] 9)).alloc (.cells #[.int .i64 (i : Int)] 3)).heap.size = w.heap.size + 1 + 1 by simp] at h
    exact h
  have c1 := repeat_any (w.heap.size + 1 + 1 + 1) W1 hc1
  have C1 := Lib.hid c1
  have HW1 := Lib.hid hW1
  have HH := Lib.hid (And.intro hh hi)
  have HZ := Lib.hid (And.intro lZd hs1)
  have KK := Lib.hid (And.intro hbel1 (And.intro ks (And.intro ki kz)))
  have HT := Lib.hid hT
  clear c1 hc1 hZd hs1 hi hbel1 ks ki kz hT lZd
  go_enter Tryd.func22, Tryd.ntmps22
  go_wp2_with fail
  rw [← hW1]
  refine C1.out.mono ?_
  rintro x w2 ⟨rfl, hr2, hb2⟩
  have hmk := make_path (w2.alloc (.cells #[.slice (some ⟨w.heap.size + 1 + 1 + 1 + 1, 0, none⟩) 68 68] 25)) h hh
  go_wp2_with fail
  obtain ⟨e, he⟩ : ∃ e : Env, e = ⟨w, s, i, h, w.heap.size, w2.heap.size, w.heap.size + 1 + 1 + 1 + 1, w2.heap.size + 1 + 1 + 1, w.heap.size + 1, w2.heap.size + 1 + 1, w2.heap.size + 1⟩ := ⟨_, rfl⟩
  obtain ⟨W5, hW5⟩ : ∃ W5, W5 = (((w2.alloc (.cells #[.slice (some ⟨w.heap.size + 1 + 1 + 1 + 1, 0, none⟩) 68 68] 25)).alloc (.cells (zerosP h).toArray 5)).alloc (.cells #[.slice (some ⟨w2.heap.size + 1, 0, none⟩) 0 (h * 16)] 51)).alloc (.cells #[.func (.func 43) #[] #[.pointer (some ⟨w.heap.size, 0, none⟩), .pointer (some ⟨w2.heap.size, 0, none⟩), .pointer (some ⟨w2.heap.size + 1 + 1 + 1, 0, none⟩), .pointer (some ⟨w.heap.size + 1, 0, none⟩), .pointer (some ⟨w2.heap.size + 1 + 1, 0, none⟩)]] 67) := ⟨_, rfl⟩
  rw [← hW5]
  have hsz2 : w.heap.size + 4 < w2.heap.size := by have := hr2.lt; have := HZ.out.2; omega
  have hok : e.Ok := by
    rw [he]
    constructor <;> simp only <;> omega
  have b5 : Below w2.heap.size w2 W5 := by
    rw [hW5]
    exact ((((Below.refl _ _).alloc (Nat.le_refl _) _).alloc (by simp) _).alloc (by simp; omega) _).alloc (by simp; omega) _
  have b15 := hb2.trans (b5.mono hb2.size)
  have hC : CQ e 0 [] W5 := by
    have z1 : (w2.alloc (.cells #[.slice (some ⟨w.heap.size + 1 + 1 + 1 + 1, 0, none⟩) 68 68] 25)).heap.size = w2.heap.size + 1 := by simp
    have z2 : ((w2.alloc (.cells #[.slice (some ⟨w.heap.size + 1 + 1 + 1 + 1, 0, none⟩) 68 68] 25)).alloc (.cells (zerosP h).toArray 5)).heap.size = w2.heap.size + 1 + 1 := by simp
    have z3 : (((w2.alloc (.cells #[.slice (some ⟨w.heap.size + 1 + 1 + 1 + 1, 0, none⟩) 68 68] 25)).alloc (.cells (zerosP h).toArray 5)).alloc (.cells #[.slice (some ⟨w2.heap.size + 1, 0, none⟩) 0 (h * 16)] 51)).heap.size = w2.heap.size + 1 + 1 + 1 := by simp
    rw [he]
    refine ⟨KK.out.2.1.below b15 KK.out.2.1.lt, ?_, ?_, ?_, KK.out.2.2.1.below b15 KK.out.2.2.1.lt, ?_, ?_, KK.out.1.trans (b15.mono KK.out.1.size)⟩
    · rw [hW5]
      exact (((Blk.new w2 [.slice (some ⟨w.heap.size + 1 + 1 + 1 + 1, 0, none⟩) 68 68] _).alloc _).alloc _).alloc _
    · have := hr2.below b5 hr2.lt
      rw [HZ.out.2] at this
      exact this
    · rw [hW5]
      have h := Blk.new (((w2.alloc (.cells #[.slice (some ⟨w.heap.size + 1 + 1 + 1 + 1, 0, none⟩) 68 68] 25)).alloc (.cells (zerosP h).toArray 5)).alloc (.cells #[.slice (some ⟨w2.heap.size + 1, 0, none⟩) 0 (h * 16)] 51)) [.func (.func 43) #[] #[.pointer (some ⟨w.heap.size, 0, none⟩), .pointer (some ⟨w2.heap.size, 0, none⟩), .pointer (some ⟨w2.heap.size + 1 + 1 + 1, 0, none⟩), .pointer (some ⟨w.heap.size + 1, 0, none⟩), .pointer (some ⟨w2.heap.size + 1 + 1, 0, none⟩)]] 67
      rw [z3] at h
      exact h
    · rw [hW5]
      have h := (Blk.new ((w2.alloc (.cells #[.slice (some ⟨w.heap.size + 1 + 1 + 1 + 1, 0, none⟩) 68 68] 25)).alloc (.cells (zerosP h).toArray 5)) [.slice (some ⟨w2.heap.size + 1, 0, none⟩) 0 (h * 16)] 51)
      rw [z2] at h
      exact h.alloc _
    · rw [hW5]
      have h := ((Blk.new (w2.alloc (.cells #[.slice (some ⟨w.heap.size + 1 + 1 + 1 + 1, 0, none⟩) 68 68] 25)) (zerosP h) 5)).alloc (.cells #[.slice (some ⟨w2.heap.size + 1, 0, none⟩) 0 (h * 16)] 51)
      rw [z1] at h
      exact h.alloc _
  have hrt : way (sb s) i h 0 = (Sg.beside (sb s) i h).flatten := by unfold way; rw [if_pos (Nat.div_eq_of_lt HH.out.2)]
  have h2h : 2 ^ h ≤ 64 := Nat.pow_le_pow_right (n := 2) (by decide) hh
  have cl := clo_any e hok (by rw [he]; exact HT.out) (by rw [he]; exact hs) (by rw [he]; have := HH.out.2; simp only; omega) h 0 [] W5 hh (by omega) hC (by have := way_len (sb e.s) e.i h 0; rw [he] at this ⊢; simp only [List.length_nil] at this ⊢; omega)
  unfold CloSpec at cl
  obtain ⟨q, hq⟩ : ∃ q, q = (Sg.beside (sb s) i h).flatten := ⟨_, rfl⟩
  obtain ⟨G, hG⟩ : ∃ G, G = (Sg.root (sb s) h).map bv := ⟨_, rfl⟩
  have lG : G.length = 16 := by rw [hG, List.length_map]; exact tree_len _ _ _
  have yG := size_dig lG
  have oG : G.toArray.all (·.oneCell') = true := all_oneCell_toArray (by rw [hG]; exact bytes_one _)
  rw [List.nil_append, show way (sb e.s) e.i h 0 = q by rw [he]; exact hrt.trans hq.symm, show (Sg.tree (sb e.s) h 0).map bv = G by rw [he, hG]; rfl, show e.args h 0 = #[.int .i64 (h : Int), .int .i64 0, .pointer (some ⟨w.heap.size, 0, none⟩), .pointer (some ⟨w2.heap.size, 0, none⟩), .pointer (some ⟨w2.heap.size + 1 + 1 + 1, 0, none⟩), .pointer (some ⟨w.heap.size + 1, 0, none⟩), .pointer (some ⟨w2.heap.size + 1 + 1, 0, none⟩)] by rw [he]; rfl] at cl
  have kz5 := KK.out.2.2.2.below b15 KK.out.2.2.2.lt
  have CL := Lib.hid cl
  have HE := Lib.hid he
  have KZ := Lib.hid kz5
  have HW5 := Lib.hid hW5
  have HG := Lib.hid (And.intro hG lG)
  have YG := Lib.hid yG
  have HQ := Lib.hid hq
  have HS2 := Lib.hid hsz2
  clear cl he kz5 hW5 hG lG yG hq hsz2 hok hC b5 b15 hb2 hr2 hrt h2h hmk hW1 C1
  refine CL.out.mono ?_
  rintro x w6 ⟨rfl, hC6, hr6⟩
  have hz6 := KZ.out.rel hr6 (by rw [HE.out]; have := HS2.out; simp only; omega) (by rw [HE.out]; have := HS2.out; simp only; omega)
  have hlt6 := hC6.cp.lt
  obtain ⟨W7, hW7, m1, m2, m3⟩ := row_new w6 23 16 Zd G HZ.out.1 HG.out.2
  have hC7 := hC6.step hC6.lt (by rw [HE.out]; have := HS2.out; constructor <;> simp only <;> omega) m3
  have hz7 := hz6.below m3 hz6.lt
  have hb7 : Below w.heap.size w W7 := by have := hC7.bel; rw [HE.out] at this; exact this
  have hp7 : Blk W7 (w2.heap.size + 1 + 1) [.slice (some ⟨w2.heap.size + 1, 0, none⟩) q.length (h * 16)] 51 := by have := hC7.cp; rw [HE.out] at this; exact this
  have hq7 : Blk W7 (w2.heap.size + 1) (q.map bv ++ List.replicate (h * 16 - q.length) (bv 0)) 5 := by have := hC7.cq; rw [HE.out] at this; exact this
  have ht6 : Blk w6 (w2.heap.size + 1 + 1 + 1) [e.fv] 67 := by have := hC6.cn; rw [HE.out] at this; rw [HE.out]; exact this
  have H6 := Lib.hid (show w2.heap.size ≤ w6.heap.size from by have := hC6.lt.q; rw [HE.out] at this; simp only at this; omega)
  have M1 := Lib.hid m1
  have HW7 := Lib.hid hW7
  have K7 := Lib.hid (And.intro m2 (And.intro hz7 (And.intro hb7 (And.intro hp7 hq7))))
  clear hz6 hlt6 hW7 m1 m2 m3 hC7 hz7 hb7 hp7 hq7 ht6 hC6 hr6 CL
  go_wp2_with (refine wpList_store_mid rfl 23 (.tmp 11) (.tmp 20) rfl w6.heap.size 0 G.toArray rfl rfl M1.out YG.out oG ?_; rw [← HW7.out])
  try go_frame
  refine wp_region_listX [21, 22, 23, 1000003] (fun d _ w' => Blk w' w6.heap.size G 23 ∧ Blk w' (w.heap.size + 1 + 1) (if d 3 = true then G else Zd) 23 ∧ Below w.heap.size w w' ∧ Blk w' (w2.heap.size + 1 + 1) [.slice (some ⟨w2.heap.size + 1, 0, none⟩) q.length (h * 16)] 51 ∧ Blk w' (w2.heap.size + 1) (q.map bv ++ List.replicate (h * 16 - q.length) (bv 0)) 5) (fun _ _ => True)
    [fun v _ => v = .agg G.toArray, fun v _ => v = .slice (some ⟨w2.heap.size + 1, 0, none⟩) q.length (h * 16), fun v _ => v = .string (bs q), fun _ _ => True]
    (by intro f hf v w w' h _; simp only [List.mem_cons, List.not_mem_nil, or_false] at hf; rcases hf with rfl | rfl | rfl | rfl <;> exact h)
    (fun _ => ⟨K7.out.1.drew, K7.out.2.1.drew, K7.out.2.2.1.drew, K7.out.2.2.2.1.drew, K7.out.2.2.2.2.drew⟩) (by kernel_rfl) (by kernel_rfl) ?_ ?_
  · intro z hz d vs b w' hJ hu hd _ hx o ho
    match z, hz with
    | 0, _ =>
      obtain rfl := Option.some.inj ho
      have e9 : b.tmps.getD 11 undef = .pointer (some ⟨w6.heap.size, 0, none⟩) := hx 11 rfl
      have hr := row_load w' w6.heap.size 23 5 16 G hJ.1 Tryd.underlying23 YG.out
      rw [← e9] at hr
      exact runs_value rfl hr ⟨rfl, trivial, hJ⟩
    | 1, _ =>
      obtain rfl := Option.some.inj ho
      have e9 : b.tmps.getD 9 undef = .pointer (some ⟨w2.heap.size + 1 + 1, 0, none⟩) := hx 9 rfl
      have hr := load_path w' _ _ hJ.2.2.2.1
      rw [← e9] at hr
      exact runs_value rfl hr ⟨rfl, trivial, hJ⟩
    | 2, _ =>
      obtain rfl := Option.some.inj ho
      have e2 : b.tmps.getD 22 undef = .slice (some ⟨w2.heap.size + 1, 0, none⟩) q.length (h * 16) := (hd 1 (by kernel_rfl) (by decide)).2 (by decide)
      have hr : RdB w' (w2.heap.size + 1 + 1) (some ⟨w2.heap.size + 1, 0, none⟩) q := fun _ => ⟨w2.heap.size + 1, 0, rfl, by omega, fun j u hu => by
        rw [Nat.zero_add]
        exact hJ.2.2.2.2.cell j u (by rw [List.getElem?_append_left (List.getElem?_eq_some_iff.1 hu).1]; exact hu)⟩
      have hcv := conv_bytes w' _ _ q (h * 16) hr
      rw [← e2] at hcv
      exact runs_value rfl hcv ⟨rfl, trivial, hJ⟩
    | 3, _ =>
      obtain rfl := Option.some.inj ho
      have hu : d 3 = false := hu
      have e0 : b.tmps.getD 21 undef = .agg G.toArray := (hd 0 (by kernel_rfl) (by decide)).2 (by decide)
      have e6 : b.tmps.getD 6 undef = .pointer (some ⟨w.heap.size + 1 + 1, 0, none⟩) := hx 6 rfl
      have hz8 := hJ.2.1
      rw [hu] at hz8
      have hz8 : Blk w' (w.heap.size + 1 + 1) Zd 23 := hz8
      have hr := run_storeAt_mid (P := Tryd.prog) w' (w.heap.size + 1 + 1) 0 23 G.toArray (hz8.there 0 _ (by rw [List.size_toArray, HG.out.2, HZ.out.1]; omega)) YG.out oG
      rw [← e0, ← e6] at hr
      have hne := HS2.out
      have h6 := hJ.1.lt
      refine runs_unit rfl hr ⟨trivial, trivial, Blk.outside _ _ _ _ hJ.1 (by have := H6.out; omega), hz8.whole G (by rw [HG.out.2, HZ.out.1]), below_setCells _ (by omega) _ _ _ hJ.2.2.1, Blk.outside _ _ _ _ hJ.2.2.2.1 (by omega), Blk.outside _ _ _ _ hJ.2.2.2.2 (by omega)⟩
  · intro d vals w' hJ hall hf
    have e2 : vals 2 = .string (bs q) := hf 2 (by decide)
    simp only [puts, List.length_cons, List.length_nil, Nat.zero_add, Nat.reduceAdd, List.drop_succ_cons, List.drop_zero, e2]
    have d1 := hJ.2.1
    rw [hall 3 (by decide)] at d1
    have d1 : Blk w' (w.heap.size + 1 + 1) G 23 := d1
    have D1 := Lib.hid d1
    have B1 := Lib.hid hJ.2.2.1
    clear e2 d1 hJ hall hf
    go_frame
    go_wp2_with fail
    refine bodyPost_ret (results_cell_row_tmp rfl _ _ (w.heap.size + 1 + 1) 23 _ (0, 0) _ rfl D1.out Tryd.underlying23 rfl YG.out) rfl ⟨?_, B1.out⟩
    rw [← HG.out.1, ← HQ.out]
    rfl
end Go.Proofs.YtkelfcgomeojeaaDoor
end

