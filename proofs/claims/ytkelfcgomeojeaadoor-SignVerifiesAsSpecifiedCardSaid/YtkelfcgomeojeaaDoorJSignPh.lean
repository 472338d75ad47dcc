import Derived.Test.YtkelfcgomeojeaaDoorJHashL
import Derived.Test.YtkelfcgomeojeaaDoorJHashRc
import Derived.Test.YtkelfcgomeojeaaDoorJSignPc
import Derived.Test.YtkelfcgomeojeaaDoorJSignPg
import Derived.Test.YtkelfcgomeojeaaDoorJWireD
import Derived.Test.YtkelfcgomeojeaaDoorJWireK0
import Derived.Test.YtkelfcgomeojeaaDoorJWireRd1

section
/- The contract of sign.advance. -/


namespace Go.Proofs.YtkelfcgomeojeaaDoor
open Go.RowKit
set_option linter.unusedVariables false

set_option maxRecDepth 100000 in
set_option maxHeartbeats 4000000 in
theorem advance_any (i c t n : Nat) (v : List UInt8) (w : World) (hi : i ≤ 1000000) (hc : c ≤ 1000000) (ht : t + n ≤ 1000000) (hv : v.length = 16) (hR : HTab w) :
    Calls Tryd.prog 49 #[.agg (v.map bv).toArray, .int .i64 i, .int .i64 c, .int .i64 t, .int .i64 ((t + n : Nat) : Int)] w fun e w' => e = .returned (.agg ((Sg.adv i c t n v).map bv).toArray) ∧ Below w.heap.size w w' := by
  obtain ⟨hzd, -⟩ := zero_of_info dig_zero
  obtain ⟨Zd, hZd⟩ : ∃ Zd, Zd = (H.zeros 16).map bv := ⟨_, rfl⟩
  rw [← hZd] at hzd
  have lZd : Zd.length = 16 := by rw [hZd, List.length_map, H.zeros_len]
  obtain ⟨X, hX⟩ : ∃ X : Nat → List Value, ∀ k, X k = (Sg.adv i c t k v).map bv := ⟨_, fun _ => rfl⟩
  have lX : ∀ k, (X k).length = 16 := fun k => by rw [hX, List.length_map, adv_len _ _ _ _ _ hv]
  have yX := fun k => size_dig (lX k)
  have oX : ∀ k, (X k).toArray.all (·.oneCell') = true := fun k => all_oneCell_toArray (by rw [hX]; exact bytes_one _)
  have hX0 : (v.map bv) = X 0 := by rw [hX]; rfl
  rw [hX0, ← hX n]
  obtain ⟨W0, hW0⟩ : ∃ W0, W0 = (w.alloc (.cells (X 0).toArray 23)).alloc (.cells Zd.toArray 23) := ⟨_, rfl⟩
  have hS : Blk W0 w.heap.size (X 0) 23 ∧ Blk W0 (w.heap.size + 1) Zd 23 ∧ Below w.heap.size w W0 := by
    rw [hW0]
    refine ⟨(Blk.new w _ _).below ((Below.refl _ _).alloc (Nat.le_refl _) _) (by simp), ?_, ((Below.refl _ _).alloc (Nat.le_refl _) _).alloc (by simp) _⟩
    have h := Blk.new (w.alloc (.cells (X 0).toArray 23)) Zd 23
    simpa using h
  obtain ⟨m, hm⟩ : ∃ m, m = t + n := ⟨_, rfl⟩
  rw [← hm]
  have HS := Lib.hid hS
  have HW0 := Lib.hid hW0
  have HM := Lib.hid hm
  have HX := Lib.hid hX
  have LX := Lib.hid (And.intro lX lZd)
  have YX := Lib.hid yX
  have HR := Lib.hid hR
  clear hS hW0 hX hX0 lX yX hZd lZd hR hm
  go_enter Tryd.func49, Tryd.ntmps49
  go_wp2_with fail
  rw [← HW0.out]
  go_loopw [11] (fun s wr => ∃ k : Nat, k ≤ n ∧ s = .int .i64 ((t + k : Nat) : Int) ∧ Blk wr w.heap.size (X k) 23 ∧ Blk wr (w.heap.size + 1) Zd 23 ∧ Below w.heap.size w wr) (fun s _ => m - (intOf s).toNat)
  case atStart => exact ⟨0, Nat.zero_le _, rfl, HS.out⟩
  case round =>
    clear HS
    obtain ⟨k, hk, rfl, hV, hZ, hbel⟩ := hrel
    obtain ⟨p, hp⟩ : ∃ p, p = t + k := ⟨_, rfl⟩
    rw [← hp]
    by_cases hlt : p < m
    · have hlt' : (p : Int) < m := by omega
      have HP := Lib.hid hp
      have H := Lib.hid (And.intro hV (And.intro hZ hbel))
      clear hp hV hZ hbel
      go_wp2_with fail
      try go_frame
      obtain ⟨I3, hI3⟩ : ∃ I3, I3 = [(i : Int), (c : Int), (p : Int)] := ⟨_, rfl⟩
      obtain ⟨a, ha⟩ : ∃ a, a = Sg.ints I3 := ⟨_, rfl⟩
      obtain ⟨V, hV⟩ : ∃ V, V = Sg.adv i c t k v := ⟨_, rfl⟩
      have hXV : X k = V.map bv := by rw [HX.out, hV]
      have lV : V.length = 16 := by rw [hV]; exact adv_len _ _ _ _ _ hv
      have hpi : p ≤ 1000000 := by have := HM.out; omega
      have hII : ∀ n ∈ I3, M.I64 n := by
        rw [hI3]
        intro n hn
        simp only [List.mem_cons, List.not_mem_nil, or_false] at hn
        unfold M.I64
        omega
      have hI3l : I3.length = 3 := by rw [hI3]; rfl
      have hal : a.length ≤ 36 := by rw [ha]; have := ints_len I3 hII (by omega); omega
      have hnext : (Sg.of 5 [a, V]).map bv = X (k + 1) := by rw [HX.out, adv_snoc, ← hV, ha, hI3, HP.out]
      have hI3c := (fun (A : Option Addr) (W : World) h => (ints_any A 3 I3 W h (by rw [hI3l]; decide) (by decide) (by rw [hI3l]; decide) hII).mono fun e w' h => makes_gives h)
      rw [hI3l, show M.encL M.encI I3 = a from ha.symm] at hI3c
      refine wp_region_list [18, 19, 20, 21, 22, 23, 24, 25, 26, 27] [.is (.int .i64 i), .is (.int .i64 c), .is (.int .i64 p), .row (I3.map iv) 3, .bytes a, .is (.string (bs a)), .is (.slice (some ⟨w.heap.size, 0, none⟩) 16 16), .is (.string (bs V)), .row ([bs a, bs V].map sv) 2, .is (.agg (X (k + 1)).toArray)] (by kernel_rfl) (by kernel_rfl) ?_ ?_
      · intro z hz b w' hb hd hx o ho
        match z, hz with
        | 0, _ =>
          obtain rfl := Option.some.inj ho
          exact ⟨hx 1 rfl, Below.refl _ _⟩
        | 1, _ =>
          obtain rfl := Option.some.inj ho
          exact ⟨hx 2 rfl, Below.refl _ _⟩
        | 2, _ =>
          obtain rfl := Option.some.inj ho
          exact ⟨hx 11 rfl, Below.refl _ _⟩
        | 3, _ =>
          obtain rfl := Option.some.inj ho
          have e0 : b.tmps.getD 18 undef = .int .i64 i := hd 0 (by kernel_rfl) (by decide)
          have e1 : b.tmps.getD 19 undef = .int .i64 c := hd 1 (by kernel_rfl) (by decide)
          have e2 : b.tmps.getD 20 undef = .int .i64 p := hd 2 (by kernel_rfl) (by decide)
          have hbs := build3 w' i c p
          rw [← e0, ← e1, ← e2] at hbs
          refine runs_value (X := Instr.buildSlice 25 3 #[(0, b.tmps.getD 18 undef), (1, b.tmps.getD 19 undef), (2, b.tmps.getD 20 undef)]) (by unfold execOp; simp [Act.eval]) hbs ⟨⟨some ⟨w'.heap.size, 0, none⟩, rfl, ?_⟩, (Below.refl _ _).alloc (Nat.le_refl _) _⟩
          rw [e0, e1, e2, hI3]
          exact rd_new w' [.int .i64 i, .int .i64 c, .int .i64 p] _
        | 4, _ =>
          obtain rfl := Option.some.inj ho
          obtain ⟨A, e3, h3⟩ := hd 3 (by kernel_rfl) (by decide)
          refine runs_call rfl (fun _ _ => rfl) ?_
          show Calls _ _ #[b.tmps.getD 21 undef] w' _
          rw [show b.tmps.getD 21 undef = _ from e3]
          refine (hI3c A w' h3).mono fun e w'' h => ?_
          obtain ⟨A', c', h1, h2, h3, h4, h5⟩ := h
          exact ⟨_, h1, ⟨A', c', rfl, h2, h3, h4⟩, h5⟩
        | 5, _ =>
          obtain rfl := Option.some.inj ho
          obtain ⟨A', c', e2, h1, h2, h3⟩ := hd 4 (by kernel_rfl) (by decide)
          have hcv := conv_bytes w' _ A' a c' h1
          rw [← show b.tmps.getD 22 undef = _ from e2] at hcv
          exact runs_value rfl hcv ⟨rfl, Below.refl _ _⟩
        | 6, _ =>
          obtain rfl := Option.some.inj ho
          have e5 : b.tmps.getD 5 undef = .pointer (some ⟨w.heap.size, 0, none⟩) := hx 5 rfl
          have hr := slice_b16 w' w.heap.size
          rw [← e5] at hr
          exact runs_value rfl hr ⟨rfl, Below.refl _ _⟩
        | 7, _ =>
          obtain rfl := Option.some.inj ho
          have e4 : b.tmps.getD 24 undef = .slice (some ⟨w.heap.size, 0, none⟩) 16 16 := hd 6 (by kernel_rfl) (by decide)
          have hB := H.out.1.below hb H.out.1.lt
          rw [hXV] at hB
          have hcv := dig_conv w' w.heap.size V lV hB
          rw [← e4] at hcv
          exact runs_value rfl hcv ⟨rfl, Below.refl _ _⟩
        | 8, _ =>
          obtain rfl := Option.some.inj ho
          have e4 : b.tmps.getD 23 undef = .string (bs a) := hd 5 (by kernel_rfl) (by decide)
          have e6 : b.tmps.getD 25 undef = .string (bs V) := hd 7 (by kernel_rfl) (by decide)
          have hbs := build2s w' (bs a) (bs V)
          rw [← e4, ← e6] at hbs
          refine runs_value (X := Instr.buildSlice 59 2 #[(0, b.tmps.getD 23 undef), (1, b.tmps.getD 25 undef)]) (by unfold execOp; simp [Act.eval]) hbs ⟨⟨some ⟨w'.heap.size, 0, none⟩, rfl, ?_⟩, (Below.refl _ _).alloc (Nat.le_refl _) _⟩
          rw [e4, e6]
          exact rd_new w' [.string (bs a), .string (bs V)] _
        | 9, _ =>
          obtain rfl := Option.some.inj ho
          obtain ⟨A, e7, h7⟩ := hd 8 (by kernel_rfl) (by decide)
          refine runs_call rfl (fun _ _ => rfl) ?_
          show Calls _ _ #[.int .i64 5, b.tmps.getD 26 undef] w' _
          rw [show b.tmps.getD 26 undef = _ from e7]
          exact (of_two 5 (by omega) A a V w' h7 (by omega) (by omega) (HR.out.below (H.out.2.2.trans (hb.mono H.out.2.2.size)) (Nat.le_refl _))).mono fun e w'' h => ⟨_, h.1, by rw [← hnext]; rfl, h.2⟩
      · intro vals w' hb hf
        have e8 : vals 9 = .agg (X (k + 1)).toArray := hf 9 (by decide)
        simp only [puts, List.length_cons, List.length_nil, Nat.zero_add, Nat.reduceAdd, List.drop_succ_cons, List.drop_zero, e8]
        have hV2 := H.out.1.below hb H.out.1.lt
        have hZ2 := H.out.2.1.below hb H.out.2.1.lt
        have hb2 := H.out.2.2.trans (hb.mono H.out.2.2.size)
        have t1 : w'.there w.heap.size 0 (X (k + 1)).toArray.size := hV2.there 0 _ (by rw [List.size_toArray, LX.out.1, LX.out.1]; omega)
        have d1 := hV2.whole (X (k + 1)) (by rw [LX.out.1, LX.out.1])
        have c1 : Blk (w'.setCells w.heap.size 0 (X (k + 1))) (w.heap.size + 1) Zd 23 := Blk.outside _ _ _ _ hZ2 (by omega)
        have b1 : Below w.heap.size w (w'.setCells w.heap.size 0 (X (k + 1))) := below_setCells _ (Nat.le_refl _) _ _ _ hb2
        have T1 := Lib.hid t1
        have K1 := Lib.hid (And.intro d1 (And.intro c1 b1))
        have Y := Lib.hid (YX.out (k + 1))
        have O := oX (k + 1)
        clear e8 hV2 hZ2 hb2 t1 d1 c1 b1 hb hf hI3 ha hV hXV lV hII hI3l hal hnext hI3c
        have hpp : p = t + k := HP.out
        go_frame
        go_wp2_with (refine wpList_store_mid rfl 23 (.tmp 5) (.tmp 27) rfl w.heap.size 0 (X (k + 1)).toArray rfl rfl T1.out Y.out O ?_)
        have hmm : m = t + n := HM.out
        refine ⟨⟨k + 1, by omega, ?_, K1.out⟩, by simp [intOf]; omega⟩
        congr 1
    · have hpm : k = n := by have := HM.out; omega
      have hge : (m : Int) ≤ p := by have := HM.out; omega
      rw [hpm] at hV
      have t1 : wr.there (w.heap.size + 1) 0 (X n).toArray.size := hZ.there 0 _ (by rw [List.size_toArray, LX.out.1, LX.out.2]; omega)
      have d1 := hZ.whole (X n) (by rw [LX.out.1, LX.out.2])
      have hb3 : Below w.heap.size w (wr.setCells (w.heap.size + 1) 0 (X n)) := below_setCells _ (by omega) _ _ _ hbel
      have HhW := Lib.hid hV
      have T1 := Lib.hid t1
      have D1 := Lib.hid d1
      have B3 := Lib.hid hb3
      have Y := Lib.hid (YX.out n)
      have O := oX n
      clear hpm hp hV t1 d1 hb3 hZ hbel
      go_wp2_with (first | (refine wpList_load_row rfl 23 (.tmp 5) rfl w.heap.size rfl _ (X n).toArray (0, 0) _ HhW.out Tryd.underlying23 rfl Y.out ?_) | (refine wpList_store_mid rfl 23 (.tmp 10) (.tmp 28) rfl (w.heap.size + 1) 0 (X n).toArray rfl rfl T1.out Y.out O ?_))
      refine bodyPost_ret (results_cell_row rfl _ _ (w.heap.size + 1) 23 _ (0, 0) _ rfl D1.out Tryd.underlying23 rfl Y.out) rfl ⟨rfl, B3.out⟩
end Go.Proofs.YtkelfcgomeojeaaDoor
end

section
/- What stays while a walk goes on. -/


namespace Go.Proofs.YtkelfcgomeojeaaDoor
open Go.RowKit
set_option linter.unusedVariables false
set_option maxRecDepth 100000

/-- What stays while a walk goes on. -/
def St (w : World) (ps : List (Option Addr × List Value)) (W : World) : Prop := Below w.heap.size w W ∧ HTab W ∧ Mem W ps
theorem St.step {w W W' : World} {ps : List (Option Addr × List Value)} (h : St w ps W) (hb : Below W.heap.size W W') : St w ps W' := ⟨h.1.trans (hb.mono h.1.size), h.2.1.next hb, h.2.2.step hb⟩
theorem St.add {w W : World} {ps : List (Option Addr × List Value)} {A : Option Addr} {l : List Value} (h : St w ps W) (hr : Rd W W.heap.size A l) : St w ((A, l) :: ps) W := ⟨h.1, h.2.1, h.2.2.add hr⟩
theorem St.get {w W : World} {ps : List (Option Addr × List Value)} (h : St w ps W) (A : Option Addr) (l : List Value) (hp : (A, l) ∈ ps) : Rd W W.heap.size A l := h.2.2.get A l hp
theorem Blk.rd {w : World} {b : Nat} {vs : List Value} {t : TypeId} (h : Blk w b vs t) : Rd w w.heap.size (some ⟨b, 0, none⟩) vs := fun _ => ⟨b, 0, rfl, h.lt, fun j u hu => by rw [Nat.zero_add]; exact h.cell j u hu⟩

end Go.Proofs.YtkelfcgomeojeaaDoor
end

section
/- The contract of sign.topValues. -/





namespace Go.Proofs.YtkelfcgomeojeaaDoor
open Go.RowKit
set_option linter.unusedVariables false
set_option maxRecDepth 100000

theorem own_nil0 (w : World) (base : Nat) (e : TypeId) (size : Nat) : w.ownsRow base e size (.slice none 0 0) 0 [] := ⟨by simp, .inl ⟨rfl, rfl⟩⟩
/-- The first k chains at the top, from the values that are shown. -/
def tv (i : Nat) (ds : List Nat) (l : List UInt8) (k : Nat) : List UInt8 := (List.range k).flatMap fun c => Sg.adv i c (ds.getD c 0) (3 - ds.getD c 0) (chunk l c)
theorem flat_succ (f : Nat → List UInt8) (k : Nat) : (List.range (k + 1)).flatMap f = (List.range k).flatMap f ++ f k := by
  rw [List.range_succ, List.flatMap_append]
  simp
theorem flat_len (f : Nat → List UInt8) (k : Nat) (h : ∀ c, c < k → (f c).length = 16) : ((List.range k).flatMap f).length = 16 * k := by
  induction k with
  | zero => rfl
  | succ k ih => rw [flat_succ, List.length_append, ih (fun c hc => h c (by omega)), h k (by omega)]; omega

set_option maxHeartbeats 4000000 in
theorem topValues_any (i : Nat) (ds : List Nat) (A : Option Addr) (cap : Nat) (s : ByteArray) (w : World) (hi : i ≤ 1000000) (hr : Rd w w.heap.size A (ds.map dv)) (hn : ds.length = 68) (hd : ∀ c, ds.getD c 0 ≤ 3) (hs : s.size = 1088) (hT : HTab w) :
    Calls Tryd.prog 36 #[.int .i64 i, .slice A 68 cap, .string s] w fun e w' => e = .returned (.string (bs (tv i ds (sb s) 68))) ∧ Below w.heap.size w w' := by
  obtain ⟨hzd, -⟩ := zero_of_info dig_zero
  obtain ⟨Zd, hZd⟩ : ∃ Zd, Zd = (H.zeros 16).map bv := ⟨_, rfl⟩
  rw [← hZd] at hzd
  have lZd : Zd.length = 16 := by rw [hZd, List.length_map, H.zeros_len]
  obtain ⟨f, hf⟩ : ∃ f : Nat → List UInt8, ∀ c, f c = Sg.adv i c (ds.getD c 0) (3 - ds.getD c 0) (chunk (sb s) c) := ⟨_, fun _ => rfl⟩
  have htv : tv i ds (sb s) 68 = (List.range 68).flatMap f := by unfold tv; congr 1; funext c; rw [hf]
  have hfl : ∀ c, c < 68 → (f c).length = 16 := fun c hc => by rw [hf]; exact adv_len _ _ _ _ _ (chunk_len _ _ (by rw [sb_len]; omega))
  have hfm : ∀ k, k ≤ 68 → ((List.range k).flatMap f).length = 16 * k := fun k hk => flat_len f k fun c hc => hfl c (by omega)
  obtain ⟨b, off, rfl, hlt0, hcell⟩ := hr (by rw [List.length_map]; omega)
  have HC := Lib.hid hcell
  have HF := Lib.hid (And.intro hf (And.intro htv (And.intro hfl hfm)))
  have LZ := Lib.hid lZd
  have HT := Lib.hid hT
  have HD := Lib.hid hd
  have HB := Lib.hid hlt0
  clear hr hcell hf htv hfl hfm lZd hT hd hlt0 hZd
  go_enter Tryd.func36, Tryd.ntmps36
  go_wp2_with fail
  go_loopw [7, 8, 9, 10, 13] (fun t _ _ _ n wr => ∃ k : Nat, k ≤ 68 ∧ n = .int .i64 k ∧ wr.ownsRow w.heap.size 5 1 t ((List.range k).flatMap f).length (((List.range k).flatMap f).map bv) ∧ Below w.heap.size w wr) (fun _ _ _ _ n _ => 68 - (intOf n).toNat)
  case atStart => exact ⟨0, by omega, rfl, own_nil0 _ _ _ _, Below.refl _ _⟩
  case round =>
    obtain ⟨k, hk, rfl, hown, hbel⟩ := hrel
    by_cases hlt : k < 68
    · have hlt' : (k : Int) < 68 := by omega
      have ik0 : (0 : Int) ≤ k := by omega
      obtain ⟨d, hd⟩ : ∃ d, d = ds.getD k 0 := ⟨_, rfl⟩
      have hd3 : d ≤ 3 := by rw [hd]; exact HD.out k
      have g1 : wr.cell? ⟨b, off + k, none⟩ = some (.int .i64 (d : Int)) := (hbel.cell HB.out).trans (HC.out k (dv d) (by rw [List.getElem?_map, getD_at ds k 0 (by omega), ← hd]; rfl))
      have lo : (chunk (sb s) k).length = 16 := chunk_len _ _ (by rw [sb_len]; omega)
      have c1 := digestAt_any s k wr (by omega) (by omega)
      rw [show ((sb s).drop (k * 16)).take 16 = chunk (sb s) k from rfl] at c1
      have c2 := fun (W : World) h => advance_any i k d (3 - d) (chunk (sb s) k) W hi (by omega) (by omega) lo h
      rw [show d + (3 - d) = 3 by omega, hd, ← HF.out.1 k, ← hd] at c2
      obtain ⟨T, hTT⟩ : ∃ T, T = (f k).map bv := ⟨_, rfl⟩
      have lT : T.length = 16 := by rw [hTT, List.length_map, HF.out.2.2.1 k hlt]
      have yT := size_dig lT
      have oT : T.toArray.all (·.oneCell') = true := all_oneCell_toArray (by rw [hTT]; exact bytes_one _)
      rw [← hTT] at c2
      have C1 := Lib.hid c1
      have C2 := Lib.hid c2
      have K := Lib.hid (And.intro hown hbel)
      have HTT := Lib.hid (And.intro hTT lT)
      have YT := Lib.hid yT
      clear c1 c2 hown hbel hTT lT yT lo hd
      go_wp2_with fail
      refine C1.out.mono ?_
      rintro e w2 ⟨rfl, hb2⟩
      have C2' := Lib.hid (C2.out w2 (HT.out.below (K.out.2.trans (hb2.mono K.out.2.size)) (Nat.le_refl _)))
      have K2 := Lib.hid (And.intro (own_below K.out.1 hb2 (Nat.le_refl _)) (K.out.2.trans (hb2.mono K.out.2.size)))
      clear hb2 C1 C2 K
      go_wp2_with fail
      refine C2'.out.mono ?_
      rintro e w3 ⟨rfl, hb3⟩
      obtain ⟨W4, hW4, m1, m2, m3⟩ := row_new w3 23 16 Zd T LZ.out HTT.out.2
      have h4 := hb3.trans (m3.mono hb3.size)
      have own4 := own_below K2.out.1 h4 (Nat.le_refl _)
      have b4 := K2.out.2.trans (h4.mono K2.out.2.size)
      have r4 : RdB W4 W4.heap.size (some ⟨w3.heap.size, 0, none⟩) (f k) := by unfold RdB; rw [← HTT.out.1]; exact m2.rd
      have hsl := slice_b16 W4 w3.heap.size
      have hl4 := HF.out.2.2.2 k hk
      have hl5 := HF.out.2.2.1 k hlt
      have hsucc := flat_succ f k
      have HSU := Lib.hid hsucc
      have HL := Lib.hid (And.intro hl4 hl5)
      have M1 := Lib.hid m1
      have HW4 := Lib.hid hW4
      have K4 := Lib.hid (And.intro own4 (And.intro b4 r4))
      clear hb3 m1 m2 m3 h4 own4 b4 r4 hW4 hl4 hl5 hsucc K2 C2'
      go_wp2_with (first | (refine wpList_store_mid rfl 23 (.tmp 10) (.tmp 24) rfl w3.heap.size 0 T.toArray rfl rfl M1.out YT.out oT ?_; rw [← HW4.out]) |
        (at_builtin; refine wpList_append_ownB _ rfl (.tmp 25) (.tmp 26) rfl w.heap.size _ ((List.range k).flatMap f) (f k) (some ⟨w3.heap.size, 0, none⟩) 16 rfl (by rw [HL.out.2]; rfl) K4.out.1 K4.out.2.2 (by rw [HL.out.1, HL.out.2]; omega) K4.out.2.1.size ?_; intro v5 w5 hown5 hgrow5; have hb5 := Lib.hid (K4.out.2.1.grown hgrow5 K4.out.2.1.size (fun j hj => (K4.out.1.lt j hj).1)); rw [← HSU.out] at hown5; clear hgrow5 K4))
      exact ⟨⟨k + 1, by omega, by go_num, hown5, hb5.out⟩, by simp [intOf]; omega⟩
    · have hk8 : k = 68 := by omega
      rw [hk8] at hown
      obtain ⟨q, hq⟩ : ∃ q, q = (List.range 68).flatMap f := ⟨_, rfl⟩
      rw [← hq] at hown
      obtain ⟨A5, c5, rfl, hr5, -, -⟩ := own_rd (B := 0) hown
      have hge : (68 : Int) ≤ k := by omega
      have hcv := conv_bytes wr _ A5 _ c5 hr5
      have B5 := Lib.hid hbel
      have HQ := Lib.hid hq
      clear hq hown hbel hr5
      go_wp2_with fail
      go_ret
      exact ⟨by rw [HF.out.2.1, ← HQ.out]; rfl, B5.out⟩
end Go.Proofs.YtkelfcgomeojeaaDoor
end

