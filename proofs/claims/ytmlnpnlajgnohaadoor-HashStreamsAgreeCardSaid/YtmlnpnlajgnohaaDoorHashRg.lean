/- The walk of HashStreamsAgree. -/
import Derived.Test.YtmlnpnlajgnohaaDoorHashRb
namespace Go.Proofs.YtmlnpnlajgnohaaDoor
open Go.RowKit
set_option linter.unusedVariables false

theorem run_indexAt_strs (b off n cap k : Nat) (hk : k < n) (w : World) : (Instr.indexAt 27 (.slice (some ⟨b, off, none⟩) n cap) (.int .i64 (k : Int))).run Tryd.prog w = .ok (.pointer (some ⟨b, off + k, none⟩)) w := by
  have h1 : (k : Int) < n := by omega
  have h2 : (0 : Int) ≤ k := by omega
  go_simp
theorem run_load_str (w : World) (p : Addr) (s : ByteArray) (h : w.cell? p = some (.string s)) : (Instr.loadAt 9 (.pointer (some p))).run Tryd.prog w = .ok (.string s) w := by
  go_simp
theorem elem_strs : Tryd.prog.underlying 27 = some (.slice (Tryd.prog.elem 27)) := by kernel_rfl
theorem size_strs (W : World) : (sizeOf (Tryd.prog.elem 27)).run Tryd.prog W = .ok 1 W := by kernel_rfl
theorem cut_hs (W : World) (A : Option Addr) (len cap hi : Nat) (h2 : hi ≤ cap) :
    (Instr.slice 27 (.slice A len cap) none (some (.int .i64 (hi : Int))) none).run Tryd.prog W = .ok (.slice (cutA A 0 cap) hi cap) W := by
  rw [run_slice_h (P := Tryd.prog) (w := W) (t := 27) (a := A) (len := len) (cap := cap) elem_strs .i64 _ (by omega) (by omega), size_strs]
  simp [sliced, cutA]
theorem join_succ (l : List ByteArray) (k : Nat) (h : k < l.length) : joinB (l.take (k + 1)) = joinB (l.take k) ++ sb l[k] := flat_take_succ sb l k h
theorem join_take_len (l : List ByteArray) (hn : l.length ≤ 12) (h : ∀ s ∈ l, s.size ≤ 400) (k : Nat) : (joinB (l.take k)).length ≤ 4800 := by
  have h1 := joinB_len (l.take k) fun s hs => h s (List.mem_of_mem_take hs)
  have h2 : (l.take k).length ≤ 12 := by rw [List.length_take]; omega
  omega
theorem yS (m : List UInt8) : (Tryd.prog.info? 34).map (·.size) = some (Strm m).toArray.size := size_stream (Strm_len m)
theorem oS (m : List UInt8) : (Strm m).toArray.all (·.oneCell') = true := all_oneCell_toArray (Str_one _ _ _)
theorem add_s (m m' : List UInt8) (s : ByteArray) (w : World) (he : m ++ sb s = m') (hl : m'.length ≤ 1000000000) (ht : HTab w) :
    Calls Tryd.prog 15 #[.agg (Strm m).toArray, .string s] w fun e w' => e = .returned (.agg (Strm m').toArray) ∧ Below w.heap.size w w' := add_to m m' _ _ s w rfl rfl he hl ht
theorem load_s (w : World) (V : Nat) (m : List UInt8) (h : Blk w V (Strm m) 34) : (Instr.loadAt 34 (.pointer (some ⟨V, 0, none⟩))).run Tryd.prog w = .ok (.agg (Strm m).toArray) w :=
  run_loadAt_mid (P := Tryd.prog) w V 0 34 (Strm m) _ h.range Tryd.underlying34 rfl (by rw [← List.size_toArray]; exact yS m)
/-- Streams in variables, some messages each. -/
def Vars (W : World) (vs : List (Nat × List UInt8)) (wr : World) : Prop := (∀ v ∈ vs, Blk wr v.1 (Strm v.2) 34 ∧ W.heap.size ≤ v.1) ∧ Below W.heap.size W wr
theorem Vars.step {W wr w' : World} {vs : List (Nat × List UInt8)} (h : Vars W vs wr) (hb : Below wr.heap.size wr w') : Vars W vs w' :=
  ⟨fun v hv => ⟨(h.1 v hv).1.below hb (h.1 v hv).1.lt, (h.1 v hv).2⟩, h.2.trans (hb.mono h.2.size)⟩
theorem Vars.get {W wr : World} {vs : List (Nat × List UInt8)} (h : Vars W vs wr) (V : Nat) (m : List UInt8) (hv : (V, m) ∈ vs) : Blk wr V (Strm m) 34 := (h.1 _ hv).1
theorem Vars.add {W wr : World} {vs : List (Nat × List UInt8)} {V : Nat} {m : List UInt8} (h : Vars W vs wr) (hb : Blk wr V (Strm m) 34) (hV : W.heap.size ≤ V) : Vars W ((V, m) :: vs) wr :=
  ⟨fun v hv => by 
    rcases List.mem_cons.1 hv with rfl | hv
    · exact ⟨hb, hV⟩
    · exact h.1 v hv, h.2⟩
theorem Vars.store {W wr : World} {vs : List (Nat × List UInt8)} {V : Nat} {m m' : List UInt8} (h : Vars W ((V, m) :: vs) wr) (hne : ∀ v ∈ vs, v.1 ≠ V) : Vars W ((V, m') :: vs) (wr.setCells V 0 (Strm m')) := by
  have h0 := h.1 (V, m) (.head _)
  refine ⟨fun v hv => ?_, below_setCells _ h0.2 _ _ _ h.2⟩
  rcases List.mem_cons.1 hv with rfl | hv
  · exact ⟨h0.1.whole _ (by rw [Strm_len, Strm_len]), h0.2⟩
  · exact ⟨Blk.outside _ _ _ _ (h.1 v (.tail _ hv)).1 (hne v hv), (h.1 v (.tail _ hv)).2⟩
theorem Vars.drewN {W wr : World} {vs : List (Nat × List UInt8)} (h : Vars W vs wr) (n : Nat) : Vars W vs (wr.drewN n) := h.step (drewN_below (Below.refl _ _) n)

set_option maxHeartbeats 4000000 in
set_option maxRecDepth 100000 in
theorem streams_walk (A : Option Addr) (cap : Nat) (pieces : List ByteArray) (o : ByteArray) (z : Int) (W : World) (hz1 : 0 ≤ z) (hz2 : z < 256) (hR : RTab W) (hT : HTab W) (hr : Rd W W.heap.size A (pieces.map sv)) (hc : pieces.length ≤ cap) (hm : cap ≤ maxLen) :
    Calls Tryd.prog 4 #[.slice A pieces.length cap, .string o, .int .u8 z] W (Tells true W) := by
  obtain ⟨fa, hfa⟩ : ∃ fa, fa = fewB pieces := ⟨_, rfl⟩
  have cFa := fun (W : World) (h : Rd W W.heap.size A (pieces.map sv)) => few_any A cap pieces W h (by omega)
  rw [← hfa] at cFa
  obtain ⟨n, hn⟩ : ∃ n, n = pieces.length := ⟨_, rfl⟩
  have hml : n ≤ maxLen := by omega
  have hcn : n ≤ cap := by omega
  unfold maxLen at hml
  rw [← hn] at cFa ⊢
  have CFa := Lib.hid cFa
  have Hfa := Lib.hid hfa
  have Hn := Lib.hid hn
  have Hr := Lib.hid hr
  have HR := Lib.hid hR
  have HT := Lib.hid hT
  clear cFa hfa hn hr hR hc hm
  go_enter Tryd.func4, Tryd.ntmps4
  go_wp2_with fail
  refine (sanity_any W hT).mono ?_
  rintro e w1 ⟨rfl, hb1⟩
  clear hT
  go_wp2_with fail
  refine (CFa.out w1 ((Hr.out.below hb1).more hb1.size)).mono ?_
  rintro e w2 ⟨rfl, hb'⟩
  have hb2 := hb1.trans (hb'.mono hb1.size)
  clear hb1 hb' CFa
  cases fa with
  | false =>
    go_wp2_with fail
    go_ret
    exact ⟨rfl, hb2⟩
  | true =>
  by_cases ho : 400 < o.size
  · have hd : decide ((400 : Int) < o.size) = true := by simp; omega
    have hd' : (400 : Int) < o.size := by omega
    clear ho
    go_wp2_with fail
    go_ret
    exact ⟨rfl, hb2⟩
  have hd : decide ((400 : Int) < o.size) = false := by simp; omega
  have hd' : (o.size : Int) ≤ 400 := by omega
  have Ho := Lib.hid (show o.size ≤ 400 by omega)
  have fw := (fewB_iff pieces).1 Hfa.out.symm
  have hn12 : n ≤ 12 := by rw [Hn.out]; exact fw.1
  have Fw := Lib.hid fw
  have HB2 := Lib.hid hb2
  obtain ⟨kk, hkk⟩ : ∃ kk : Nat, kk = z.toNat % (n + 1) := ⟨_, rfl⟩
  have hkn : kk ≤ n := by rw [hkk]; have := Nat.mod_lt z.toNat (show 0 < n + 1 by omega); omega
  have hw0 : IntKind.i64.wrap z = z := i64_in _ (by omega) (by omega)
  have hw1 : z.tmod ((n : Int) + 1) = (kk : Int) := by
    rw [Int.tmod_eq_emod_of_nonneg hz1, hkk, Int.natCast_emod, Int.toNat_of_nonneg hz1]
    rfl
  have hw2 : IntKind.i64.wrap ((n : Int) + 1) = (n : Int) + 1 := i64_in _ (by omega) (by omega)
  have hne : ((n : Int) + 1 == 0) = false := by simp; omega
  obtain ⟨hzs0, -⟩ := zero_of_info stream_zero
  obtain ⟨Zs, hZs⟩ : ∃ Zs, Zs = stZero := ⟨_, rfl⟩
  have hzs : ∀ w, (zeroValue 34).run Tryd.prog w = .ok (.agg Zs.toArray) w := by rw [hZs]; exact hzs0
  have lZs : Zs.length = 73 := by rw [hZs]; exact stZero_len
  have LZ := Lib.hid lZs
  clear ho fw hb2 hkk hZs lZs hzs0
  go_wp2_with fail
  refine (begin_strm w2).mono ?_
  rintro e w3 ⟨rfl, hb'⟩
  obtain ⟨w4, hW4, t4, d4, e4⟩ := row_new w3 34 73 Zs (Strm []) LZ.out (Strm_len [])
  have hb3 := HB2.out.trans (hb'.mono HB2.out.size)
  have K4 : Hid (Vars W [(w3.heap.size, [])] w4) := Lib.hid ⟨fun v hv => by rw [List.mem_singleton.1 hv]; exact ⟨d4, hb3.size⟩, hb3.trans (e4.mono hb3.size)⟩
  have HW4 := Lib.hid hW4
  have T4 := Lib.hid t4
  clear hW4 t4 d4 e4 hb' hb3 HB2
  go_wp2_with (refine wpList_store_mid rfl 34 (.tmp 9) (.tmp 32) rfl w3.heap.size 0 (Strm []).toArray rfl rfl T4.out (yS []) (oS []) ?_; rw [← HW4.out])
  clear T4 HW4
  generalize w3.heap.size = V at *
  go_loopw [10] (fun i wr => ∃ k : Nat, k ≤ kk ∧ i = .int .i64 k ∧ Vars W [(V, joinB (pieces.take k))] wr) (fun i _ => kk - (intOf i).toNat)
  case atStart => exact ⟨0, Nat.zero_le _, rfl, K4.out⟩
  case round =>
    clear K4
    obtain ⟨k, hk, rfl, hV⟩ := hrel
    have K := Lib.hid hV
    clear hV
    by_cases hlt : k < kk
    · have ik : (k : Int) < kk := by omega
      have ik0 : (0 : Int) ≤ k := by omega
      obtain ⟨bb, off, rfl, hbb, hcell⟩ := Hr.out (by rw [List.length_map, ← Hn.out]; omega)
      obtain ⟨s, hs⟩ : ∃ s, s = pieces[k]'(by rw [← Hn.out]; omega) := ⟨_, rfl⟩
      have hck : wr.cell? ⟨bb, off + k, none⟩ = some (.string s) := (K.out.2.cell hbb).trans (hcell k (sv s) (by rw [List.getElem?_map, List.getElem?_eq_getElem (by rw [← Hn.out]; omega), hs]; rfl))
      have hlt2 : bb < wr.heap.size := Nat.lt_of_lt_of_le hbb K.out.2.size
      have hsucc := join_succ pieces k (by rw [← Hn.out]; omega)
      rw [← hs] at hsucc
      have hlen := join_take_len pieces Fw.out.1 Fw.out.2 (k + 1)
      obtain ⟨m, hm⟩ : ∃ m, m = joinB (pieces.take k) := ⟨_, rfl⟩
      obtain ⟨m', hm'⟩ : ∃ m, m = joinB (pieces.take (k + 1)) := ⟨_, rfl⟩
      rw [← hm] at K hsucc
      rw [← hm'] at hsucc hlen
      have HM := Lib.hid (And.intro hsucc (And.intro hlen hm'))
      have HC := Lib.hid (And.intro hck hlt2)
      have hkn2 : k < n := by omega
      clear hcell hs hsucc hlen hm hm' hck hlt2 hbb
      go_wp2_with fail
      refine wp_region_list [38, 39, 40, 41, 42, 43] [.is (.agg (Strm m).toArray), .is (.slice (some ⟨bb, off, none⟩) n cap), .is (.int .i64 k), .is (.pointer (some ⟨bb, off + k, none⟩)), .is (.string s), .is (.agg (Strm m').toArray)] (by kernel_rfl) (by kernel_rfl) ?_ ?_
      · intro i hi b w' hb hd hx o' ho'
        match i, hi with
        | 0, _ =>
          obtain rfl := Option.some.inj ho'
          have e5 : b.tmps.getD 9 undef = .pointer (some ⟨V, 0, none⟩) := hx 9 rfl
          have hld := load_s w' V m ((K.out.step hb).get V m (.head _))
          rw [← e5] at hld
          exact runs_value rfl hld ⟨rfl, Below.refl _ _⟩
        | 1, _ => obtain rfl := Option.some.inj ho'; exact ⟨hx 0 rfl, Below.refl _ _⟩
        | 2, _ => obtain rfl := Option.some.inj ho'; exact ⟨hx 10 rfl, Below.refl _ _⟩
        | 3, _ =>
          obtain rfl := Option.some.inj ho'
          have e1 : b.tmps.getD 39 undef = .slice (some ⟨bb, off, none⟩) n cap := hd 1 (by kernel_rfl) (by decide)
          have e2 : b.tmps.getD 40 undef = .int .i64 k := hd 2 (by kernel_rfl) (by decide)
          have hv := run_indexAt_strs bb off n cap k hkn2 w'
          rw [← e1, ← e2] at hv
          exact runs_value rfl hv ⟨rfl, Below.refl _ _⟩
        | 4, _ =>
          obtain rfl := Option.some.inj ho'
          have e1 : b.tmps.getD 41 undef = .pointer (some ⟨bb, off + k, none⟩) := hd 3 (by kernel_rfl) (by decide)
          have hv := run_load_str w' ⟨bb, off + k, none⟩ s ((hb.cell (p := ⟨bb, off + k, none⟩) HC.out.2).trans HC.out.1)
          rw [← e1] at hv
          exact runs_value rfl hv ⟨rfl, Below.refl _ _⟩
        | 5, _ =>
          obtain rfl := Option.some.inj ho'
          have e0 : b.tmps.getD 38 undef = .agg (Strm m).toArray := hd 0 (by kernel_rfl) (by decide)
          have e3 : b.tmps.getD 42 undef = .string s := hd 4 (by kernel_rfl) (by decide)
          refine runs_call rfl (fun _ _ => rfl) ?_
          show Calls _ _ #[b.tmps.getD 38 undef, b.tmps.getD 42 undef] w' _
          rw [e0, e3]
          exact (add_s m m' s w' HM.out.1.symm (by have := HM.out.2.1; omega) (HT.out.below (K.out.step hb).2 (Nat.le_refl _))).mono fun e w'' h => ⟨_, h.1, rfl, h.2⟩
      · intro vals w' hb hf
        have e5 : vals 5 = .agg (Strm m').toArray := hf 5 (by decide)
        simp only [puts, List.length_cons, List.length_nil, Nat.zero_add, Nat.reduceAdd, List.drop_succ_cons, List.drop_zero, e5]
        have hK := K.out.step hb
        have t1 : w'.there V 0 (Strm m').toArray.size := (hK.get V m (.head _)).there 0 _ (by rw [List.size_toArray, Strm_len, Strm_len]; omega)
        have hK2 := hK.store (m' := m') (fun v hv => by cases hv)
        rw [HM.out.2.2] at hK2
        rw [← HM.out.2.2] at hK2
        have T1 := Lib.hid t1
        have K5 := Lib.hid hK2
        clear e5 hb hf hK t1 hK2
        go_frame
        go_wp2_with (refine wpList_store_mid rfl 34 (.tmp 9) (.tmp 43) rfl V 0 (Strm m').toArray rfl rfl T1.out (yS m') (oS m') ?_)
        exact ⟨⟨k + 1, by omega, by go_num, by rw [← HM.out.2.2]; exact K5.out⟩, by simp [intOf]; omega⟩
    · have hkk2 : k = kk := by omega
      have ik : (kk : Int) ≤ k := by omega
      obtain ⟨mk, hmk⟩ : ∃ m, m = joinB (pieces.take kk) := ⟨_, rfl⟩
      have hV := K.out
      rw [hkk2, ← hmk] at hV
      obtain ⟨w5, hW5, t5, d5, e5⟩ := row_new wr 34 73 Zs (Strm mk) LZ.out (Strm_len mk)
      have hrg := (hV.get V mk (.head _)).range
      obtain ⟨V2, hV2⟩ : ∃ V2, V2 = wr.heap.size := ⟨_, rfl⟩
      rw [← hV2] at d5
      have hVV : V ≠ V2 := by rw [hV2]; exact Nat.ne_of_lt (hV.get V mk (.head _)).lt
      have K5 : Hid (Vars W [(V, mk), (V2, mk)] w5) := Lib.hid ⟨fun v hv => by
        rcases List.mem_cons.1 hv with rfl | hv
        · exact ((hV.step e5).1 _ (.head _))
        · rw [List.mem_singleton.1 hv]
          exact ⟨d5, by rw [hV2]; exact hV.2.size⟩, (hV.step e5).2⟩
      have HV2 := Lib.hid (And.intro hV2 hVV)
      have HW5 := Lib.hid hW5
      have T5 := Lib.hid t5
      have Hrg := Lib.hid hrg
      have Hmk := Lib.hid hmk
      have NS : Hid ((Tryd.prog.info? 34).map (·.size) = some (Strm mk).length) := Lib.hid (by rw [← List.size_toArray]; exact yS mk)
      clear hkk2 hV hmk hW5 t5 d5 e5 hrg hV2 hVV K
      go_wp2_with (first | (refine wpList_load_wanted 34 (.tmp 9) rfl rfl V 0 rfl (Strm mk) _ Hrg.out Tryd.underlying34 rfl NS.out ?_) | (refine wpList_store_mid rfl 34 (.tmp 11) (.tmp 44) rfl wr.heap.size 0 (Strm mk).toArray rfl rfl T5.out (yS mk) (oS mk) ?_; rw [← HW5.out, ← HV2.out.1]))
      go_loopw [12] (fun i wr => ∃ k : Nat, kk ≤ k ∧ k ≤ n ∧ i = .int .i64 k ∧ Vars W [(V, joinB (pieces.take k)), (V2, mk)] wr) (fun i _ => n - (intOf i).toNat)
      case atStart => exact ⟨kk, Nat.le_refl _, hkn, rfl, by rw [← Hmk.out]; exact K5.out⟩
      case round =>
        clear K5
        clear hk hlt ik
        obtain ⟨k, hk0, hk, rfl, hV⟩ := hrel
        have K := Lib.hid hV
        clear hV
        by_cases hlt : k < n
        · have ik : (k : Int) < n := by omega
          have ik0 : (0 : Int) ≤ k := by omega
          obtain ⟨bb, off, rfl, hbb, hcell⟩ := Hr.out (by rw [List.length_map, ← Hn.out]; omega)
          obtain ⟨s, hs⟩ : ∃ s, s = pieces[k]'(by rw [← Hn.out]; omega) := ⟨_, rfl⟩
          have hck : wr.cell? ⟨bb, off + k, none⟩ = some (.string s) := (K.out.2.cell hbb).trans (hcell k (sv s) (by rw [List.getElem?_map, List.getElem?_eq_getElem (by rw [← Hn.out]; omega), hs]; rfl))
          have hlt2 : bb < wr.heap.size := Nat.lt_of_lt_of_le hbb K.out.2.size
          have hsucc := join_succ pieces k (by rw [← Hn.out]; omega)
          rw [← hs] at hsucc
          have hlen := join_take_len pieces Fw.out.1 Fw.out.2 (k + 1)
          obtain ⟨m, hm⟩ : ∃ m, m = joinB (pieces.take k) := ⟨_, rfl⟩
          obtain ⟨m', hm'⟩ : ∃ m, m = joinB (pieces.take (k + 1)) := ⟨_, rfl⟩
          rw [← hm] at K hsucc
          rw [← hm'] at hsucc hlen
          have HM := Lib.hid (And.intro hsucc (And.intro hlen hm'))
          have HC := Lib.hid (And.intro hck hlt2)
          have hkn2 : k < n := by omega
          clear hcell hs hsucc hlen hm hm' hck hlt2 hbb
          go_wp2_with fail
          refine wp_region_list [52, 53, 54, 55, 56, 57] [.is (.agg (Strm m).toArray), .is (.slice (some ⟨bb, off, none⟩) n cap), .is (.int .i64 k), .is (.pointer (some ⟨bb, off + k, none⟩)), .is (.string s), .is (.agg (Strm m').toArray)] (by kernel_rfl) (by kernel_rfl) ?_ ?_
          · intro i hi b w' hb hd hx o' ho'
            match i, hi with
            | 0, _ =>
              obtain rfl := Option.some.inj ho'
              have e5 : b.tmps.getD 9 undef = .pointer (some ⟨V, 0, none⟩) := hx 9 rfl
              have hld := load_s w' V m ((K.out.step hb).get V m (.head _))
              rw [← e5] at hld
              exact runs_value rfl hld ⟨rfl, Below.refl _ _⟩
            | 1, _ => obtain rfl := Option.some.inj ho'; exact ⟨hx 0 rfl, Below.refl _ _⟩
            | 2, _ => obtain rfl := Option.some.inj ho'; exact ⟨hx 12 rfl, Below.refl _ _⟩
            | 3, _ =>
              obtain rfl := Option.some.inj ho'
              have e1 : b.tmps.getD 53 undef = .slice (some ⟨bb, off, none⟩) n cap := hd 1 (by kernel_rfl) (by decide)
              have e2 : b.tmps.getD 54 undef = .int .i64 k := hd 2 (by kernel_rfl) (by decide)
              have hv := run_indexAt_strs bb off n cap k hkn2 w'
              rw [← e1, ← e2] at hv
              exact runs_value rfl hv ⟨rfl, Below.refl _ _⟩
            | 4, _ =>
              obtain rfl := Option.some.inj ho'
              have e1 : b.tmps.getD 55 undef = .pointer (some ⟨bb, off + k, none⟩) := hd 3 (by kernel_rfl) (by decide)
              have hv := run_load_str w' ⟨bb, off + k, none⟩ s ((hb.cell (p := ⟨bb, off + k, none⟩) HC.out.2).trans HC.out.1)
              rw [← e1] at hv
              exact runs_value rfl hv ⟨rfl, Below.refl _ _⟩
            | 5, _ =>
              obtain rfl := Option.some.inj ho'
              have e0 : b.tmps.getD 52 undef = .agg (Strm m).toArray := hd 0 (by kernel_rfl) (by decide)
              have e3 : b.tmps.getD 56 undef = .string s := hd 4 (by kernel_rfl) (by decide)
              refine runs_call rfl (fun _ _ => rfl) ?_
              show Calls _ _ #[b.tmps.getD 52 undef, b.tmps.getD 56 undef] w' _
              rw [e0, e3]
              exact (add_s m m' s w' HM.out.1.symm (by have := HM.out.2.1; omega) (HT.out.below (K.out.step hb).2 (Nat.le_refl _))).mono fun e w'' h => ⟨_, h.1, rfl, h.2⟩
          · intro vals w' hb hf
            have e5 : vals 5 = .agg (Strm m').toArray := hf 5 (by decide)
            simp only [puts, List.length_cons, List.length_nil, Nat.zero_add, Nat.reduceAdd, List.drop_succ_cons, List.drop_zero, e5]
            have hK := K.out.step hb
            have t1 : w'.there V 0 (Strm m').toArray.size := (hK.get V m (.head _)).there 0 _ (by rw [List.size_toArray, Strm_len, Strm_len]; omega)
            have hK2 := hK.store (m' := m') (fun v hv => by rw [List.mem_singleton.1 hv]; exact fun e => HV2.out.2 e.symm)
            rw [HM.out.2.2] at hK2
            rw [← HM.out.2.2] at hK2
            have T1 := Lib.hid t1
            have K5 := Lib.hid hK2
            clear e5 hb hf hK t1 hK2
            go_frame
            go_wp2_with (refine wpList_store_mid rfl 34 (.tmp 9) (.tmp 57) rfl V 0 (Strm m').toArray rfl rfl T1.out (yS m') (oS m') ?_)
            exact ⟨⟨k + 1, by omega, by omega, by go_num, by rw [← HM.out.2.2]; exact K5.out⟩, by simp [intOf]; omega⟩
        · have hkn3 : k = n := by omega
          have ik : (n : Int) ≤ k := by omega
          obtain ⟨mw, hmw⟩ : ∃ m, m = joinB pieces := ⟨_, rfl⟩
          have hV := K.out
          rw [hkn3, Hn.out, List.take_length, ← hmw] at hV
          have KV := Lib.hid hV
          have Hmw := Lib.hid hmw
          clear hkn3 hV hmw K
          have hlw : mw.length ≤ 4800 := by
            have := join_take_len pieces Fw.out.1 Fw.out.2 pieces.length
            rwa [List.take_length, ← Hmw.out] at this
          have hlk : mk.length ≤ 4800 := by rw [Hmk.out]; exact join_take_len pieces Fw.out.1 Fw.out.2 kk
          obtain ⟨mf, hmf⟩ : ∃ m, m = mk ++ sb o := ⟨_, rfl⟩
          have hlf : mf.length ≤ 5200 := by rw [hmf, List.length_append, sb_len]; have := Ho.out; omega
          have NV : Hid (wr.rangeAt V2 0 (Strm mk)) := Lib.hid (KV.out.get V2 mk (.tail _ (.head _))).range
          have cA := add_s mk mf o wr hmf.symm (by omega) (HT.out.below KV.out.2 (Nat.le_refl _))
          have CA := Lib.hid cA
          have HL := Lib.hid (And.intro hlw (And.intro hlk (And.intro hlf hmf)))
          clear hlw hlk hmf hlf cA
          go_wp2_with (refine wpList_load_wanted 34 (.tmp 11) rfl rfl V2 0 rfl (Strm mk) _ NV.out Tryd.underlying34 rfl NS.out ?_)
          refine CA.out.mono ?_
          rintro e w6 ⟨rfl, hb6⟩
          obtain ⟨w7, hW7, t7, d7, e7⟩ := row_new w6 34 73 Zs (Strm mf) LZ.out (Strm_len mf)
          have K6 := KV.out.step hb6
          have K7 := Lib.hid ((K6.step e7).add (V := w6.heap.size) (m := mf) d7 K6.2.size)
          have HW7 := Lib.hid hW7
          have T7 := Lib.hid t7
          clear hW7 t7 d7 e7 hb6 K6 KV CA NV
          go_wp2_with (refine wpList_store_mid rfl 34 (.tmp 13) (.tmp 60) rfl w6.heap.size 0 (Strm mf).toArray rfl rfl T7.out (yS mf) (oS mf) ?_; rw [← HW7.out])
          clear T7 HW7
          generalize w6.heap.size = V3 at *
          have cJ := joined_any A cap pieces w7 ((Hr.out.below K7.out.2).more K7.out.2.size) Fw.out.1 Fw.out.2
          rw [← Hn.out, ← Hmw.out] at cJ
          obtain ⟨sw, hsw⟩ : ∃ s, s = bs mw := ⟨_, rfl⟩
          rw [← hsw] at cJ
          refine cJ.mono ?_
          clear cJ
          rintro e w8 ⟨rfl, hb'⟩
          have K8 := Lib.hid (K7.out.step hb')
          clear hb' K7
          have hcut := cut_hs w8 A n cap kk (by omega)
          have hpart : Rd w8 w8.heap.size (cutA A 0 cap) ((pieces.take kk).map sv) := by
            have := Rd.cut (lo := 0) (hi := kk) (cap := cap) ((Hr.out.below K8.out.2).more K8.out.2.size) (by rw [List.length_map, ← Hn.out]; exact hkn) (by omega)
            rwa [List.drop_zero, ← List.map_take] at this
          obtain ⟨Ac, hAc⟩ : ∃ Ac, Ac = cutA A 0 cap := ⟨_, rfl⟩
          rw [← hAc] at hcut hpart
          have cH := joined_any Ac cap (pieces.take kk) w8 hpart (by rw [List.length_take, ← Hn.out]; omega) (fun s hs => Fw.out.2 s (List.mem_of_mem_take hs))
          rw [List.length_take, ← Hn.out, Nat.min_eq_left hkn, ← Hmk.out] at cH
          obtain ⟨sh, hsh⟩ : ∃ s, s = bs mk := ⟨_, rfl⟩
          rw [← hsh] at cH
          have CH := Lib.hid cH
          have bw : sb sw = mw := by rw [hsw, sb_bs]
          have bh : sb sh = mk := by rw [hsh, sb_bs]
          have bf : sb (sh ++ o) = mf := by rw [sb_append, bh, HL.out.2.2.2]
          have zh : (sh.size : Int) ≤ 4800 := by rw [← sb_len, bh]; have := HL.out.2.1; omega
          have BB := Lib.hid (And.intro bw (And.intro bh bf))
          clear hpart hAc cH hsw hsh bw bh bf
          go_wp2_with fail
          refine CH.out.mono ?_
          rintro e w9 ⟨rfl, hb'⟩
          have K9 := Lib.hid (K8.out.step hb')
          clear hb' K8 hcut CH
          obtain ⟨R1, hR1⟩ : ∃ R, R = (H.sha mw).map bv := ⟨_, rfl⟩
          obtain ⟨R2, hR2⟩ : ∃ R, R = (H.sha mk).map bv := ⟨_, rfl⟩
          obtain ⟨R3, hR3⟩ : ∃ R, R = (H.sha mf).map bv := ⟨_, rfl⟩
          have HR1 := Lib.hid hR1
          have HR2 := Lib.hid hR2
          have HR3 := Lib.hid hR3
          clear hR1 hR2 hR3
          have eq1 : ∀ w, (Op.equalIn 10000 24 (.agg R1.toArray) (.agg R1.toArray)).run Tryd.prog w = .ok true w := fun w => by
            have := eq_sum (H.sha mw) (H.sha mw) (H.sha_len _) (H.sha_len _) w
            rwa [← HR1.out, decide_eq_true rfl] at this
          have eq2 : ∀ w, (Op.equalIn 10000 24 (.agg R2.toArray) (.agg R2.toArray)).run Tryd.prog w = .ok true w := fun w => by
            have := eq_sum (H.sha mk) (H.sha mk) (H.sha_len _) (H.sha_len _) w
            rwa [← HR2.out, decide_eq_true rfl] at this
          have eq3 : ∀ w, (Op.equalIn 10000 24 (.agg R3.toArray) (.agg R3.toArray)).run Tryd.prog w = .ok true w := fun w => by
            have := eq_sum (H.sha mf) (H.sha mf) (H.sha_len _) (H.sha_len _) w
            rwa [← HR3.out, decide_eq_true rfl] at this
          have nw : Hid ((Tryd.prog.info? 34).map (·.size) = some (Strm mw).length) := Lib.hid (by rw [← List.size_toArray]; exact yS mw)
          have nf : Hid ((Tryd.prog.info? 34).map (·.size) = some (Strm mf).length) := Lib.hid (by rw [← List.size_toArray]; exact yS mf)
          have g1 : Hid (w9.rangeAt V 0 (Strm mw)) := Lib.hid (K9.out.get V mw (.tail _ (.head _))).range
          go_wp2_with (refine wpList_load_wanted 34 (.tmp 9) rfl rfl V 0 rfl (Strm mw) _ g1.out Tryd.underlying34 rfl nw.out ?_)
          refine (sum_of mw _ R1 w9 rfl HR1.out (by have := HL.out.1; omega) (HT.out.below K9.out.2 (Nat.le_refl _))).mono ?_
          rintro e w10 ⟨rfl, hb'⟩
          have K10 := Lib.hid (K9.out.step hb')
          clear hb' K9 g1
          obtain ⟨w11, A11, c11, hcv, hr11, hbc⟩ := conv_rd w10 sw
          have cS := refSum_any A11 c11 (sb sw) w11 hr11 (by rw [BB.out.1]; have := HL.out.1; omega) (HR.out.below ((K10.out.step hbc).2) (Nat.le_refl _))
          rw [sb_len, BB.out.1, ← HR1.out] at cS
          have CS := Lib.hid cS
          have K11 := Lib.hid (K10.out.step hbc)
          clear hr11 hbc cS K10
          go_wp2_with fail
          refine CS.out.mono ?_
          rintro e w12 ⟨rfl, hb'⟩
          have K12 := Lib.hid (K11.out.step hb')
          clear hb' K11 CS hcv
          have g1 : Hid (w12.rangeAt V2 0 (Strm mk)) := Lib.hid (K12.out.get V2 mk (.tail _ (.tail _ (.head _)))).range
          go_wp2_with (refine wpList_load_wanted 34 (.tmp 11) rfl rfl V2 0 rfl (Strm mk) _ g1.out Tryd.underlying34 rfl NS.out ?_)
          refine (sum_of mk _ R2 w12 rfl HR2.out (by have := HL.out.2.1; omega) (HT.out.below K12.out.2 (Nat.le_refl _))).mono ?_
          rintro e w13 ⟨rfl, hb'⟩
          have K13 := Lib.hid (K12.out.step hb')
          clear hb' K12 g1
          obtain ⟨w14, A14, c14, hcv, hr14, hbc⟩ := conv_rd w13 sh
          have cS := refSum_any A14 c14 (sb sh) w14 hr14 (by rw [BB.out.2.1]; have := HL.out.2.1; omega) (HR.out.below ((K13.out.step hbc).2) (Nat.le_refl _))
          rw [sb_len, BB.out.2.1, ← HR2.out] at cS
          have CS := Lib.hid cS
          have K14 := Lib.hid (K13.out.step hbc)
          clear hr14 hbc cS K13
          go_wp2_with fail
          refine CS.out.mono ?_
          rintro e w15 ⟨rfl, hb'⟩
          have K15 := Lib.hid (K14.out.step hb')
          clear hb' K14 CS hcv
          have g1 : Hid (w15.rangeAt V3 0 (Strm mf)) := Lib.hid (K15.out.get V3 mf (.head _)).range
          go_wp2_with (refine wpList_load_wanted 34 (.tmp 13) rfl rfl V3 0 rfl (Strm mf) _ g1.out Tryd.underlying34 rfl nf.out ?_)
          refine (sum_of mf _ R3 w15 rfl HR3.out (by have := HL.out.2.2.1; omega) (HT.out.below K15.out.2 (Nat.le_refl _))).mono ?_
          rintro e w16 ⟨rfl, hb'⟩
          have K16 := Lib.hid (K15.out.step hb')
          clear hb' K15 g1
          obtain ⟨w17, A17, c17, hcv, hr17, hbc⟩ := conv_rd w16 (sh ++ o)
          have cS := refSum_any A17 c17 (sb (sh ++ o)) w17 hr17 (by rw [BB.out.2.2]; have := HL.out.2.2.1; omega) (HR.out.below ((K16.out.step hbc).2) (Nat.le_refl _))
          rw [sb_len, BB.out.2.2, ← HR3.out, show (sh ++ o).size = sh.size + o.size from by simp] at cS
          have CS := Lib.hid cS
          have K17 := Lib.hid (K16.out.step hbc)
          clear hr17 hbc cS K16
          go_wp2_with fail
          refine CS.out.mono ?_
          rintro e w18 ⟨rfl, hb'⟩
          have K18 := Lib.hid (K17.out.step hb')
          clear hb' K17 CS hcv
          have g1 : Hid (w18.rangeAt V 0 (Strm mw)) := Lib.hid (K18.out.get V mw (.tail _ (.head _))).range
          go_wp2_with (refine wpList_load_wanted 34 (.tmp 9) rfl rfl V 0 rfl (Strm mw) _ g1.out Tryd.underlying34 rfl nw.out ?_)
          refine (sum_of mw _ R1 w18 rfl HR1.out (by have := HL.out.1; omega) (HT.out.below K18.out.2 (Nat.le_refl _))).mono ?_
          rintro e w19 ⟨rfl, hb'⟩
          have K19 := Lib.hid (K18.out.step hb')
          clear hb' K18 g1
          obtain ⟨w20, A20, c20, hcv, hr20, hbc⟩ := conv_rd w19 sw
          have cS := hsum_any A20 c20 (sb sw) w20 hr20 (by rw [BB.out.1]; have := HL.out.1; omega) (HT.out.below ((K19.out.step hbc).2) (Nat.le_refl _))
          rw [sb_len, BB.out.1, ← HR1.out] at cS
          have CS := Lib.hid cS
          have K20 := Lib.hid (K19.out.step hbc)
          clear hr20 hbc cS K19
          go_wp2_with fail
          refine CS.out.mono ?_
          rintro e w21 ⟨rfl, hb'⟩
          have K21 := Lib.hid (K20.out.step hb')
          clear hb' K20 CS hcv
          go_wp2_with fail
          go_ret
          exact ⟨rfl, K21.out.2⟩
end Go.Proofs.YtmlnpnlajgnohaaDoor
