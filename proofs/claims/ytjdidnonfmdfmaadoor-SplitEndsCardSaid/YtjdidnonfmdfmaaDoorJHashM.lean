import Derived.Laws.Cover3
import Derived.Test.YtjdidnonfmdfmaaDoorJHashL0

section
/- The contract of hash.Of. -/


namespace Go.Proofs.YtjdidnonfmdfmaaDoor
open Go.RowKit
set_option linter.unusedVariables false

/-- The byte of a tag. -/
def tagB (tag : Int) : UInt8 := UInt8.ofNat (tag % 256).toNat
theorem bv_tag (tag : Int) : bv (tagB tag) = .int .u8 (tag % 256) := by
  unfold tagB
  rw [bv_ofNat]
  congr 1
  omega
def inp (tag : Int) (parts : List ByteArray) : List UInt8 := tagB tag :: parts.flatMap fun s => M.encB (sb s)
def dig (tag : Int) (parts : List ByteArray) : List UInt8 := (H.sha (inp tag parts)).take 16
theorem dig_len (tag : Int) (parts : List ByteArray) : (dig tag parts).length = 16 := by simp [dig, H.sha_len]
/-- What a slice of bytes reads as. -/
def Fact.bytes (l : List UInt8) : Fact :=
  ⟨fun v w => ∃ A c, v = .slice A l.length c ∧ RdB w w.heap.size A l ∧ l.length ≤ c ∧ c ≤ maxLen, fun _ _ _ ⟨A, c, h1, h2, h3, h4⟩ hb => ⟨A, c, h1, (h2.below hb).more hb.size, h3, h4⟩⟩
theorem run_buildSlice_u8 (w : World) (x : Int) : (Instr.buildSlice 52 1 #[(0, .int .u8 x)]).run Tryd.prog w = .ok (.slice (some ⟨w.heap.size, 0, none⟩) 1 1) (w.alloc (.cells #[.int .u8 x] 5)) := by
  go_simp
theorem dig_zero : (Tryd.prog.info? 77).map (fun i => (i.zero, i.size)) = some (some (.agg ((H.zeros 16).map bv).toArray), 16) := by kernel_rfl
theorem size_dig {xs : List Value} (h : xs.length = 16) : (Tryd.prog.info? 77).map (·.size) = some xs.toArray.size := by rw [List.size_toArray, h]; kernel_rfl
def encP (s : ByteArray) : List UInt8 := M.encB (sb s)
def pre (tag : Int) (parts : List ByteArray) (k : Nat) : List UInt8 := tagB tag :: (parts.take k).flatMap encP
theorem pre_succ (tag : Int) (parts : List ByteArray) (k : Nat) (h : k < parts.length) : pre tag parts (k + 1) = pre tag parts k ++ encP (parts[k]) := by
  unfold pre
  rw [List.take_add_one, List.getElem?_eq_getElem h]
  simp only [List.flatMap_append, Option.toList, List.flatMap_cons, List.flatMap_nil, List.append_nil, List.cons_append]
theorem pre_full (tag : Int) (parts : List ByteArray) : pre tag parts parts.length = inp tag parts := by
  unfold pre inp
  rw [List.take_length]
  rfl
theorem pre_len (tag : Int) (parts : List ByteArray) (k : Nat) : (pre tag parts k).length ≤ (inp tag parts).length := by
  unfold pre inp
  simp only [List.length_cons]
  have e : parts.flatMap (fun s => M.encB (sb s)) = (parts.take k).flatMap encP ++ (parts.drop k).flatMap encP := by
    rw [← List.flatMap_append, List.take_append_drop]
    rfl
  rw [e, List.length_append]
  omega
def stZero : List Value := Str ⟨0, 0, 0, 0, 0, 0, 0, 0⟩ (H.zeros 64) 0
theorem stZero_len : stZero.length = 73 := Str_len _ _ _ (H.zeros_len 64)

set_option maxRecDepth 100000 in
set_option maxHeartbeats 4000000 in
theorem of_any (tag : Int) (A : Option Addr) (cap : Nat) (parts : List ByteArray) (w : World) (hr : Rd w w.heap.size A (parts.map sv)) (hn : parts.length ≤ 1000000) (hs : ∀ s ∈ parts, s.size ≤ 1000000000) (hi : (inp tag parts).length ≤ 1000000000) (hT : HTab w) :
    Calls Tryd.prog 53 #[.int .i64 tag, .slice A parts.length cap] w fun e w' => e = .returned (.agg ((dig tag parts).map bv).toArray) ∧ Below w.heap.size w w' := by
  obtain ⟨hzd, -⟩ := zero_of_info dig_zero
  obtain ⟨hzs, -⟩ := zero_of_info stream_zero
  obtain ⟨hz, -⟩ := zero_of_info sum_zero
  obtain ⟨Zd, hZd⟩ : ∃ Zd, Zd = (H.zeros 16).map bv := ⟨_, rfl⟩
  obtain ⟨Zs, hZs⟩ : ∃ Zs, Zs = stZero := ⟨_, rfl⟩
  obtain ⟨Z, hZ⟩ : ∃ Z, Z = (H.zeros 32).map bv := ⟨_, rfl⟩
  rw [← hZd] at hzd
  have hzs : ∀ w, (zeroValue 86).run Tryd.prog w = .ok (.agg Zs.toArray) w := by rw [hZs]; exact hzs
  rw [← hZ] at hz
  have lZd : Zd.length = 16 := by rw [hZd, List.length_map, H.zeros_len]
  have lZs : Zs.length = 73 := by rw [hZs]; exact stZero_len
  have lZ : Z.length = 32 := by rw [hZ, List.length_map, H.zeros_len]
  obtain ⟨W0, hW0⟩ : ∃ W0, W0 = w.alloc (.cells Zd.toArray 77) := ⟨_, rfl⟩
  have hb0 : Blk W0 w.heap.size Zd 77 := by rw [hW0]; exact Blk.new w _ _
  have hbel0 : Below w.heap.size w W0 := by rw [hW0]; exact (Below.refl _ _).alloc (Nat.le_refl _) _
  have hs0 : W0.heap.size = w.heap.size + 1 := by rw [hW0]; simp only [World.size_alloc]
  obtain ⟨n, hnn⟩ : ∃ n, n = parts.length := ⟨_, rfl⟩
  rw [← hnn] at hn ⊢
  obtain ⟨S0, hS0⟩ : ∃ S0, S0 = (Strm []).toArray := ⟨_, rfl⟩
  obtain ⟨S1, hS1⟩ : ∃ S1, S1 = Strm (pre tag parts 0) := ⟨_, rfl⟩
  have lS1 : S1.length = 73 := by rw [hS1]; exact Strm_len _
  have oS1 : S1.toArray.all (·.oneCell') = true := all_oneCell_toArray (by rw [hS1]; exact Str_one _ _ _)
  have y1 := size_stream lS1
  have cBegin := fun W : World => begin_strm W
  rw [← hS0] at cBegin
  have cAdd := fun (W : World) h => add_to [] (pre tag parts 0) S0 S1.toArray (bs [tagB tag]) W hS0 (by rw [hS1]) (by rw [sb_bs]; rfl) (by have := pre_len tag parts 0; omega) h
  obtain ⟨z, hz8⟩ : ∃ z, z = tag % 256 := ⟨_, rfl⟩
  have htb : bv (tagB tag) = .int .u8 z := by rw [bv_tag, hz8]
  have hwr : IntKind.u8.wrap tag = z := by rw [IntKind.wrap_u8', hz8]
  have HR := Lib.hid hr
  have HT0 := Lib.hid (hT.below hbel0 (Nat.le_refl _))
  have HT := Lib.hid hT
  have HW0 := Lib.hid hW0
  have HB0 := Lib.hid (And.intro hb0 (And.intro hbel0 hs0))
  have HZ := Lib.hid (And.intro lZd (And.intro lZs (And.intro lZ lS1)))
  have HN := Lib.hid hnn
  have HS1 := Lib.hid hS1
  have HHs := Lib.hid hs
  have CB := Lib.hid cBegin
  have CA := Lib.hid cAdd
  have Y1 := Lib.hid y1
  have TB := Lib.hid htb
  have WR := Lib.hid hwr
  clear hr hT hZd hZs hZ lZd lZs lZ hW0 hb0 hbel0 hs0 hnn hS0 hS1 lS1 y1 cBegin cAdd hs htb hwr hz8
  go_enter Tryd.func53, Tryd.ntmps53
  go_wp2_with fail
  rw [← HW0.out]
  refine wp_region_list [9, 10, 11, 12, 13, 14, 5] [.is (.agg S0), .is (.int .i64 tag), .is (.int .u8 z), .bytes [tagB tag], .is (.string (bs [tagB tag])), .is (.agg S1.toArray), .var W0.heap.size Zs.toArray 86] (by kernel_rfl) (by kernel_rfl) ?_ ?_
  · intro i hi b w' hb hd hx o ho
    match i, hi with
    | 0, _ =>
      obtain rfl := Option.some.inj ho
      refine runs_call rfl (fun _ _ => rfl) ?_
      show Calls _ _ #[] w' _
      exact (CB.out w').mono fun e w'' h => ⟨_, h.1, rfl, h.2⟩
    | 1, _ =>
      obtain rfl := Option.some.inj ho
      exact ⟨hx 0 rfl, Below.refl _ _⟩
    | 2, _ =>
      obtain rfl := Option.some.inj ho
      have e1 : b.tmps.getD 10 undef = .int .i64 tag := hd 1 (by kernel_rfl) (by decide)
      have hcv : (convert 3 5 (.int .i64 tag)).run Tryd.prog w' = .ok (.int .u8 z) w' := by
        have hw := WR.out
        go_simp
      rw [← e1] at hcv
      exact runs_value rfl hcv ⟨rfl, Below.refl _ _⟩
    | 3, _ =>
      obtain rfl := Option.some.inj ho
      have e2 : b.tmps.getD 11 undef = .int .u8 z := hd 2 (by kernel_rfl) (by decide)
      have hbs := run_buildSlice_u8 w' z
      rw [← e2] at hbs
      refine runs_value (X := Instr.buildSlice 52 1 #[(0, b.tmps.getD 11 undef)]) (by unfold execOp; simp [Act.eval]) hbs ⟨⟨some ⟨w'.heap.size, 0, none⟩, 1, rfl, fun _ => ⟨w'.heap.size, 0, rfl, by simp, fun j u hu => ?_⟩, by simp, by decide⟩, (Below.refl _ _).alloc (Nat.le_refl _) _⟩
      rw [cell_of_row _ _ _ _ _ _ (heap_alloc_new w' _), e2, ← TB.out, ← hu]
      simp
    | 4, _ =>
      obtain rfl := Option.some.inj ho
      obtain ⟨A', c', e3, h1, h2, h3⟩ := hd 3 (by kernel_rfl) (by decide)
      have hcv := conv_bytes w' _ A' [tagB tag] c' h1
      rw [← show b.tmps.getD 12 undef = _ from e3] at hcv
      exact runs_value rfl hcv ⟨rfl, Below.refl _ _⟩
    | 5, _ =>
      obtain rfl := Option.some.inj ho
      have e0 : b.tmps.getD 9 undef = .agg S0 := hd 0 (by kernel_rfl) (by decide)
      have e4 : b.tmps.getD 13 undef = .string (bs [tagB tag]) := hd 4 (by kernel_rfl) (by decide)
      refine runs_call rfl (fun _ _ => rfl) ?_
      show Calls _ _ #[b.tmps.getD 9 undef, b.tmps.getD 13 undef] w' _
      rw [e0, e4]
      exact (CA.out w' (HT0.out.next hb)).mono fun e w'' h => ⟨_, h.1, rfl, h.2⟩
    | 6, _ =>
      obtain rfl := Option.some.inj ho
      exact runs_value rfl (run_alloc_row hzs w') ⟨⟨_, rfl, hb.size, heap_alloc_new w' _⟩, (Below.refl _ _).alloc (Nat.le_refl _) _⟩
  · intro vals w' hb hf
    obtain ⟨V, e6, hBb, hblk⟩ := hf 6 (by decide)
    have e5 : vals 5 = .agg S1.toArray := hf 5 (by decide)
    simp only [puts, List.length_cons, List.length_nil, Nat.zero_add, Nat.reduceAdd, List.drop_succ_cons, List.drop_zero, e5, e6]
    obtain ⟨hb0, hbel0, hs0⟩ := HB0.out
    obtain ⟨lZd, lZs, lZ, lS1⟩ := HZ.out
    have hblk' : Blk w' V Zs 86 := hblk
    have t1 : w'.there V 0 S1.toArray.size := hblk'.there 0 _ (by rw [List.size_toArray, lS1, lZs]; omega)
    have d1 := hblk'.whole S1 (by rw [lS1, lZs])
    have c1 : Blk (w'.setCells V 0 S1) w.heap.size Zd 77 := Blk.outside _ _ _ _ (hb0.below hb hb0.lt) (by omega)
    have b1 : Below w.heap.size w (w'.setCells V 0 S1) := below_setCells _ (by omega) _ _ _ (hbel0.trans (hb.mono (by omega)))
    have hVN : w.heap.size < V := by omega
    have T1 := Lib.hid t1
    rw [HS1.out] at d1 c1 b1
    rw [← HS1.out] at d1 c1 b1
    have K1 := Lib.hid (And.intro d1 (And.intro c1 b1))
    clear e6 hBb hblk e5 hb0 hbel0 hs0 lZd lZs lZ lS1 hblk' t1 d1 c1 b1 hb hf
    go_frame
    go_wp2_with (refine wpList_store_mid rfl 86 (.tmp 5) (.tmp 14) rfl V 0 S1.toArray rfl rfl T1.out Y1.out oS1 ?_)
    go_loopw [17] (fun i wr => ∃ k : Nat, k ≤ n ∧ i = .int .i64 k ∧ Blk wr V (Strm (pre tag parts k)) 86 ∧ Blk wr w.heap.size Zd 77 ∧ Below w.heap.size w wr) (fun i _ => n - (intOf i).toNat)
    case atStart => exact ⟨0, by omega, rfl, by rw [← HS1.out]; exact K1.out.1, K1.out.2⟩
    case round =>
      clear K1 T1
      obtain ⟨k, hk, rfl, hV, hD, hbel⟩ := hrel
      have hnn := HN.out
      by_cases hlt : k < n
      · obtain ⟨b, off, rfl, hb, hcell⟩ := HR.out (by rw [List.length_map]; omega)
        obtain ⟨s, hs⟩ : ∃ s, s = parts[k]'(by omega) := ⟨_, rfl⟩
        have hck : wr.cell? ⟨b, off + k, none⟩ = some (.string s) := (hbel.cell hb).trans (hcell k (sv s) (by rw [List.getElem?_map, List.getElem?_eq_getElem (by omega), hs]; rfl))
        have hss : s.size ≤ 1000000000 := HHs.out s (by rw [hs]; exact List.getElem_mem _)
        obtain ⟨X, hX⟩ : ∃ X, X = Strm (pre tag parts k) := ⟨_, rfl⟩
        obtain ⟨Y, hY⟩ : ∃ Y, Y = Strm (pre tag parts (k + 1)) := ⟨_, rfl⟩
        rw [← hX] at hV
        have lX : X.length = 73 := by rw [hX]; exact Strm_len _
        have lY : Y.length = 73 := by rw [hY]; exact Strm_len _
        have oY : Y.toArray.all (·.oneCell') = true := all_oneCell_toArray (by rw [hY]; exact Str_one _ _ _)
        have yX := size_stream lX
        have yY := size_stream lY
        have hsucc := pre_succ tag parts k (by omega)
        rw [← hs] at hsucc
        obtain ⟨el, hel⟩ : ∃ el, el = encP s := ⟨_, rfl⟩
        have cBytes := fun W : World => (bytes_any s W hss).mono fun e w' h => makes_gives h
        rw [← show el = M.encB (sb s) from hel] at cBytes
        have cAdd := fun (W : World) h => add_to (pre tag parts k) (pre tag parts (k + 1)) X.toArray Y.toArray (bs el) W (by rw [hX]) (by rw [hY]) (by rw [sb_bs, hsucc, hel]) (by have := pre_len tag parts (k + 1); omega) h
        have HTr : Hid (HTab wr) := Lib.hid (HT.out.next hbel)
        have ik : (k : Int) < n := by omega
        have ik0 : (0 : Int) ≤ k := by omega
        have CBy := Lib.hid cBytes
        have CAd := Lib.hid cAdd
        have HV := Lib.hid hV
        have HD := Lib.hid hD
        have HY := Lib.hid hY
        have HL := Lib.hid (And.intro lX lY)
        have YX := Lib.hid yX
        have YY := Lib.hid yY
        clear hcell hs hss hX hY hV hD lX lY yX yY hsucc hel cBytes cAdd hnn
        go_wp2_with fail
        refine wp_region_list [21, 22, 23, 24, 25] [.is (.agg X.toArray), .is (.string s), .bytes el, .is (.string (bs el)), .is (.agg Y.toArray)] (by kernel_rfl) (by kernel_rfl) ?_ ?_
        · intro i hi b w' hb hd hx o ho
          match i, hi with
          | 0, _ =>
            obtain rfl := Option.some.inj ho
            have e5 : b.tmps.getD 5 undef = .pointer (some ⟨V, 0, none⟩) := hx 5 rfl
            have hld := run_loadAt_mid (P := Tryd.prog) w' V 0 86 X _ ((HV.out.below hb HV.out.lt).range) Tryd.underlying86 rfl (by rw [← List.size_toArray]; exact YX.out)
            rw [← e5] at hld
            exact runs_value rfl hld ⟨rfl, Below.refl _ _⟩
          | 1, _ =>
            obtain rfl := Option.some.inj ho
            exact ⟨hx 7 rfl, Below.refl _ _⟩
          | 2, _ =>
            obtain rfl := Option.some.inj ho
            have e1 : b.tmps.getD 22 undef = .string s := hd 1 (by kernel_rfl) (by decide)
            refine runs_call rfl (fun _ _ => rfl) ?_
            show Calls _ _ #[b.tmps.getD 22 undef] w' _
            rw [e1]
            refine (CBy.out w').mono fun e w'' h => ?_
            obtain ⟨A', c', h1, h2, h3, h4, h5⟩ := h
            exact ⟨_, h1, ⟨A', c', rfl, h2, h3, h4⟩, h5⟩
          | 3, _ =>
            obtain rfl := Option.some.inj ho
            obtain ⟨A', c', e2, h1, h2, h3⟩ := hd 2 (by kernel_rfl) (by decide)
            have hcv := conv_bytes w' _ A' el c' h1
            rw [← show b.tmps.getD 23 undef = _ from e2] at hcv
            exact runs_value rfl hcv ⟨rfl, Below.refl _ _⟩
          | 4, _ =>
            obtain rfl := Option.some.inj ho
            have e0 : b.tmps.getD 21 undef = .agg X.toArray := hd 0 (by kernel_rfl) (by decide)
            have e3 : b.tmps.getD 24 undef = .string (bs el) := hd 3 (by kernel_rfl) (by decide)
            refine runs_call rfl (fun _ _ => rfl) ?_
            show Calls _ _ #[b.tmps.getD 21 undef, b.tmps.getD 24 undef] w' _
            rw [e0, e3]
            exact (CAd.out w' (HTr.out.next hb)).mono fun e w'' h => ⟨_, h.1, rfl, h.2⟩
        · intro vals w' hb hf
          have e4 : vals 4 = .agg Y.toArray := hf 4 (by decide)
          simp only [puts, List.length_cons, List.length_nil, Nat.zero_add, Nat.reduceAdd, List.drop_succ_cons, List.drop_zero, e4]
          obtain ⟨lX, lY⟩ := HL.out
          have hV1 := HV.out.below hb HV.out.lt
          have t1 : w'.there V 0 Y.toArray.size := hV1.there 0 _ (by rw [List.size_toArray, lX, lY]; omega)
          have d1 := hV1.whole Y (by rw [lX, lY])
          have c1 : Blk (w'.setCells V 0 Y) w.heap.size Zd 77 := Blk.outside _ _ _ _ (HD.out.below hb HD.out.lt) (by omega)
          have b1 : Below w.heap.size w (w'.setCells V 0 Y) := below_setCells _ (by omega) _ _ _ (hbel.trans (hb.mono hbel.size))
          have T1 := Lib.hid t1
          have K1 := Lib.hid (And.intro d1 (And.intro c1 b1))
          clear e4 lX lY hV1 t1 d1 c1 b1 hb hf
          go_frame
          go_wp2_with (refine wpList_store_mid rfl 86 (.tmp 5) (.tmp 25) rfl V 0 Y.toArray rfl rfl T1.out YY.out oY ?_)
          exact ⟨⟨k + 1, by omega, by go_num, by rw [← HY.out]; exact K1.out.1, K1.out.2⟩, by simp [intOf]; omega⟩
      · have hkn : k = n := by omega
        rw [hkn, hnn, pre_full] at hV
        obtain ⟨X, hX⟩ : ∃ X, X = Strm (inp tag parts) := ⟨_, rfl⟩
        obtain ⟨l, hl⟩ : ∃ l, l = H.sha (inp tag parts) := ⟨_, rfl⟩
        obtain ⟨R, hR⟩ : ∃ R, R = l.map bv := ⟨_, rfl⟩
        obtain ⟨D, hDd⟩ : ∃ D, D = (l.take 16).map bv := ⟨_, rfl⟩
        rw [← hX] at hV
        have hll : l.length = 32 := by rw [hl, H.sha_len]
        have lX : X.length = 73 := by rw [hX]; exact Strm_len _
        have hRl : R.length = 32 := by rw [hR, List.length_map, hll]
        have hDl : D.length = 16 := by rw [hDd, List.length_map, List.length_take, hll]; rfl
        have yX := size_stream lX
        have yR := size_sum hRl
        have yD := size_dig hDl
        have oR : R.toArray.all (·.oneCell') = true := all_oneCell_toArray (by rw [hR]; exact bytes_one _)
        have oD : D.toArray.all (·.oneCell') = true := all_oneCell_toArray (by rw [hDd]; exact bytes_one _)
        have cSum := sum_of (inp tag parts) X.toArray R wr (by rw [hX]) (by rw [hR, hl]) (by omega) (HT.out.next hbel)
        have hfin : D = (dig tag parts).map bv := by rw [hDd, hl]; rfl
        have hsub : ∀ j, j < D.length → R[0 + j]? = D[j]? := fun j hj => by
          rw [hDl] at hj
          rw [hDd, hR, Nat.zero_add, List.getElem?_map, List.getElem?_map, List.getElem?_take, if_pos hj]
        have hge : (n : Int) ≤ k := by omega
        have hV1 := hV
        have HL := Lib.hid (And.intro hRl (And.intro hDl hsub))
        have HF := Lib.hid hfin
        have YX := Lib.hid yX
        have YR := Lib.hid yR
        have YD := Lib.hid yD
        have CS := Lib.hid cSum
        have HV := Lib.hid hV
        have HD := Lib.hid hD
        clear hkn hX hl hR hDd hll lX hRl hDl yX yR yD cSum hfin hsub hV hD hnn
        go_wp2_with (refine wpList_load_row rfl 86 (.tmp 5) rfl V rfl _ X.toArray (0, 0) _ HV.out Tryd.underlying86 rfl YX.out ?_)
        refine CS.out.mono ?_
        rintro e w1 ⟨rfl, hb1⟩
        obtain ⟨hRl, hDl, hsub⟩ := HL.out
        obtain ⟨lZd, lZs, lZ, lS1⟩ := HZ.out
        obtain ⟨m1, m2, m3⟩ := sum_new w1 Z R lZ hRl
        have hD1 := (HD.out.below hb1 HD.out.lt)
        have hD2 := hD1.below m3 hD1.lt
        obtain ⟨W2, hW2⟩ : ∃ W2, W2 = (w1.alloc (.cells Z.toArray 90)).setCells w1.heap.size 0 R := ⟨_, rfl⟩
        obtain ⟨U, hU⟩ : ∃ U, U = w1.heap.size := ⟨_, rfl⟩
        rw [← hW2] at hD2
        have m1' : Blk W2 U R 90 := by rw [hW2, hU]; exact m1
        have hr := m1'.sub 0 D hsub
        have t2 : W2.there w.heap.size 0 D.toArray.size := hD2.there 0 _ (by rw [List.size_toArray, hDl, lZd]; omega)
        have d2 := hD2.whole D (by rw [hDl, lZd])
        have hb2 : Below w.heap.size w W2 := hbel.trans ((hb1.trans (by rw [hW2]; exact m3.mono hb1.size)).mono hbel.size)
        have hb3 : Below w.heap.size w (W2.setCells w.heap.size 0 D) := below_setCells _ (Nat.le_refl _) _ _ _ hb2
        have hsl : ∀ W : World, (Instr.sliceAt 90 (.pointer (some ⟨U, 0, none⟩)) none (some (.int .i64 16)) none).run Tryd.prog W = .ok (.slice (some ⟨U, 0, none⟩) 16 32) W := fun W => by
          have h1 : Tryd.prog.arrayLen 90 = 32 := by kernel_rfl
          have h := run_sliceAt_array_h (P := Tryd.prog) W 90 ⟨U, 0, none⟩ (by kernel_rfl) .i64 16 (by omega) (by rw [h1]; omega)
          rw [h]
          have h2 : (sizeOf (Tryd.prog.elem 90)).run Tryd.prog W = .ok 1 W := by kernel_rfl
          rw [h2, h1]
          simp [slicedAt, Addr.add]
        have hap : ∀ W : World, (Instr.arrayAt 77 (.slice (some ⟨U, 0, none⟩) 16 32)).run Tryd.prog W = .ok (.pointer (some ⟨U, 0, none⟩)) W := fun W => run_arrayAt W 77 5 16 (some ⟨U, 0, none⟩) 16 32 Tryd.underlying77 (by omega)
        have M2 := Lib.hid m2
        have HR2 := Lib.hid hr
        have T2 := Lib.hid t2
        have D2 := Lib.hid d2
        have B3 := Lib.hid hb3
        have HW2 := Lib.hid hW2
        have HU := Lib.hid hU
        clear hb1 hRl hDl hsub lZd lZs lZ lS1 m1 m2 m3 hD1 hD2 hW2 hU m1' hr t2 d2 hb2 hb3 CS HV HD
        go_wp2_with (first | (refine wpList_store_mid rfl 90 (.tmp 8) (.tmp 28) rfl w1.heap.size 0 R.toArray rfl rfl M2.out YR.out oR ?_; rw [← HW2.out, ← HU.out]) | (refine wpList_load_mid rfl 77 (.tmp 30) rfl U 0 rfl D _ HR2.out Tryd.underlying77 rfl (by rw [← List.size_toArray]; exact YD.out) ?_) | (refine wpList_store_mid rfl 77 (.tmp 4) (.tmp 31) rfl w.heap.size 0 D.toArray rfl rfl T2.out YD.out oD ?_))
        exact bodyPost_ret (results_cell_row rfl _ _ w.heap.size 77 _ (0, 0) _ rfl D2.out Tryd.underlying77 rfl YD.out) rfl ⟨by rw [HF.out], B3.out⟩
end Go.Proofs.YtjdidnonfmdfmaaDoor
end

