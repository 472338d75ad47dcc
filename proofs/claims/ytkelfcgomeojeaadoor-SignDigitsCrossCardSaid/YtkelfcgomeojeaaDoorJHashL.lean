import Derived.Test.YtkelfcgomeojeaaDoorJFacts
import Derived.Test.YtkelfcgomeojeaaDoorJHashK

section
/- The contract of hash.Mac. -/


namespace Go.Proofs.YtkelfcgomeojeaaDoor
open Go.RowKit
set_option linter.unusedVariables false

def macKey (k : List UInt8) : List UInt8 := if 64 < k.length then H.sha k else k
def mac (k t : List UInt8) : List UInt8 := H.sha (padK (macKey k) 92 ++ H.sha (padK (macKey k) 54 ++ t))
theorem mac_len (k t : List UInt8) : (mac k t).length = 32 := H.sha_len _
theorem macKey_len (k : List UInt8) : (macKey k).length ≤ 64 := by
  unfold macKey
  split
  · rw [H.sha_len]; omega
  · omega
/-- A hash in a variable of its own. -/
theorem sum_new (w : World) (Z R : List Value) (hZ : Z.length = 32) (hR : R.length = 32) :
    Blk ((w.alloc (.cells Z.toArray 85)).setCells w.heap.size 0 R) w.heap.size R 85 ∧ (w.alloc (.cells Z.toArray 85)).there w.heap.size 0 R.toArray.size ∧
      Below w.heap.size w ((w.alloc (.cells Z.toArray 85)).setCells w.heap.size 0 R) :=
  ⟨(Blk.new w Z _).whole R (by rw [hZ, hR]), (Blk.new w Z _).there 0 _ (by rw [List.size_toArray, hZ, hR]; omega), below_setCells _ (Nat.le_refl _) _ _ _ ((Below.refl _ _).alloc (Nat.le_refl _) _)⟩
theorem sum_conv (w : World) (b : Nat) (l : List UInt8) (hl : l.length = 32) (h : Blk w b (l.map bv) 85) :
    (convert 51 9 (.slice (some ⟨b, 0, none⟩) 32 32)).run Tryd.prog w = .ok (.string (bs l)) w := by
  have hr : RdB w (b + 1) (some ⟨b, 0, none⟩) l := fun _ => ⟨b, 0, rfl, by omega, fun j u hu => by rw [Nat.zero_add]; exact h.cell j u hu⟩
  have := conv_bytes w _ _ l 32 hr
  rwa [hl] at this

/-- Add and Sum, the message and its array under names. -/
theorem add_to (m m' : List UInt8) (A A' : Array Value) (s : ByteArray) (w : World) (hA : A = (Strm m).toArray) (hA' : A' = (Strm m').toArray) (he : m ++ sb s = m') (hl : m'.length ≤ 1000000000) (ht : HTab w) :
    Calls Tryd.prog 54 #[.agg A, .string s] w fun e w' => e = .returned (.agg A') ∧ Below w.heap.size w w' := by
  subst hA hA' he
  exact add_any m s w (by rw [List.length_append, sb_len] at hl; exact hl) ht
theorem sum_of (m : List UInt8) (A : Array Value) (R : List Value) (w : World) (hA : A = (Strm m).toArray) (hR : R = (H.sha m).map bv) (hl : m.length ≤ 1000000000) (ht : HTab w) :
    Calls Tryd.prog 56 #[.agg A] w fun e w' => e = .returned (.agg R.toArray) ∧ Below w.heap.size w w' := by
  subst hA hR
  exact sum_any m w hl ht
theorem HTab.next {w w' : World} (h : HTab w) (hb : Below w.heap.size w w') : HTab w' := h.below hb (Nat.le_refl _)

set_option maxRecDepth 100000 in
set_option maxHeartbeats 4000000 in
theorem mac_any (s t : ByteArray) (w : World) (hs : s.size ≤ 1000000) (ht : t.size ≤ 1000000) (hT : HTab w) :
    Calls Tryd.prog 47 #[.string s, .string t] w fun e w' => e = .returned (.string (bs (mac (sb s) (sb t)))) ∧ Below w.heap.size w w' := by
  obtain ⟨hz, -⟩ := zero_of_info sum_zero
  obtain ⟨Z, hZ⟩ : ∃ Z, Z = (H.zeros 32).map bv := ⟨_, rfl⟩
  rw [← hZ] at hz
  have lZ : Z.length = 32 := by rw [hZ, List.length_map, H.zeros_len]
  have hsl := slice_b32
  have HT := Lib.hid hT
  have LZ := Lib.hid lZ
  clear hZ lZ hT
  go_enter Tryd.func47, Tryd.ntmps47
  go_upto_if 10 with (fail)
  go_cut [0] (fun s0 wx => s0 = .string (bs (macKey (sb s))) ∧ Below w.heap.size w wx)
  case first =>
    by_cases h64 : 64 < s.size
    · have h64' : (64 : Int) < s.size := by omega
      have hd : decide ((64 : Int) < s.size) = true := by simp; omega
      obtain ⟨W1, c1, hcv, hcell, hb1⟩ := conv_str w s
      obtain ⟨l, hl⟩ : ∃ l, l = H.sha (sb s) := ⟨_, rfl⟩
      obtain ⟨R, hR⟩ : ∃ R, R = l.map bv := ⟨_, rfl⟩
      have hll : l.length = 32 := by rw [hl, H.sha_len]
      have hRl : R.length = 32 := by rw [hR, List.length_map, hll]
      have hlt : w.heap.size < W1.heap.size ∨ s.size = 0 := by
        by_cases h : W1.heap.size ≤ w.heap.size
        · exfalso
          have h1 : ((sb s).map bv)[0]? = some (((sb s).map bv)[0]'(by rw [List.length_map, sb_len]; omega)) := List.getElem?_eq_getElem _
          have := block_lt_of_cell (hcell 0 _ h1)
          simp [Addr.add] at this
          omega
        · left; omega
      have hr : RdB W1 W1.heap.size (some ⟨w.heap.size, 0, none⟩) (sb s) := fun _ => ⟨w.heap.size, 0, rfl, by omega, fun j u hu => by
        have := hcell j u hu
        rwa [Addr.add_mid] at this⟩
      have hc := hsum_any _ c1 (sb s) W1 hr (by rw [sb_len]; omega) (HT.out.below hb1 (Nat.le_refl _))
      rw [sb_len, ← hl, ← hR] at hc
      have hk : bs (macKey (sb s)) = bs l := by unfold macKey; rw [if_pos (by rw [sb_len]; exact h64), hl]
      have y1 := size_sum hRl
      have o : R.toArray.all (·.oneCell') = true := all_oneCell_toArray (by rw [hR]; exact bytes_one _)
      have HC := Lib.hid hc
      have HR := Lib.hid hR
      have Hll := Lib.hid hll
      have HRl := Lib.hid hRl
      have HK := Lib.hid hk
      have Y1 := Lib.hid y1
      clear hcell hlt hr hc hl hR hll hRl hk y1 h64
      go_wp2_with fail
      refine HC.out.mono ?_
      rintro e w2 ⟨rfl, hb2⟩
      obtain ⟨m1, m2, m3⟩ := sum_new w2 Z R LZ.out HRl.out
      have m4 := hb1.trans ((hb2.trans (m3.mono hb2.size)).mono hb1.size)
      rw [HR.out] at m1
      have m5 := sum_conv _ _ l Hll.out m1
      rw [← HR.out] at m5
      have M2 := Lib.hid m2
      have M4 := Lib.hid m4
      clear hcv hb1 hb2 m1 m2 m3 m4 HC
      go_wp2_with (refine wpList_store_mid rfl 85 (.tmp 5) (.tmp 13) rfl w2.heap.size 0 R.toArray rfl rfl M2.out Y1.out o ?_)
      go_meet
      case rel => exact ⟨by rw [HK.out], M4.out⟩
    · have h64' : (s.size : Int) ≤ 64 := by omega
      have hd : decide ((64 : Int) < s.size) = false := by simp; omega
      have hk : bs (macKey (sb s)) = s := by unfold macKey; rw [if_neg (by rw [sb_len]; exact h64), bs_sb]
      have HK := Lib.hid hk
      clear h64 hk
      go_wp2_with fail
      go_meet
      case rel => exact ⟨by rw [HK.out], Below.refl _ _⟩
  case rest =>
    obtain ⟨rfl, hbc⟩ := hcut
    obtain ⟨k, hk⟩ : ∃ k, k = bs (macKey (sb s)) := ⟨_, rfl⟩
    rw [← hk]
    have hkb : sb k = macKey (sb s) := by rw [hk, sb_bs]
    have hks : k.size ≤ 64 := by rw [hk, bbytes_size]; exact macKey_len _
    have HhT : Hid (HTab wc) := Lib.hid (HT.out.below hbc (Nat.le_refl _))
    obtain ⟨p1, hp1⟩ : ∃ p1, p1 = bs (padK (sb k) 54) := ⟨_, rfl⟩
    obtain ⟨p2, hp2⟩ : ∃ p2, p2 = bs (padK (sb k) 92) := ⟨_, rfl⟩
    obtain ⟨S0, hS0⟩ : ∃ S0, S0 = (Strm []).toArray := ⟨_, rfl⟩
    obtain ⟨S1, hS1⟩ : ∃ S1, S1 = (Strm (padK (sb k) 54)).toArray := ⟨_, rfl⟩
    obtain ⟨S2, hS2⟩ : ∃ S2, S2 = (Strm (padK (sb k) 54 ++ sb t)).toArray := ⟨_, rfl⟩
    obtain ⟨l, hl⟩ : ∃ l, l = H.sha (padK (sb k) 54 ++ sb t) := ⟨_, rfl⟩
    obtain ⟨R, hR⟩ : ∃ R, R = l.map bv := ⟨_, rfl⟩
    obtain ⟨S3, hS3⟩ : ∃ S3, S3 = (Strm (padK (sb k) 92)).toArray := ⟨_, rfl⟩
    obtain ⟨S4, hS4⟩ : ∃ S4, S4 = (Strm (padK (sb k) 92 ++ l)).toArray := ⟨_, rfl⟩
    obtain ⟨q, hq⟩ : ∃ q, q = H.sha (padK (sb k) 92 ++ l) := ⟨_, rfl⟩
    obtain ⟨R2, hR2⟩ : ∃ R2, R2 = q.map bv := ⟨_, rfl⟩
    have hll : l.length = 32 := by rw [hl, H.sha_len]
    have hql : q.length = 32 := by rw [hq, H.sha_len]
    have hRl : R.length = 32 := by rw [hR, List.length_map, hll]
    have hR2l : R2.length = 32 := by rw [hR2, List.length_map, hql]
    have hkl : (sb k).length ≤ 64 := by rw [sb_len]; exact hks
    have l1 := padK_len (sb k) 54 hkl
    have l2 := padK_len (sb k) 92 hkl
    have y1 := size_sum hRl
    have y2 := size_sum hR2l
    have o1 : R.toArray.all (·.oneCell') = true := all_oneCell_toArray (by rw [hR]; exact bytes_one _)
    have o2 : R2.toArray.all (·.oneCell') = true := all_oneCell_toArray (by rw [hR2]; exact bytes_one _)
    have cBegin := fun W : World => begin_strm W
    rw [← hS0] at cBegin
    have cPad1 := fun W : World => padded_any k 54 54 W rfl hks
    have cPad2 := fun W : World => padded_any k 92 92 W rfl hks
    rw [← hp1] at cPad1
    rw [← hp2] at cPad2
    have cAdd1 := fun (W : World) h => add_to [] (padK (sb k) 54) S0 S1 p1 W hS0 hS1 (by rw [hp1, sb_bs]; rfl) (by omega) h
    have cAdd2 := fun (W : World) h => add_to (padK (sb k) 54) (padK (sb k) 54 ++ sb t) S1 S2 t W hS1 hS2 rfl (by rw [List.length_append, sb_len]; omega) h
    have cSum1 := fun (W : World) h => sum_of (padK (sb k) 54 ++ sb t) S2 R W hS2 (by rw [hR, hl]) (by rw [List.length_append, sb_len]; omega) h
    have cAdd3 := fun (W : World) h => add_to [] (padK (sb k) 92) S0 S3 p2 W hS0 hS3 (by rw [hp2, sb_bs]; rfl) (by omega) h
    have cAdd4 := fun (W : World) h => add_to (padK (sb k) 92) (padK (sb k) 92 ++ l) S3 S4 (bs l) W hS3 hS4 (by rw [sb_bs]) (by rw [List.length_append]; omega) h
    have cSum2 := fun (W : World) h => sum_of (padK (sb k) 92 ++ l) S4 R2 W hS4 (by rw [hR2, hq]) (by rw [List.length_append]; omega) h
    have hfin : q = mac (sb s) (sb t) := by unfold mac; rw [hq, hl, hkb]
    have CB := Lib.hid cBegin
    have CP1 := Lib.hid cPad1
    have CP2 := Lib.hid cPad2
    have CA1 := Lib.hid cAdd1
    have CA2 := Lib.hid cAdd2
    have CS1 := Lib.hid cSum1
    have CA3 := Lib.hid cAdd3
    have CA4 := Lib.hid cAdd4
    have CS2 := Lib.hid cSum2
    have HF := Lib.hid hfin
    have Y1 := Lib.hid y1
    have Y2 := Lib.hid y2
    have HR := Lib.hid hR
    have HR2 := Lib.hid hR2
    have HL := Lib.hid (And.intro hll (And.intro hql (And.intro hRl hR2l)))
    clear hk hkb hks hp1 hp2 hS0 hS1 hS2 hl hR hS3 hS4 hq hR2 hll hql hRl hR2l hkl l1 l2 y1 y2 cBegin cPad1 cPad2 cAdd1 cAdd2 cSum1 cAdd3 cAdd4 cSum2 hfin
    go_wp2_with fail
    refine (CB.out _).mono ?_
    rintro e w1 ⟨rfl, hb1⟩
    have h1 := HhT.out.next hb1
    go_wp2_with fail
    refine (CP1.out _).mono ?_
    rintro e w2 ⟨rfl, hb2⟩
    have h2 := h1.next hb2
    have hb2' := hb1.trans (hb2.mono hb1.size)
    clear hb1 hb2
    go_wp2_with fail
    refine (CA1.out _ h2).mono ?_
    rintro e w3 ⟨rfl, hb3⟩
    have h3 := h2.next hb3
    have hb3' := hb2'.trans (hb3.mono hb2'.size)
    clear hb3 hb2' h1 h2
    go_wp2_with fail
    refine (CA2.out _ h3).mono ?_
    rintro e w4 ⟨rfl, hb4⟩
    have h4 := h3.next hb4
    have hb4' := hb3'.trans (hb4.mono hb3'.size)
    clear hb4 hb3' h3
    go_wp2_with fail
    refine (CS1.out _ h4).mono ?_
    rintro e w5 ⟨rfl, hb5⟩
    have h5 := h4.next hb5
    have hb5' := hb4'.trans (hb5.mono hb4'.size)
    obtain ⟨hll, hql, hRl, hR2l⟩ := HL.out
    obtain ⟨m1, m2, m3⟩ := sum_new w5 Z R LZ.out hRl
    have hb6 := hbc.trans ((hb5'.trans (m3.mono hb5'.size)).mono hbc.size)
    have h6 := h5.next m3
    rw [HR.out] at m1
    obtain ⟨W6, hW6⟩ : ∃ W6, W6 = (w5.alloc (.cells Z.toArray 85)).setCells w5.heap.size 0 R := ⟨_, rfl⟩
    obtain ⟨V, hV⟩ : ∃ V, V = w5.heap.size := ⟨_, rfl⟩
    rw [← HR.out, ← hW6, ← hV, HR.out] at m1
    rw [← hW6] at hb6 h6
    have M2 := Lib.hid m2
    have HW6 := Lib.hid hW6
    have HV := Lib.hid hV
    clear hb5 hb4' h4 h5 hb5' hll hql hRl hR2l m2 m3 hW6 hV
    go_wp2_with (refine wpList_store_mid rfl 85 (.tmp 6) (.tmp 22) rfl w5.heap.size 0 R.toArray rfl rfl M2.out Y1.out o1 ?_)
    rw [← HW6.out, ← HV.out]
    go_frame
    obtain ⟨hll, hql, hRl, hR2l⟩ := HL.out
    have hmv : V < W6.heap.size := m1.lt
    have HM := Lib.hid m1
    have H6 := Lib.hid h6
    clear hll hql hRl hR2l m1 h6
    refine wp_region_list [23, 24, 25, 26, 27, 28, 29, 30, 7] [.is (.agg S0), .is (.string k), .is (.string p2), .is (.agg S3), .is (.slice (some ⟨V, 0, none⟩) 32 32), .is (.string (bs l)), .is (.agg S4), .is (.agg R2.toArray), .var W6.heap.size Z.toArray 85] (by kernel_rfl) (by kernel_rfl) ?_ ?_
    · intro i hi b w' hb hd hx o ho
      match i, hi with
      | 0, _ =>
        obtain rfl := Option.some.inj ho
        refine runs_call rfl (fun _ _ => rfl) ?_
        show Calls _ _ #[] w' _
        exact (CB.out w').mono fun e w'' h => ⟨_, h.1, rfl, h.2⟩
      | 1, _ =>
        obtain rfl := Option.some.inj ho
        exact ⟨hx 0 rfl, Below.refl _ _⟩
      | 2, _ =>
        obtain rfl := Option.some.inj ho
        have e1 : b.tmps.getD 24 undef = .string k := hd 1 (by kernel_rfl) (by decide)
        refine runs_call rfl (fun _ _ => rfl) ?_
        show Calls _ _ #[b.tmps.getD 24 undef, .int .u8 92] w' _
        rw [e1]
        exact (CP2.out w').mono fun e w'' h => ⟨_, h.1, rfl, h.2⟩
      | 3, _ =>
        obtain rfl := Option.some.inj ho
        have e0 : b.tmps.getD 23 undef = .agg S0 := hd 0 (by kernel_rfl) (by decide)
        have e2 : b.tmps.getD 25 undef = .string p2 := hd 2 (by kernel_rfl) (by decide)
        refine runs_call rfl (fun _ _ => rfl) ?_
        show Calls _ _ #[b.tmps.getD 23 undef, b.tmps.getD 25 undef] w' _
        rw [e0, e2]
        exact (CA3.out w' (H6.out.next hb)).mono fun e w'' h => ⟨_, h.1, rfl, h.2⟩
      | 4, _ =>
        obtain rfl := Option.some.inj ho
        have e6 : b.tmps.getD 6 undef = .pointer (some ⟨V, 0, none⟩) := hx 6 rfl
        have hr := hsl w' V
        rw [← e6] at hr
        exact runs_value rfl hr ⟨rfl, Below.refl _ _⟩
      | 5, _ =>
        obtain rfl := Option.some.inj ho
        have e4 : b.tmps.getD 27 undef = .slice (some ⟨V, 0, none⟩) 32 32 := hd 4 (by kernel_rfl) (by decide)
        have hcv := sum_conv w' V l HL.out.1 (HM.out.below hb HM.out.lt)
        rw [← e4] at hcv
        exact runs_value rfl hcv ⟨rfl, Below.refl _ _⟩
      | 6, _ =>
        obtain rfl := Option.some.inj ho
        have e3 : b.tmps.getD 26 undef = .agg S3 := hd 3 (by kernel_rfl) (by decide)
        have e5 : b.tmps.getD 28 undef = .string (bs l) := hd 5 (by kernel_rfl) (by decide)
        refine runs_call rfl (fun _ _ => rfl) ?_
        show Calls _ _ #[b.tmps.getD 26 undef, b.tmps.getD 28 undef] w' _
        rw [e3, e5]
        exact (CA4.out w' (H6.out.next hb)).mono fun e w'' h => ⟨_, h.1, rfl, h.2⟩
      | 7, _ =>
        obtain rfl := Option.some.inj ho
        have e6 : b.tmps.getD 29 undef = .agg S4 := hd 6 (by kernel_rfl) (by decide)
        refine runs_call rfl (fun _ _ => rfl) ?_
        show Calls _ _ #[b.tmps.getD 29 undef] w' _
        rw [e6]
        exact (CS2.out w' (H6.out.next hb)).mono fun e w'' h => ⟨_, h.1, rfl, h.2⟩
      | 8, _ =>
        obtain rfl := Option.some.inj ho
        exact runs_value rfl (run_alloc_row hz w') ⟨⟨_, rfl, hb.size, heap_alloc_new w' _⟩, (Below.refl _ _).alloc (Nat.le_refl _) _⟩
    · intro vals w' hb hf
      obtain ⟨b, e8, hBb, hblk⟩ := hf 8 (by decide)
      have e7 : vals 7 = .agg R2.toArray := hf 7 (by decide)
      simp only [puts, List.length_cons, List.length_nil, Nat.zero_add, Nat.reduceAdd, List.drop_succ_cons, List.drop_zero, e7, e8]
      obtain ⟨hll, hql, hRl, hR2l⟩ := HL.out
      have hblk' : Blk w' b Z 85 := hblk
      have t1 : w'.there b 0 R2.toArray.size := hblk'.there 0 _ (by rw [List.size_toArray, hR2l, LZ.out]; omega)
      have d1 := hblk'.whole R2 (by rw [hR2l, LZ.out])
      rw [HR2.out] at d1
      have hcv := sum_conv _ b q hql d1
      rw [← HR2.out] at hcv
      have hfin : Below w.heap.size w (w'.setCells b 0 R2) := (hb6.trans (below_setCells (B := w.heap.size) b (Nat.le_trans hb6.size hBb) _ _ _ (hb.mono hb6.size)))
      have T1 := Lib.hid t1
      have HFi := Lib.hid hfin
      clear e8 hBb hblk e7 hll hql hRl hR2l hblk' t1 d1 hfin hb hf
      go_frame
      go_wp2_with (refine wpList_store_mid rfl 85 (.tmp 7) (.tmp 30) rfl b 0 R2.toArray rfl rfl T1.out Y2.out o2 ?_)
      go_ret
      exact ⟨by rw [← HF.out]; rfl, HFi.out⟩
end Go.Proofs.YtkelfcgomeojeaaDoor
end

