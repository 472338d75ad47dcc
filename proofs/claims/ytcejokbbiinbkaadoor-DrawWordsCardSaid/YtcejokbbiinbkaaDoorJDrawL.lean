import Derived.Test.YtcejokbbiinbkaaDoorJDrawR
import Derived.Test.YtcejokbbiinbkaaDoorJDrawS
import Derived.Test.YtcejokbbiinbkaaDoorJGuards
import Derived.Test.YtcejokbbiinbkaaDoorJShort

section
/- The law DrawWords. -/




namespace Go.Proofs.YtcejokbbiinbkaaDoor
open Go.RowKit
set_option linter.unusedVariables false
set_option maxRecDepth 100000

set_option maxHeartbeats 4000000 in
theorem words_walk (s : ByteArray) (A : Option Addr) (cap : Nat) (l : List Int) (t : Int) (w : World) (hr : Rd w w.heap.size A (l.map iv)) (hc : l.length ≤ cap) (hm : cap ≤ maxLen) (hI : ∀ n ∈ l, M.I64 n) (ht : M.I64 t) (hR : RTab w) (hT : HTab w) :
    Calls Tryd.prog 3 #[.string s, .slice A l.length cap, .int .i64 t] w (Tells true w) := by
  have cT := take_any A cap l 20 w hr hc hm (by decide)
  have hpl : (l.take 20).length ≤ 20 := by rw [List.length_take]; omega
  have hpI : ∀ n ∈ l.take 20, M.I64 n := fun n h => hI n (List.mem_of_mem_take h)
  obtain ⟨p, hp⟩ : ∃ p, p = l.take 20 := ⟨_, rfl⟩
  obtain ⟨N, hN⟩ : ∃ N, N = l.length := ⟨_, rfl⟩
  rw [← hp] at cT hpl hpI
  rw [← hN] at cT ⊢
  have cS := fun W => shortAt_any 60 s W (by decide)
  have hqs := shortAt_size 60 s
  obtain ⟨q, hq⟩ : ∃ q, q = shortAt 60 s := ⟨_, rfl⟩
  rw [← hq] at cS hqs
  obtain ⟨D, hD⟩ : ∃ D, D = wdig q p t := ⟨_, rfl⟩
  have hwd : D = dig 8 [q, bs (M.encL M.encI (p ++ [t]))] := hD
  have hwn : wordN q p t = num (D.take 6) := by rw [hD]; rfl
  have hwl : D.length = 16 := by rw [hD]; exact wdig_len _ _ _
  obtain ⟨hzd, -⟩ := zero_of_info dig_zero
  obtain ⟨Zd, hZd⟩ : ∃ Zd, Zd = (H.zeros 16).map bv := ⟨_, rfl⟩
  rw [← hZd] at hzd
  have lZd : Zd.length = 16 := by rw [hZd, List.length_map, H.zeros_len]
  obtain ⟨E, hE⟩ : ∃ E, E = D.map bv := ⟨_, rfl⟩
  have lE : E.length = 16 := by rw [hE, List.length_map, hwl]
  have yE := size_dig lE
  have oE : E.toArray.all (·.oneCell') = true := all_oneCell_toArray (by rw [hE]; exact bytes_one _)
  have hIt : ∀ n ∈ p ++ [t], M.I64 n := by
    intro n h
    rcases List.mem_append.1 h with h | h
    · exact hpI n h
    · rw [List.mem_singleton.1 h]; exact ht
  have hl1 : (p ++ [t]).length ≤ 21 := by simp; omega
  have hel := enc_ints_len (p ++ [t]) hIt (by omega)
  obtain ⟨r, hr0⟩ : ∃ r, r = p ++ [t] := ⟨_, rfl⟩
  rw [← hr0] at hwd hIt hl1 hel
  have LE := Lib.hid (And.intro lE (And.intro lZd hE))
  have YE := Lib.hid yE
  have OE := Lib.hid oE
  have HD := Lib.hid (And.intro hwd (And.intro hwn hwl))
  have HI := Lib.hid (And.intro hIt (And.intro hl1 (And.intro hel hr0)))
  clear hZd lZd lE yE oE hE hwd hwn hwl hIt hl1 hel hr0 hD
  have CT := Lib.hid cT
  have CS := Lib.hid cS
  have HP := Lib.hid (And.intro hpl (And.intro hpI (And.intro hqs ht)))
  have HT := Lib.hid (And.intro hR hT)
  clear cT cS hpl hpI hqs ht hR hT hr hc hm hI hp hN hq
  go_enter Tryd.func3, Tryd.ntmps3
  go_wp2_with fail
  refine (CS.out _).mono ?_
  rintro e w0 ⟨rfl, rfl⟩
  go_wp2_with fail
  refine CT.out.mono ?_
  rintro e w1 ⟨v, rfl, hown, hb1⟩
  obtain ⟨A1, c1, rfl, hr1, h1, h2⟩ := own_rd (B := 0) hown
  have hhp := HP.out
  have cW := word_any q A1 c1 p t w1 hr1 h1 h2 (by omega) (by omega) hhp.2.1 hhp.2.2.2 (HT.out.2.below hb1 (Nat.le_refl _))
  have CW := Lib.hid cW
  have K1 := Lib.hid (And.intro hr1 (And.intro hb1 (And.intro h1 h2)))
  clear CT CS hown hr1 h1 h2 hb1 hhp cW
  go_wp2_with fail
  refine CW.out.mono ?_
  rintro e w2 ⟨rfl, hb2⟩
  have hr2 := (K1.out.1.below hb2).more hb2.size
  have hb2' := K1.out.2.1.trans (hb2.mono K1.out.2.1.size)
  obtain ⟨y, hy⟩ : ∃ y : Nat, y = wordN q p t := ⟨_, rfl⟩
  rw [← hy]
  have hyl : y < 281474976710656 := by rw [hy]; exact wordN_lt _ _ _
  have hb3 : Below w2.heap.size w2 (w2.alloc (.cells #[] 3)) := (Below.refl _ _).alloc (Nat.le_refl _) _
  have hr3 : Rd (w2.alloc (.cells #[] 3)) (w2.alloc (.cells #[] 3)).heap.size A1 (p.map iv) := (hr2.below ((Below.refl _ _).alloc (Nat.le_refl _) _)).more (by simp)
  have ho3 := own_new0 w2
  obtain ⟨W3, hW3⟩ : ∃ W3, W3 = w2.alloc (.cells #[] 3) := ⟨_, rfl⟩
  rw [← hW3] at hb3 hr3 ho3
  obtain ⟨L1, hL1⟩ : ∃ L1, L1 = p.length := ⟨_, rfl⟩
  have hpl := HP.out.1
  rw [← hL1] at hpl ⊢
  have K3 := Lib.hid (And.intro hr3 (And.intro ho3 (And.intro hb3 hW3)))
  have K2 := Lib.hid (And.intro hr2 hb2')
  have HY := Lib.hid hy
  have HL := Lib.hid hL1
  clear hb3 hr3 ho3 hW3 hr2 hb2' hb2 CW hy hL1
  go_wp2_with (first
    | (at_builtin; rw [← K3.out.2.2.2]; refine wpList_append_ownI W3 rfl (.tmp 22) (.tmp 23) rfl w2.heap.size (.slice (some ⟨w2.heap.size, 0, none⟩) 0 0) [] p A1 c1 rfl (by rw [← HL.out]; rfl) K3.out.2.1 K3.out.1 (by rw [← HL.out]; simp; omega) K3.out.2.2.1.size ?_; intro v4 w4 hown4 hgrow4; have hb4 := Lib.hid (K3.out.2.2.1.grown hgrow4 K3.out.2.2.1.size (fun j hj => (K3.out.2.1.lt j hj).1)); rw [List.nil_append] at hown4; clear hgrow4)
    | (at_builtin; refine wpList_append_ownI _ rfl (.tmp 24) (.tmp 26) rfl w2.heap.size _ p [t] (some ⟨w4.heap.size, 0, none⟩) 1 rfl rfl (hown4.alloc _) (rd_new w4 [iv t] 3) (by rw [← HL.out]; simp; omega) (by have := hb4.out.size; simp; omega) ?_; intro v5 w5 hown5 hgrow5; have hb5 := Lib.hid ((hb4.out.alloc hb4.out.size (.cells #[.int .i64 t] 3)).grown hgrow5 (by have := hb4.out.size; simp; omega) (fun j hj => (hown4.lt j hj).1)); rw [← HI.out.2.2.2] at hown5; clear hgrow5 hown4 hb4))
  obtain ⟨A5, c5, rfl, hr5, h51, h52⟩ := own_rd (B := 0) hown5
  have cI := ints_any A5 c5 r w5 hr5 h51 h52 (by have := HI.out.2.1; omega) HI.out.1
  have CI := Lib.hid cI
  clear hown5 hr5 cI K3
  refine CI.out.mono ?_
  rintro e w6 ⟨v6, rfl, hown6, hb6⟩
  obtain ⟨A6, c6, rfl, hr6, -, -⟩ := own_rd (B := 0) hown6
  have hcv := conv_bytes w6 _ A6 (M.encL M.encI r) c6 hr6
  obtain ⟨L, hL⟩ : ∃ L, L = M.encL M.encI r := ⟨_, rfl⟩
  have hsz := HI.out.2.2.1
  have hq1 := HI.out.2.1
  have hs1 := HP.out.2.2.1
  have hd := HD.out.1
  rw [← hL] at hcv hsz hd ⊢
  have hpl2 := inp_len_upto 8 [q, bs L] (by simp) (by intro x hx; rcases List.mem_cons.1 hx with rfl | hx; omega; obtain rfl := List.mem_singleton.1 hx; rw [bbytes_size]; omega) 2
  rw [show (2 : Nat) = [q, bs L].length from rfl, pre_full] at hpl2
  have hb6' := hb5.out.trans (hb6.mono hb5.out.size)
  obtain ⟨W7, hW7⟩ : ∃ W7, W7 = w6.alloc (.cells #[.string q, .string (bs L)] 9) := ⟨_, rfl⟩
  have hb7 : Below w2.heap.size w2 W7 := by rw [hW7]; exact hb6'.alloc hb6'.size _
  have cO := of_any 8 (some ⟨w6.heap.size, 0, none⟩) 2 [q, bs L] W7 (by rw [hW7]; exact rd_new w6 [sv q, sv (bs L)] 9) (by simp) (by intro x hx; rcases List.mem_cons.1 hx with rfl | hx; omega; obtain rfl := List.mem_singleton.1 hx; rw [bbytes_size]; omega) (by omega) ((HT.out.2.below K2.out.2 (Nat.le_refl _)).below hb7 (Nat.le_refl _))
  rw [← hd, ← LE.out.2.2] at cO
  have CO := Lib.hid cO
  have B7 := Lib.hid (And.intro hb7 hW7)
  clear hL hsz hq1 hs1 hd hpl2 hb6' hW7 hb7 cO hr6 hown6 hb6 CI hb5
  go_wp2_with fail
  rw [← B7.out.2]
  refine CO.out.mono ?_
  rintro e w8 ⟨rfl, hb8⟩
  have hk8 : Blk (w8.alloc (.cells Zd.toArray 27)) w8.heap.size Zd 27 := Blk.new w8 _ _
  have t8 : (w8.alloc (.cells Zd.toArray 27)).there w8.heap.size 0 E.toArray.size := hk8.there 0 _ (by rw [List.size_toArray, LE.out.1, LE.out.2.1]; omega)
  have hk9 := hk8.whole E (by rw [LE.out.1, LE.out.2.1])
  have hb8' := B7.out.1.trans (hb8.mono B7.out.1.size)
  have hb9 : Below w2.heap.size w2 ((w8.alloc (.cells Zd.toArray 27)).setCells w8.heap.size 0 E) := below_setCells _ hb8'.size _ _ _ (hb8'.alloc hb8'.size _)
  obtain ⟨W9, hW9⟩ : ∃ W9, W9 = (w8.alloc (.cells Zd.toArray 27)).setCells w8.heap.size 0 E := ⟨_, rfl⟩
  rw [← hW9] at hk9 hb9
  have T8 := Lib.hid t8
  have K9 := Lib.hid (And.intro hk9 (And.intro hb9 hW9))
  clear hk8 t8 hk9 hb8' hb9 hb8 hW9 CO B7
  go_wp2_with (refine wpList_store_mid rfl 27 (.tmp 10) (.tmp 31) rfl w8.heap.size 0 E.toArray rfl rfl T8.out YE.out OE.out ?_)
  rw [← K9.out.2.2]
  go_loopw [11, 12] (fun n i wr => ∃ k : Nat, k ≤ 6 ∧ i = .int .i64 k ∧ n = .int .i64 (num (D.take k) : Int) ∧ W9 = wr) (fun _ i _ => 6 - (intOf i).toNat)
  case atStart => exact ⟨0, Nat.zero_le _, rfl, rfl, rfl⟩
  case round =>
    obtain ⟨k, hk, rfl, rfl, hw⟩ := hrel
    have hw := hw.symm
    subst hw
    by_cases hlt : k < 6
    · have hDl := HD.out.2.2
      have hst := num_step D k (by omega)
      have hlt2 := num_take_lt D k hlt
      have hck := K9.out.1.cell k (bv (D.getD k 0)) (by rw [LE.out.2.2, List.getElem?_map, getD_at D k 0 (by omega)]; rfl)
      obtain ⟨b, hb⟩ : ∃ b, b = (D.getD k 0).toNat := ⟨_, rfl⟩
      have hb8 : b < 256 := by rw [hb]; exact UInt8.toNat_lt _
      unfold bv at hck
      obtain ⟨N, hN⟩ : ∃ N, N = num (D.take k) := ⟨_, rfl⟩
      rw [← hb, ← hN] at hst
      rw [← hb] at hck
      rw [← hN] at hlt2 ⊢
      have hi1 : (k : Int) < 6 := by omega
      have hi2 : (k : Int) < 16 := by omega
      have HS := Lib.hid hst
      have hN1 : (N : Int) < 1099511627776 := by omega
      have hwr : IntKind.i64.wrap ((N : Int) * 256) = (N : Int) * 256 := by rw [IntKind.wrap_i64]; omega
      clear hst hb hN hDl hlt2
      go_wp2_with fail
      refine ⟨⟨k + 1, by omega, by go_num, by rw [HS.out]; congr 1, trivial⟩, by simp [intOf]; omega⟩
    · obtain rfl : k = 6 := by omega
      have hyn : num (D.take 6) = y := by rw [HY.out]; exact HD.out.2.1.symm
      rw [hyn]
      clear hyn
      have hp0 := HP.out
      have cR := refWord_any q A1 c1 p t wr ((K2.out.1.below K9.out.2.1).more K9.out.2.1.size) (by omega) (by omega) hp0.2.1 hp0.2.2.2 ((HT.out.1.below K2.out.2 (Nat.le_refl _)).below K9.out.2.1 (Nat.le_refl _))
      rw [← HL.out, ← HY.out] at cR
      have CR := Lib.hid cR
      have B9 := Lib.hid (K2.out.2.trans (K9.out.2.1.mono K2.out.2.size))
      clear hp0 cR hw K9
      go_wp2_with fail
      refine CR.out.mono ?_
      rintro e w10 ⟨rfl, hb10⟩
      have B10 := Lib.hid (B9.out.trans (hb10.mono B9.out.size))
      have cL := lives_any w10 (HT.out.2.below B10.out (Nat.le_refl _))
      have CL := Lib.hid cL
      have hy0 : (0 : Int) ≤ y := by omega
      have hy1 : (y : Int) < 281474976710656 := by omega
      clear hb10 cL CR B9 hyl
      go_wp2_with fail
      refine CL.out.mono ?_
      rintro e w11 ⟨rfl, hb11⟩
      go_wp2_with fail
      go_ret
      exact ⟨rfl, B10.out.trans (hb11.mono B10.out.size)⟩
end Go.Proofs.YtcejokbbiinbkaaDoor
end

