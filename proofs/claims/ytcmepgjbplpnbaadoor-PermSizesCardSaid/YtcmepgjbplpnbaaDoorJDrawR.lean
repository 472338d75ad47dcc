import Derived.Test.YtcmepgjbplpnbaaDoorJDrawC
import Derived.Test.YtcmepgjbplpnbaaDoorJHashRe
import Derived.Test.YtcmepgjbplpnbaaDoorJWireRd1

section
/- The reference's Word. -/



namespace Go.Proofs.YtcmepgjbplpnbaaDoor
open Go.RowKit
set_option linter.unusedVariables false
set_option maxRecDepth 100000

/-- append(append([]int{}, p...), t): the row that it makes. -/
theorem own_new0 (w : World) : (w.alloc (.cells #[] 3)).ownsRow w.heap.size 3 1 (.slice (some ⟨w.heap.size, 0, none⟩) 0 0) ([] : List Int).length (([] : List Int).map iv) :=
  own_new w w.heap.size 0 3 [] rfl (Nat.le_refl _) (by decide)

set_option maxHeartbeats 4000000 in
theorem refWord_any (s : ByteArray) (A : Option Addr) (cap : Nat) (p : List Int) (t : Int) (w : World) (hr : Rd w w.heap.size A (p.map iv)) (hs : s.size ≤ 1000) (hn : p.length ≤ 100)
    (hI : ∀ n ∈ p, M.I64 n) (ht : M.I64 t) (hT : RTab w) :
    Calls Tryd.prog 44 #[.string s, .slice A p.length cap, .int .i64 t] w fun e w' => e = .returned (.int .i64 (wordN s p t : Int)) ∧ Below w.heap.size w w' := by
  have hl1 : (p ++ [t]).length ≤ 101 := by simp; omega
  have hI1 : ∀ n ∈ p ++ [t], M.I64 n := by
    intro n h
    rcases List.mem_append.1 h with h | h
    · exact hI n h
    · rw [List.mem_singleton.1 h]; exact ht
  have hel := enc_ints_len (p ++ [t]) hI1 (by omega)
  obtain ⟨q, hq⟩ : ∃ q, q = p ++ [t] := ⟨_, rfl⟩
  have hwd : wdig s p t = dig 8 [s, bs (M.encL M.encI q)] := by rw [hq]; rfl
  have hwn : wordN s p t = num ((wdig s p t).take 6) := rfl
  have hwl := wdig_len s p t
  rw [← hq] at hl1 hI1 hel
  obtain ⟨D, hD⟩ : ∃ D, D = wdig s p t := ⟨_, rfl⟩
  obtain ⟨hzd, -⟩ := zero_of_info dig_zero
  obtain ⟨Zd, hZd⟩ : ∃ Zd, Zd = (H.zeros 16).map bv := ⟨_, rfl⟩
  rw [← hZd] at hzd
  have lZd : Zd.length = 16 := by rw [hZd, List.length_map, H.zeros_len]
  rw [hwn, ← hD]
  rw [← hD] at hwd hwl
  obtain ⟨E, hE⟩ : ∃ E, E = D.map bv := ⟨_, rfl⟩
  have lE : E.length = 16 := by rw [hE, List.length_map, hwl]
  have yE := size_dig lE
  have oE : E.toArray.all (·.oneCell') = true := all_oneCell_toArray (by rw [hE]; exact bytes_one _)
  have hb0 : Below w.heap.size w (w.alloc (.cells #[] 3)) := (Below.refl _ _).alloc (Nat.le_refl _) _
  have hr0 : Rd (w.alloc (.cells #[] 3)) (w.alloc (.cells #[] 3)).heap.size A (p.map iv) := (hr.below hb0).more hb0.size
  have ho0 := own_new0 w
  obtain ⟨W0, hW0⟩ : ∃ W0, W0 = w.alloc (.cells #[] 3) := ⟨_, rfl⟩
  obtain ⟨N, hN⟩ : ∃ N, N = p.length := ⟨_, rfl⟩
  rw [← hW0] at hb0 hr0 ho0
  rw [← hN] at hn ⊢
  have LE := Lib.hid (And.intro lE (And.intro lZd hE))
  have YE := Lib.hid yE
  have OE := Lib.hid oE
  have HW0 := Lib.hid hW0
  have K0 := Lib.hid (And.intro hb0 (And.intro hr0 ho0))
  have HT := Lib.hid hT
  have HN := Lib.hid (And.intro hN hq)
  have HI := Lib.hid (And.intro hI1 (And.intro hl1 (And.intro hel hs)))
  have HD := Lib.hid (And.intro hwd hwl)
  clear lE yE oE hE lZd hZd hb0 hr0 ho0 hW0 hN hr hs hI ht hT hl1 hI1 hel hq hwd hwn hwl hD
  go_enter Tryd.func44, Tryd.ntmps44
  go_wp2_with (first
    | (at_builtin; rw [← HW0.out]; refine wpList_append_ownI W0 rfl (.tmp 11) (.tmp 12) rfl w.heap.size (.slice (some ⟨w.heap.size, 0, none⟩) 0 0) [] p A cap rfl (by rw [← HN.out.1]; rfl) K0.out.2.2 K0.out.2.1 (by rw [← HN.out.1]; simp; omega) K0.out.1.size ?_; intro v2 w2 hown2 hgrow2; have hb2 := Lib.hid (K0.out.1.grown hgrow2 K0.out.1.size (fun j hj => (K0.out.2.2.lt j hj).1)); rw [List.nil_append] at hown2; clear hgrow2 K0 HW0)
    | (at_builtin; refine wpList_append_ownI _ rfl (.tmp 13) (.tmp 15) rfl w.heap.size _ p [t] (some ⟨w2.heap.size, 0, none⟩) 1 rfl rfl (hown2.alloc _) (rd_new w2 [iv t] 3) (by rw [← HN.out.1]; simp; omega) (by have := hb2.out.size; simp; omega) ?_; intro v3 w3 hown3 hgrow3; have hb3 := Lib.hid ((hb2.out.alloc hb2.out.size (.cells #[.int .i64 t] 3)).grown hgrow3 (by have := hb2.out.size; simp; omega) (fun j hj => (hown2.lt j hj).1)); rw [← HN.out.2] at hown3; clear hgrow3 hown2 hb2))
  obtain ⟨A1, c1, rfl, hr1, h1, h2⟩ := own_rd (B := 0) hown3
  have cI := refInts_any A1 c1 q w3 hr1 h1 h2 (by have := HI.out.2.1; omega) HI.out.1
  have CI := Lib.hid cI
  clear hown3 hr1 cI
  refine CI.out.mono ?_
  rintro e w4 ⟨v4, rfl, hown4, hb4⟩
  obtain ⟨A2, c2, rfl, hr2, -, -⟩ := own_rd (B := 0) hown4
  have hcv := conv_bytes w4 _ A2 (M.encL M.encI q) c2 hr2
  obtain ⟨L, hL⟩ : ∃ L, L = M.encL M.encI q := ⟨_, rfl⟩
  have hsz := HI.out.2.2.1
  have hq1 := HI.out.2.1
  have hs1 := HI.out.2.2.2
  have hd := HD.out.1
  rw [← hL] at hcv hsz hd ⊢
  have hb4' := hb3.out.trans (hb4.mono hb3.out.size)
  obtain ⟨W5, hW5⟩ : ∃ W5, W5 = w4.alloc (.cells #[.string s, .string (bs L)] 9) := ⟨_, rfl⟩
  have hb5 : Below w.heap.size w W5 := by rw [hW5]; exact hb4'.alloc hb4'.size _
  have cO := refOf_upto 8 (some ⟨w4.heap.size, 0, none⟩) 2 [s, bs L] W5 (by rw [hW5]; exact rd_new w4 [sv s, sv (bs L)] 9) (by simp) (by intro x hx; rcases List.mem_cons.1 hx with rfl | hx; omega; obtain rfl := List.mem_singleton.1 hx; rw [bbytes_size]; omega) (HT.out.below hb5 (Nat.le_refl _))
  rw [← hd, ← LE.out.2.2] at cO
  have CO := Lib.hid cO
  have B5 := Lib.hid (And.intro hb5 hW5)
  have HL := Lib.hid hL
  clear hL hsz hq1 hs1 hd hb4' hW5 hb5 cO hr2 hown4 hb4 CI hb3
  go_wp2_with fail
  rw [← B5.out.2]
  refine CO.out.mono ?_
  rintro e w6 ⟨rfl, hb6⟩
  have hk6 : Blk (w6.alloc (.cells Zd.toArray 55)) w6.heap.size Zd 55 := Blk.new w6 _ _
  have t6 : (w6.alloc (.cells Zd.toArray 55)).there w6.heap.size 0 E.toArray.size := hk6.there 0 _ (by rw [List.size_toArray, LE.out.1, LE.out.2.1]; omega)
  have hk7 := hk6.whole E (by rw [LE.out.1, LE.out.2.1])
  have hb6' := B5.out.1.trans (hb6.mono B5.out.1.size)
  have hb7 : Below w.heap.size w ((w6.alloc (.cells Zd.toArray 55)).setCells w6.heap.size 0 E) := below_setCells _ hb6'.size _ _ _ (hb6'.alloc hb6'.size _)
  obtain ⟨W7, hW7⟩ : ∃ W7, W7 = (w6.alloc (.cells Zd.toArray 55)).setCells w6.heap.size 0 E := ⟨_, rfl⟩
  rw [← hW7] at hk7 hb7
  have T6 := Lib.hid t6
  have K7 := Lib.hid (And.intro hk7 (And.intro hb7 hW7))
  clear hk6 t6 hk7 hb6' hb7 hb6 hW7 CO B5
  go_wp2_with (refine wpList_store_mid rfl 55 (.tmp 8) (.tmp 22) rfl w6.heap.size 0 E.toArray rfl rfl T6.out YE.out OE.out ?_)
  rw [← K7.out.2.2]
  go_loopw [9, 10] (fun n i wr => ∃ k : Nat, k ≤ 6 ∧ i = .int .i64 k ∧ n = .int .i64 (num (D.take k) : Int) ∧ W7 = wr) (fun _ i _ => 6 - (intOf i).toNat)
  case atStart => exact ⟨0, Nat.zero_le _, rfl, rfl, rfl⟩
  case round =>
    obtain ⟨k, hk, rfl, rfl, hw⟩ := hrel
    have hw := hw.symm
    subst hw
    by_cases hlt : k < 6
    · have hDl := HD.out.2
      have hst := num_step D k (by omega)
      have hlt2 := num_take_lt D k hlt
      have hck := K7.out.1.cell k (bv (D.getD k 0)) (by rw [LE.out.2.2, List.getElem?_map, getD_at D k 0 (by omega)]; rfl)
      obtain ⟨b, hb⟩ : ∃ b, b = (D.getD k 0).toNat := ⟨_, rfl⟩
      have hb8 : b < 256 := by rw [hb]; exact UInt8.toNat_lt _
      unfold bv at hck
      obtain ⟨N, hN⟩ : ∃ N, N = num (D.take k) := ⟨_, rfl⟩
      rw [← hb, ← hN] at hst
      rw [← hb] at hck
      rw [← hN] at hlt2 ⊢
      have hi1 : (k : Int) < 6 := by omega
      have hi2 : (k : Int) < 16 := by omega
      have HS := Lib.hid hst
      have hN1 : (N : Int) < 1099511627776 := by omega
      have hwr : IntKind.i64.wrap ((N : Int) * 256) = (N : Int) * 256 := by rw [IntKind.wrap_i64]; omega
      clear hst hb hN hDl hlt2
      go_wp2_with fail
      refine ⟨⟨k + 1, by omega, by go_num, by rw [HS.out]; congr 1, trivial⟩, by simp [intOf]; omega⟩
    · obtain rfl : k = 6 := by omega
      go_wp2_with fail
      go_ret
      exact ⟨rfl, K7.out.2.1⟩
end Go.Proofs.YtcmepgjbplpnbaaDoor
end

