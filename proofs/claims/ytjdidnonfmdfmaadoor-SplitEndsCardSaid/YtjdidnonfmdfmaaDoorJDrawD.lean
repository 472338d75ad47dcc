import Derived.Test.YtjdidnonfmdfmaaDoorJDrawC
import Derived.Test.YtjdidnonfmdfmaaDoorJHashW

section
/- The contract of draw.Word. -/


namespace Go.Proofs.YtjdidnonfmdfmaaDoor
open Go.RowKit
set_option linter.unusedVariables false
set_option maxRecDepth 100000

theorem rd_alloc_new (w : World) (xs : List Value) (t : TypeId) (o : Obj) : Rd ((w.alloc (.cells xs.toArray t)).alloc o) ((w.alloc (.cells xs.toArray t)).alloc o).heap.size (some ⟨w.heap.size, 0, none⟩) xs :=
  ((rd_new w xs t).alloc (Nat.le_refl _) o).more (by simp)

set_option maxHeartbeats 4000000 in
theorem word_any (s : ByteArray) (A : Option Addr) (cap : Nat) (p : List Int) (t : Int) (w : World) (hr : Rd w w.heap.size A (p.map iv)) (hc : p.length ≤ cap) (hm : cap ≤ maxLen) (hs : s.size ≤ 1000) (hn : p.length ≤ 100)
    (hI : ∀ n ∈ p, M.I64 n) (ht : M.I64 t) (hT : HTab w) :
    Calls Tryd.prog 49 #[.string s, .slice A p.length cap, .int .i64 t] w fun e w' => e = .returned (.int .i64 (wordN s p t : Int)) ∧ Below w.heap.size w w' := by
  obtain ⟨ps, hps⟩ : ∃ ps : List Part, ps = [⟨A, cap, p⟩, ⟨some ⟨w.heap.size, 0, none⟩, 1, [t]⟩] := ⟨_, rfl⟩
  have hj : joined ps = p ++ [t] := by rw [hps]; simp [joined]
  have hlen : ps.length = 2 := by rw [hps]; rfl
  obtain ⟨W1, hW1⟩ : ∃ W1, W1 = (w.alloc (.cells #[.int .i64 t] 3)).alloc (.cells #[.slice A p.length cap, .slice (some ⟨w.heap.size, 0, none⟩) 1 1] 22) := ⟨_, rfl⟩
  have hb1 : Below w.heap.size w W1 := by rw [hW1]; exact ((Below.refl _ _).alloc (Nat.le_refl _) _).alloc (by simp) _
  have cC := concat_any (some ⟨w.heap.size + 1, 0, none⟩) 2 ps W1 (by
      have h := rd_new (w.alloc (.cells #[.int .i64 t] 3)) [.slice A p.length cap, .slice (some ⟨w.heap.size, 0, none⟩) 1 1] 22
      rw [show (w.alloc (.cells #[.int .i64 t] 3)).heap.size = w.heap.size + 1 by simp] at h
      rw [hW1, hps]
      exact h) (by rw [hlen]; decide) (by
      intro q hq
      rw [hps] at hq
      rcases List.mem_cons.1 hq with rfl | hq
      · exact (hr.below hb1).more hb1.size
      · obtain rfl := List.mem_singleton.1 hq
        rw [hW1]
        exact rd_alloc_new w [iv t] 3 _) (by rw [hj]; simp; omega)
  rw [hlen, hj] at cC
  have hl1 : (p ++ [t]).length ≤ 101 := by simp; omega
  have hI1 : ∀ n ∈ p ++ [t], M.I64 n := by
    intro n h
    rcases List.mem_append.1 h with h | h
    · exact hI n h
    · rw [List.mem_singleton.1 h]; exact ht
  have hel := enc_ints_len (p ++ [t]) hI1 (by omega)
  obtain ⟨q, hq⟩ : ∃ q, q = p ++ [t] := ⟨_, rfl⟩
  have hwd : wdig s p t = dig 8 [s, bs (M.encL M.encI q)] := by rw [hq]; rfl
  have hwn : wordN s p t = num ((wdig s p t).take 6) := rfl
  have hwl := wdig_len s p t
  rw [← hq] at cC hl1 hI1 hel
  obtain ⟨D, hD⟩ : ∃ D, D = wdig s p t := ⟨_, rfl⟩
  obtain ⟨hzd, -⟩ := zero_of_info dig_zero
  obtain ⟨Zd, hZd⟩ : ∃ Zd, Zd = (H.zeros 16).map bv := ⟨_, rfl⟩
  rw [← hZd] at hzd
  have lZd : Zd.length = 16 := by rw [hZd, List.length_map, H.zeros_len]
  clear hZd
  rw [hwn, ← hD]
  rw [← hD] at hwd hwl
  obtain ⟨E, hE⟩ : ∃ E, E = D.map bv := ⟨_, rfl⟩
  have lE : E.length = 16 := by rw [hE, List.length_map, hwl]
  have yE := size_dig lE
  have oE : E.toArray.all (·.oneCell') = true := all_oneCell_toArray (by rw [hE]; exact bytes_one _)
  have LE := Lib.hid (And.intro lE (And.intro lZd hE))
  have YE := Lib.hid yE
  have OE := Lib.hid oE
  clear lE yE oE hE lZd
  have CC := Lib.hid cC
  have HW := Lib.hid hW1
  have HB := Lib.hid hb1
  have HT := Lib.hid hT
  have HI := Lib.hid (And.intro hI1 (And.intro hl1 (And.intro hel hs)))
  have HD := Lib.hid (And.intro hwd hwl)
  clear hps hj hlen hW1 hb1 cC hr hc hm hn hI ht hT hl1 hI1 hel hq hwd hwn hwl hD hs
  go_enter Tryd.func49, Tryd.ntmps49
  go_wp2_with fail
  rw [← HW.out]
  refine CC.out.mono ?_
  rintro e w1 ⟨v, rfl, hown, hb1⟩
  obtain ⟨A1, c1, rfl, hr1, h1, h2⟩ := own_rd (B := 0) hown
  have hb1' := HB.out.trans (hb1.mono HB.out.size)
  have cI := ints_any A1 c1 q w1 hr1 h1 h2 (by have := HI.out.2.1; omega) HI.out.1
  have CI := Lib.hid cI
  have B1 := Lib.hid hb1'
  clear CC HB hb1 hb1' hown hr1 cI
  go_wp2_with fail
  refine CI.out.mono ?_
  rintro e w2 ⟨v2, rfl, hown2, hb2⟩
  obtain ⟨A2, c2, rfl, hr2, -, -⟩ := own_rd (B := 0) hown2
  have hcv := conv_bytes w2 _ A2 (M.encL M.encI q) c2 hr2
  obtain ⟨L, hL⟩ : ∃ L, L = M.encL M.encI q := ⟨_, rfl⟩
  have hsz := HI.out.2.2.1
  have hq1 := HI.out.2.1
  have hs1 := HI.out.2.2.2
  have hd := HD.out.1
  rw [← hL] at hcv hsz hd ⊢
  have hpl := inp_len_upto 8 [s, bs L] (by simp) (by intro x hx; rcases List.mem_cons.1 hx with rfl | hx; omega; obtain rfl := List.mem_singleton.1 hx; rw [bbytes_size]; omega) 2
  rw [show (2 : Nat) = [s, bs L].length from rfl, pre_full] at hpl
  have hb2' := B1.out.trans (hb2.mono B1.out.size)
  obtain ⟨W3, hW3⟩ : ∃ W3, W3 = w2.alloc (.cells #[.string s, .string (bs L)] 9) := ⟨_, rfl⟩
  have hb3 : Below w.heap.size w W3 := by rw [hW3]; exact hb2'.alloc hb2'.size _
  have cO := of_any 8 (some ⟨w2.heap.size, 0, none⟩) 2 [s, bs L] W3 (by rw [hW3]; exact rd_new w2 [sv s, sv (bs L)] 9) (by simp) (by intro x hx; rcases List.mem_cons.1 hx with rfl | hx; omega; obtain rfl := List.mem_singleton.1 hx; rw [bbytes_size]; omega) (by omega) (HT.out.below hb3 (Nat.le_refl _))
  rw [← hd, ← LE.out.2.2] at cO
  have CO := Lib.hid cO
  have B3 := Lib.hid (And.intro hb3 hW3)
  have HL := Lib.hid hL
  clear hL hsz hq1 hs1 hd hpl hb2' hW3 hb3 cO hr2 hown2 hb2 CI B1
  go_wp2_with fail
  rw [← B3.out.2]
  refine CO.out.mono ?_
  rintro e w4 ⟨rfl, hb4⟩
  have hk4 : Blk (w4.alloc (.cells Zd.toArray 77)) w4.heap.size Zd 77 := Blk.new w4 _ _
  have t4 : (w4.alloc (.cells Zd.toArray 77)).there w4.heap.size 0 E.toArray.size := hk4.there 0 _ (by rw [List.size_toArray, LE.out.1, LE.out.2.1]; omega)
  have hk5 := hk4.whole E (by rw [LE.out.1, LE.out.2.1])
  have hb4' := B3.out.1.trans (hb4.mono B3.out.1.size)
  have hb5 : Below w.heap.size w ((w4.alloc (.cells Zd.toArray 77)).setCells w4.heap.size 0 E) := below_setCells _ hb4'.size _ _ _ (hb4'.alloc hb4'.size _)
  obtain ⟨W5, hW5⟩ : ∃ W5, W5 = (w4.alloc (.cells Zd.toArray 77)).setCells w4.heap.size 0 E := ⟨_, rfl⟩
  rw [← hW5] at hk5 hb5
  have T4 := Lib.hid t4
  have K5 := Lib.hid (And.intro hk5 (And.intro hb5 hW5))
  clear hk4 t4 hk5 hb4' hb5 hb4 hW5 CO B3
  go_wp2_with (refine wpList_store_mid rfl 77 (.tmp 8) (.tmp 22) rfl w4.heap.size 0 E.toArray rfl rfl T4.out YE.out OE.out ?_)
  rw [← K5.out.2.2]
  go_loopw [9, 11, 25] (fun n b i wr => ∃ k : Nat, k ≤ 6 ∧ i = .int .i64 k ∧ n = .int .i64 (num (D.take k) : Int) ∧ W5 = wr) (fun _ _ i _ => 6 - (intOf i).toNat)
  case atStart => exact ⟨0, Nat.zero_le _, rfl, rfl, rfl⟩
  case round =>
    obtain ⟨k, hk, rfl, rfl, hw⟩ := hrel
    have hw := hw.symm
    subst hw
    by_cases hlt : k < 6
    · have hDl := HD.out.2
      have hst := num_step D k (by omega)
      have hlt2 := num_take_lt D k hlt
      have hck := K5.out.1.cell k (bv (D.getD k 0)) (by rw [LE.out.2.2, List.getElem?_map, getD_at D k 0 (by omega)]; rfl)
      obtain ⟨b, hb⟩ : ∃ b, b = (D.getD k 0).toNat := ⟨_, rfl⟩
      have hb8 : b < 256 := by rw [hb]; exact UInt8.toNat_lt _
      unfold bv at hck
      obtain ⟨N, hN⟩ : ∃ N, N = num (D.take k) := ⟨_, rfl⟩
      rw [← hb, ← hN] at hst
      rw [← hb] at hck
      rw [← hN] at hlt2 ⊢
      have hor := i64_or_byte N b hlt2 hb8
      have hi1 : (k : Int) < 6 := by omega
      have HS := Lib.hid hst
      have hN1 : (N : Int) < 1099511627776 := by omega
      have hwr : IntKind.i64.wrap ((N : Int) * 256) = (N : Int) * 256 := by rw [IntKind.wrap_i64]; omega
      clear hst hb hN hDl hlt2
      go_wp2_with fail
      refine ⟨⟨k + 1, by omega, by go_num, by rw [HS.out]; congr 1, trivial⟩, by simp [intOf]; omega⟩
    · obtain rfl : k = 6 := by omega
      go_wp2_with fail
      go_ret
      exact ⟨rfl, K5.out.2.1⟩
end Go.Proofs.YtjdidnonfmdfmaaDoor
end

