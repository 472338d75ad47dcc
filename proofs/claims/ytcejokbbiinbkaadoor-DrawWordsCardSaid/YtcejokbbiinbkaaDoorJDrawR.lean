import Derived.Laws.BitsAllLaws
import Derived.Test.YtcejokbbiinbkaaDoorJDrawB
import Derived.Test.YtcejokbbiinbkaaDoorJHashM
import Derived.Test.YtcejokbbiinbkaaDoorJHashRe
import Derived.Test.YtcejokbbiinbkaaDoorJShort
import Derived.Test.YtcejokbbiinbkaaDoorJWireRd1

section
/- Words: the number of a digest's first six bytes; the contract of draw.Word. -/




namespace Go.Proofs.YtcejokbbiinbkaaDoor
open Go.RowKit
set_option linter.unusedVariables false
set_option maxRecDepth 100000

/-- The number of some bytes, the first one being the highest. -/
def num (l : List UInt8) : Nat := l.foldl (fun n b => n * 256 + b.toNat) 0
theorem num_snoc (l : List UInt8) (b : UInt8) : num (l ++ [b]) = num l * 256 + b.toNat := by simp [num]
theorem num_step (l : List UInt8) (k : Nat) (h : k < l.length) : num (l.take (k + 1)) = num (l.take k) * 256 + (l.getD k 0).toNat := by
  rw [List.take_add_one, List.getElem?_eq_getElem h, show l.getD k 0 = l[k] by simp [h]]
  exact num_snoc _ _
theorem num_lt (l : List UInt8) : num l < 256 ^ l.length := by
  have h : ∀ (l : List UInt8) (n m : Nat), n < m → l.foldl (fun n b => n * 256 + b.toNat) n < m * 256 ^ l.length := by
    intro l
    induction l with
    | nil => intro n m h; simpa using h
    | cons b r ih =>
      intro n m h
      have hb := b.toNat_lt
      have := ih (n * 256 + b.toNat) (m * 256) (by omega)
      rw [List.length_cons, Nat.pow_succ, Nat.mul_comm (256 ^ r.length) 256, ← Nat.mul_assoc]
      exact this
  have := h l 0 1 (by omega)
  rw [Nat.one_mul] at this
  exact this
theorem num_take_lt (l : List UInt8) (k : Nat) (h : k < 6) : num (l.take k) < 1099511627776 := by
  have h1 := num_lt (l.take k)
  have h2 : (l.take k).length ≤ 5 := by rw [List.length_take]; omega
  have h3 : 256 ^ (l.take k).length ≤ 256 ^ 5 := Nat.pow_le_pow_right (by decide) h2
  have h4 : (256 : Nat) ^ 5 = 1099511627776 := by decide
  omega
theorem num_six (l : List UInt8) : num (l.take 6) < 281474976710656 := by
  have h1 := num_lt (l.take 6)
  have h2 : (l.take 6).length ≤ 6 := by rw [List.length_take]; omega
  have h3 : 256 ^ (l.take 6).length ≤ 256 ^ 6 := Nat.pow_le_pow_right (by decide) h2
  have h4 : (256 : Nat) ^ 6 = 281474976710656 := by decide
  omega
theorem or_byte8 (n b : Nat) (hb : b < 256) : n * 256 ||| b = n * 256 + b := by
  have h := Nat.shiftLeft_add_eq_or_of_lt (a := n) (b := b) (i := 8) hb
  rw [Nat.shiftLeft_eq] at h
  exact h.symm

theorem i64_or_byte (n b : Nat) (hn : n < 1099511627776) (hb : b < 256) : bits .or .i64 ((n : Int) * 256) (b : Int) = ((n * 256 + b : Nat) : Int) := by
  show IntKind.i64.wrap ((BitVec.ofInt 64 ((n : Int) * 256) ||| BitVec.ofInt 64 (b : Int)).toNat : Int) = _
  rw [show (n : Int) * 256 = ((n * 256 : Nat) : Int) by omega, BitVec.toNat_or, ofInt_u64 _ (by omega), ofInt_u64 _ (by omega), or_byte8 _ _ hb, IntKind.wrap_i64]
  omega

/-- What a word hashes. -/
def wordP (s : ByteArray) (p : List Int) (t : Int) : List ByteArray := [s, bs (M.encL M.encI (p ++ [t]))]
def wdig (s : ByteArray) (p : List Int) (t : Int) : List UInt8 := dig 8 (wordP s p t)
/-- The word of a seed, a path and a try. -/
def wordN (s : ByteArray) (p : List Int) (t : Int) : Nat := num ((wdig s p t).take 6)
theorem wordN_lt (s : ByteArray) (p : List Int) (t : Int) : wordN s p t < 281474976710656 := num_six _
theorem wdig_len (s : ByteArray) (p : List Int) (t : Int) : (wdig s p t).length = 16 := dig_len _ _
theorem enc_ints_len (l : List Int) (h : ∀ n ∈ l, M.I64 n) (hl : l.length ≤ 1000) : (M.encL M.encI l).length ≤ 9 * l.length + 9 := by
  have h1 := M.encI_len_le l.length (M.I64_nat _ (by omega))
  have h2 := M.flat_ints l h
  unfold M.encL
  rw [List.length_append]
  omega
end Go.Proofs.YtcejokbbiinbkaaDoor
end

section
/- The reference's Word. -/



namespace Go.Proofs.YtcejokbbiinbkaaDoor
open Go.RowKit
set_option linter.unusedVariables false
set_option maxRecDepth 100000

/-- append(append([]int{}, p...), t): the row that it makes. -/
theorem own_new0 (w : World) : (w.alloc (.cells #[] 3)).ownsRow w.heap.size 3 1 (.slice (some ⟨w.heap.size, 0, none⟩) 0 0) ([] : List Int).length (([] : List Int).map iv) :=
  own_new w w.heap.size 0 3 [] rfl (Nat.le_refl _) (by decide)

set_option maxHeartbeats 4000000 in
theorem refWord_any (s : ByteArray) (A : Option Addr) (cap : Nat) (p : List Int) (t : Int) (w : World) (hr : Rd w w.heap.size A (p.map iv)) (hs : s.size ≤ 1000) (hn : p.length ≤ 100)
    (hI : ∀ n ∈ p, M.I64 n) (ht : M.I64 t) (hT : RTab w) :
    Calls Tryd.prog 14 #[.string s, .slice A p.length cap, .int .i64 t] w fun e w' => e = .returned (.int .i64 (wordN s p t : Int)) ∧ Below w.heap.size w w' := by
  have hl1 : (p ++ [t]).length ≤ 101 := by simp; omega
  have hI1 : ∀ n ∈ p ++ [t], M.I64 n := by
    intro n h
    rcases List.mem_append.1 h with h | h
    · exact hI n h
    · rw [List.mem_singleton.1 h]; exact ht
  have hel := enc_ints_len (p ++ [t]) hI1 (by omega)
  obtain ⟨q, hq⟩ : ∃ q, q = p ++ [t] := ⟨_, rfl⟩
  have hwd : wdig s p t = dig 8 [s, bs (M.encL M.encI q)] := by rw [hq]; rfl
  have hwn : wordN s p t = num ((wdig s p t).take 6) := rfl
  have hwl := wdig_len s p t
  rw [← hq] at hl1 hI1 hel
  obtain ⟨D, hD⟩ : ∃ D, D = wdig s p t := ⟨_, rfl⟩
  obtain ⟨hzd, -⟩ := zero_of_info dig_zero
  obtain ⟨Zd, hZd⟩ : ∃ Zd, Zd = (H.zeros 16).map bv := ⟨_, rfl⟩
  rw [← hZd] at hzd
  have lZd : Zd.length = 16 := by rw [hZd, List.length_map, H.zeros_len]
  rw [hwn, ← hD]
  rw [← hD] at hwd hwl
  obtain ⟨E, hE⟩ : ∃ E, E = D.map bv := ⟨_, rfl⟩
  have lE : E.length = 16 := by rw [hE, List.length_map, hwl]
  have yE := size_dig lE
  have oE : E.toArray.all (·.oneCell') = true := all_oneCell_toArray (by rw [hE]; exact bytes_one _)
  have hb0 : Below w.heap.size w (w.alloc (.cells #[] 3)) := (Below.refl _ _).alloc (Nat.le_refl _) _
  have hr0 : Rd (w.alloc (.cells #[] 3)) (w.alloc (.cells #[] 3)).heap.size A (p.map iv) := (hr.below hb0).more hb0.size
  have ho0 := own_new0 w
  obtain ⟨W0, hW0⟩ : ∃ W0, W0 = w.alloc (.cells #[] 3) := ⟨_, rfl⟩
  obtain ⟨N, hN⟩ : ∃ N, N = p.length := ⟨_, rfl⟩
  rw [← hW0] at hb0 hr0 ho0
  rw [← hN] at hn ⊢
  have LE := Lib.hid (And.intro lE (And.intro lZd hE))
  have YE := Lib.hid yE
  have OE := Lib.hid oE
  have HW0 := Lib.hid hW0
  have K0 := Lib.hid (And.intro hb0 (And.intro hr0 ho0))
  have HT := Lib.hid hT
  have HN := Lib.hid (And.intro hN hq)
  have HI := Lib.hid (And.intro hI1 (And.intro hl1 (And.intro hel hs)))
  have HD := Lib.hid (And.intro hwd hwl)
  clear lE yE oE hE lZd hZd hb0 hr0 ho0 hW0 hN hr hs hI ht hT hl1 hI1 hel hq hwd hwn hwl hD
  go_enter Tryd.func14, Tryd.ntmps14
  go_wp2_with (first
    | (at_builtin; rw [← HW0.out]; refine wpList_append_ownI W0 rfl (.tmp 11) (.tmp 12) rfl w.heap.size (.slice (some ⟨w.heap.size, 0, none⟩) 0 0) [] p A cap rfl (by rw [← HN.out.1]; rfl) K0.out.2.2 K0.out.2.1 (by rw [← HN.out.1]; simp; omega) K0.out.1.size ?_; intro v2 w2 hown2 hgrow2; have hb2 := Lib.hid (K0.out.1.grown hgrow2 K0.out.1.size (fun j hj => (K0.out.2.2.lt j hj).1)); rw [List.nil_append] at hown2; clear hgrow2 K0 HW0)
    | (at_builtin; refine wpList_append_ownI _ rfl (.tmp 13) (.tmp 15) rfl w.heap.size _ p [t] (some ⟨w2.heap.size, 0, none⟩) 1 rfl rfl (hown2.alloc _) (rd_new w2 [iv t] 3) (by rw [← HN.out.1]; simp; omega) (by have := hb2.out.size; simp; omega) ?_; intro v3 w3 hown3 hgrow3; have hb3 := Lib.hid ((hb2.out.alloc hb2.out.size (.cells #[.int .i64 t] 3)).grown hgrow3 (by have := hb2.out.size; simp; omega) (fun j hj => (hown2.lt j hj).1)); rw [← HN.out.2] at hown3; clear hgrow3 hown2 hb2))
  obtain ⟨A1, c1, rfl, hr1, h1, h2⟩ := own_rd (B := 0) hown3
  have cI := refInts_any A1 c1 q w3 hr1 h1 h2 (by have := HI.out.2.1; omega) HI.out.1
  have CI := Lib.hid cI
  clear hown3 hr1 cI
  refine CI.out.mono ?_
  rintro e w4 ⟨v4, rfl, hown4, hb4⟩
  obtain ⟨A2, c2, rfl, hr2, -, -⟩ := own_rd (B := 0) hown4
  have hcv := conv_bytes w4 _ A2 (M.encL M.encI q) c2 hr2
  obtain ⟨L, hL⟩ : ∃ L, L = M.encL M.encI q := ⟨_, rfl⟩
  have hsz := HI.out.2.2.1
  have hq1 := HI.out.2.1
  have hs1 := HI.out.2.2.2
  have hd := HD.out.1
  rw [← hL] at hcv hsz hd ⊢
  have hb4' := hb3.out.trans (hb4.mono hb3.out.size)
  obtain ⟨W5, hW5⟩ : ∃ W5, W5 = w4.alloc (.cells #[.string s, .string (bs L)] 9) := ⟨_, rfl⟩
  have hb5 : Below w.heap.size w W5 := by rw [hW5]; exact hb4'.alloc hb4'.size _
  have cO := refOf_upto 8 (some ⟨w4.heap.size, 0, none⟩) 2 [s, bs L] W5 (by rw [hW5]; exact rd_new w4 [sv s, sv (bs L)] 9) (by simp) (by intro x hx; rcases List.mem_cons.1 hx with rfl | hx; omega; obtain rfl := List.mem_singleton.1 hx; rw [bbytes_size]; omega) (HT.out.below hb5 (Nat.le_refl _))
  rw [← hd, ← LE.out.2.2] at cO
  have CO := Lib.hid cO
  have B5 := Lib.hid (And.intro hb5 hW5)
  have HL := Lib.hid hL
  clear hL hsz hq1 hs1 hd hb4' hW5 hb5 cO hr2 hown4 hb4 CI hb3
  go_wp2_with fail
  rw [← B5.out.2]
  refine CO.out.mono ?_
  rintro e w6 ⟨rfl, hb6⟩
  have hk6 : Blk (w6.alloc (.cells Zd.toArray 27)) w6.heap.size Zd 27 := Blk.new w6 _ _
  have t6 : (w6.alloc (.cells Zd.toArray 27)).there w6.heap.size 0 E.toArray.size := hk6.there 0 _ (by rw [List.size_toArray, LE.out.1, LE.out.2.1]; omega)
  have hk7 := hk6.whole E (by rw [LE.out.1, LE.out.2.1])
  have hb6' := B5.out.1.trans (hb6.mono B5.out.1.size)
  have hb7 : Below w.heap.size w ((w6.alloc (.cells Zd.toArray 27)).setCells w6.heap.size 0 E) := below_setCells _ hb6'.size _ _ _ (hb6'.alloc hb6'.size _)
  obtain ⟨W7, hW7⟩ : ∃ W7, W7 = (w6.alloc (.cells Zd.toArray 27)).setCells w6.heap.size 0 E := ⟨_, rfl⟩
  rw [← hW7] at hk7 hb7
  have T6 := Lib.hid t6
  have K7 := Lib.hid (And.intro hk7 (And.intro hb7 hW7))
  clear hk6 t6 hk7 hb6' hb7 hb6 hW7 CO B5
  go_wp2_with (refine wpList_store_mid rfl 27 (.tmp 8) (.tmp 22) rfl w6.heap.size 0 E.toArray rfl rfl T6.out YE.out OE.out ?_)
  rw [← K7.out.2.2]
  go_loopw [9, 10] (fun n i wr => ∃ k : Nat, k ≤ 6 ∧ i = .int .i64 k ∧ n = .int .i64 (num (D.take k) : Int) ∧ W7 = wr) (fun _ i _ => 6 - (intOf i).toNat)
  case atStart => exact ⟨0, Nat.zero_le _, rfl, rfl, rfl⟩
  case round =>
    obtain ⟨k, hk, rfl, rfl, hw⟩ := hrel
    have hw := hw.symm
    subst hw
    by_cases hlt : k < 6
    · have hDl := HD.out.2
      have hst := num_step D k (by omega)
      have hlt2 := num_take_lt D k hlt
      have hck := K7.out.1.cell k (bv (D.getD k 0)) (by rw [LE.out.2.2, List.getElem?_map, getD_at D k 0 (by omega)]; rfl)
      obtain ⟨b, hb⟩ : ∃ b, b = (D.getD k 0).toNat := ⟨_, rfl⟩
      have hb8 : b < 256 := by rw [hb]; exact UInt8.toNat_lt _
      unfold bv at hck
      obtain ⟨N, hN⟩ : ∃ N, N = num (D.take k) := ⟨_, rfl⟩
      rw [← hb, ← hN] at hst
      rw [← hb] at hck
      rw [← hN] at hlt2 ⊢
      have hi1 : (k : Int) < 6 := by omega
      have hi2 : (k : Int) < 16 := by omega
      have HS := Lib.hid hst
      have hN1 : (N : Int) < 1099511627776 := by omega
      have hwr : IntKind.i64.wrap ((N : Int) * 256) = (N : Int) * 256 := by rw [IntKind.wrap_i64]; omega
      clear hst hb hN hDl hlt2
      go_wp2_with fail
      refine ⟨⟨k + 1, by omega, by go_num, by rw [HS.out]; congr 1, trivial⟩, by simp [intOf]; omega⟩
    · obtain rfl : k = 6 := by omega
      go_wp2_with fail
      go_ret
      exact ⟨rfl, K7.out.2.1⟩
end Go.Proofs.YtcejokbbiinbkaaDoor
end

