import Derived.Test.YtjdidnonfmdfmaaDoorJHashG

section
/- The contract of Stream.Sum. -/

namespace Go.Proofs.YtjdidnonfmdfmaaDoor
open Go.RowKit
set_option linter.unusedVariables false

/-- What is left to do: the length goes into the last eight bytes of a block, which is compressed. -/
def Ends (m : List UInt8) (s : H.St) (c : List UInt8) : Prop := c.length = 56 ∧ (H.compress s (c ++ H.be64 (8 * m.length))).bytes = H.sha m
theorem ends_short (m : List UInt8) (h : m.length % 64 < 56) : Ends m (H.state m) (H.rest m ++ ([128] ++ H.zeros (55 - m.length % 64))) := by
  refine ⟨by simp [H.rest_len, H.zeros_len]; omega, ?_⟩
  rw [H.sha_short m h]
  simp only [List.append_assoc]
theorem ends_long (m : List UInt8) (h : 56 ≤ m.length % 64) : Ends m (H.compress (H.state m) (H.rest m ++ ([128] ++ H.zeros (63 - m.length % 64)))) (H.zeros 56) := by
  refine ⟨H.zeros_len 56, ?_⟩
  rw [H.sha_long m h]
theorem Str_set_byte (s : H.St) (b : List UInt8) (n r : Nat) (c : UInt8) (hr : r < 64) (hb : b.length = 64) : (Str s b n).set (8 + r) (bv c) = Str s (b.set r c) n := by
  have hw : (s.words.map wv).length = 8 := rfl
  unfold Str
  rw [List.set_append_right _ _ (by rw [hw]; omega), hw, show 8 + r - 8 = r by omega, List.set_append_left _ _ (by simp [hb]; omega), List.map_set]
theorem block_end (m : List UInt8) : (H.block m).set (m.length % 64) 128 = H.rest m ++ ([128] ++ H.zeros (63 - m.length % 64)) := by
  have hr := H.rest_len m
  unfold H.block
  rw [List.set_append_right _ _ (by omega), hr, Nat.sub_self, show 64 - m.length % 64 = (63 - m.length % 64) + 1 by omega]
  rfl
/-- The block while its length is written. -/
def lenBlk (c : List UInt8) (n k : Nat) : List UInt8 := c ++ ((H.be64 n).take k ++ H.zeros (8 - k))
theorem lenBlk_zero (c : List UInt8) (n : Nat) : lenBlk c n 0 = c ++ H.zeros 8 := by simp [lenBlk]
theorem lenBlk_full (c : List UInt8) (n : Nat) : lenBlk c n 8 = c ++ H.be64 n := by
  simp [lenBlk, List.take_of_length_le, H.be64_len, H.zeros]
theorem lenBlk_len (c : List UInt8) (n k : Nat) (hc : c.length = 56) (hk : k ≤ 8) : (lenBlk c n k).length = 64 := by
  simp [lenBlk, H.be64_len, H.zeros_len, hc]; omega
theorem be64_at (n k : Nat) (hk : k < 8) : (H.be64 n)[k]? = some (UInt8.ofNat (n / 2 ^ (56 - 8 * k))) := by
  unfold H.be64
  rw [List.getElem?_map, List.getElem?_range hk]
  rfl
theorem lenBlk_set (c : List UInt8) (n k : Nat) (hc : c.length = 56) (hk : k < 8) : (lenBlk c n k).set (56 + k) (UInt8.ofNat (n / 2 ^ (56 - 8 * k))) = lenBlk c n (k + 1) := by
  unfold lenBlk
  have hl : ((H.be64 n).take k).length = k := by rw [List.length_take, H.be64_len]; omega
  rw [List.set_append_right _ _ (by omega), hc, show 56 + k - 56 = k by omega, List.set_append_right _ _ (by omega), hl, Nat.sub_self, show 8 - k = (8 - (k + 1)) + 1 by omega, List.take_add_one, be64_at n k hk]
  show _ = c ++ (_ ++ [UInt8.ofNat (n / 2 ^ (56 - 8 * k))] ++ _)
  simp [H.zeros, List.replicate_succ]
theorem bytes_at (s : H.St) (k : Nat) (hk : k < 32) : s.bytes[k]? = some (H.wbyte (H.wat s.words (k / 4)) (k % 4)) := by
  unfold H.St.bytes
  rw [List.getElem?_map, List.getElem?_range hk]
  rfl
theorem bytes_take (s : H.St) (k : Nat) (hk : k < 32) : s.bytes.take (k + 1) = s.bytes.take k ++ [H.wbyte (H.wat s.words (k / 4)) (k % 4)] := by
  rw [List.take_add_one, bytes_at s k hk]
  rfl
theorem sum_zero : (Tryd.prog.info? 90).map (fun i => (i.zero, i.size)) = some (some (.agg ((H.zeros 32).map bv).toArray), 32) := by kernel_rfl
theorem size_sum {xs : List Value} (h : xs.length = 32) : (Tryd.prog.info? 90).map (·.size) = some xs.toArray.size := by rw [List.size_toArray, h]; kernel_rfl

def Sums (w : World) (Z : List Value) (s : H.St) (c : List UInt8) (n : Nat) (wr : World) : Prop :=
  Blk wr w.heap.size (Str s c n) 86 ∧ Blk wr (w.heap.size + 1) Z 90 ∧ Below w.heap.size w wr
theorem Sums.below {w wr w' : World} {Z : List Value} {s : H.St} {c : List UInt8} {n : Nat} (h : Sums w Z s c n wr) (hb : Below wr.heap.size wr w') : Sums w Z s c n w' :=
  ⟨h.1.below hb h.1.lt, h.2.1.below hb h.2.1.lt, h.2.2.trans (hb.mono h.2.2.size)⟩
theorem Sums.byte {w wr : World} {Z : List Value} {s : H.St} {c : List UInt8} {n : Nat} (h : Sums w Z s c n wr) (hc : c.length = 64) (r : Nat) (hr : r < 64) (x : UInt8) : Sums w Z s (c.set r x) n (wr.setCell ⟨w.heap.size, 8 + r, none⟩ (bv x)) := by
  refine ⟨?_, h.2.1.other _ _ (by show _ ≠ w.heap.size; omega), h.2.2.setCell (Nat.le_refl _) _⟩
  have := h.1.set (8 + r) (bv x)
  rwa [Str_set_byte s c n r x hr hc] at this
theorem Sums.at {w wr : World} {Z : List Value} {s : H.St} {c : List UInt8} {n : Nat} (h : Sums w Z s c n wr) (hc : c.length = 64) (r : Nat) (hr : r < 64) : wr.cell? ⟨w.heap.size, 8 + r, none⟩ = some (bv (c.getD r 0)) := by
  refine h.1.cell (8 + r) _ ?_
  rw [Str_block s c n r (by simp [hc]; omega), List.getElem?_map, getD_at c r 0 (by omega)]
  rfl
theorem Sums.store {w wr : World} {Z : List Value} {s s' : H.St} {c c' : List UInt8} {n : Nat} (h : Sums w Z s c n wr) (hc : c.length = 64) (hc' : c'.length = 64) : Sums w Z s' c' n (wr.setCells w.heap.size 0 (Str s' c' n)) :=
  ⟨h.1.whole _ (by rw [Str_len _ _ _ hc, Str_len _ _ _ hc']), Blk.outside _ _ _ _ h.2.1 (by omega), below_setCells _ (Nat.le_refl _) _ _ _ h.2.2⟩

theorem bv_ofNat (n : Nat) : bv (UInt8.ofNat n) = .int .u8 ((n : Int) % 256) := by
  unfold bv
  rw [show (UInt8.ofNat n).toNat = n % 256 from by simp]
  congr 1
theorem div_cast (n k : Nat) : (n : Int) / 2 ^ k = ((n / 2 ^ k : Nat) : Int) := by
  rw [Int.natCast_ediv, Int.natCast_pow]
  rfl
theorem wat_words (s : H.St) (j : Nat) (hj : j < 8) : (s.words.map wv)[j]? = some (.int .u32 (nv (H.wat s.words j))) := by
  rw [List.getElem?_map, getD_at s.words j 0 hj]
  rfl
/-- Behind the message's end. -/
def Mid (w : World) (Z : List Value) (m : List UInt8) (wx : World) : Prop := ∃ s c, Ends m s c ∧ Sums w Z s (c ++ H.zeros 8) m.length wx

set_option maxRecDepth 100000 in
set_option maxHeartbeats 2000000 in
theorem sum_any (m : List UInt8) (w : World) (hm : m.length ≤ 1000000000) (ht : HTab w) :
    Calls Tryd.prog 59 #[.agg (Strm m).toArray] w fun e w' => e = .returned (.agg ((H.sha m).map bv).toArray) ∧ Below w.heap.size w w' := by
  obtain ⟨hz, -⟩ := zero_of_info sum_zero
  obtain ⟨Z, hZ⟩ : ∃ Z, Z = (H.zeros 32).map bv := ⟨_, rfl⟩
  rw [← hZ] at hz
  have lZ : Z.length = 32 := by rw [hZ, List.length_map, H.zeros_len]
  obtain ⟨X, hX⟩ : ∃ X, X = Strm m := ⟨_, rfl⟩
  have hXl : X.length = 73 := by rw [hX]; exact Strm_len m
  rw [← hX]
  obtain ⟨r, hr⟩ : ∃ r, r = m.length % 64 := ⟨_, rfl⟩
  have h0 : Sums w Z (H.state m) (H.block m) m.length ((w.alloc (.cells X.toArray 86)).alloc (.cells Z.toArray 90)) := by
    have := Blk.new (w.alloc (.cells X.toArray 86)) Z 90
    simp only [World.size_alloc] at this
    refine ⟨?_, this, ((Below.refl _ _).alloc (Nat.le_refl _) _).alloc (by simp only [World.size_alloc]; omega) _⟩
    rw [← show X = Str (H.state m) (H.block m) m.length from hX]
    exact (Blk.new w X _).alloc _
  have hblk : Blk ((w.alloc (.cells X.toArray 86)).alloc (.cells Z.toArray 90)) w.heap.size X 86 := (Blk.new w X _).alloc _
  have hsz := size_stream hXl
  have hcall : ∀ W : World, Calls Tryd.prog 63 #[.agg X.toArray] W fun e w' => e = .returned (.int .i64 (r : Int)) ∧ Below W.heap.size W w' := fun W => by
    rw [hX, hr]
    exact waiting_any (H.state m) (H.block m) m.length W (H.block_len m) (by omega)
  have r1 : r < 64 := by omega
  have r1' : (r : Int) < 64 := by omega
  have H0 := Lib.hid h0
  have LZ := Lib.hid lZ
  have HT := Lib.hid ht
  have HX := Lib.hid hX
  have HXl := Lib.hid hXl
  have HZ := Lib.hid hZ
  have Hr := Lib.hid hr
  have HC := Lib.hid hcall
  clear hZ lZ hX hXl h0 ht hr hcall
  go_enter Tryd.func59, Tryd.ntmps59
  go_wp2_with (refine wpList_load_row rfl 86 (.tmp 1) rfl w.heap.size rfl _ X.toArray (0, 0) _ hblk Tryd.underlying86 rfl hsz ?_)
  refine (HC.out _).mono ?_
  rintro e w1 ⟨rfl, hb1⟩
  have hS1 := H0.out.below hb1
  have g1 := hS1.at (H.block_len m) r r1
  have f1 : w1.frozen? ⟨w.heap.size, 8 + r, none⟩ = false := hS1.1.frozen _
  have hS2 := hS1.byte (H.block_len m) r r1 128
  rw [Hr.out, block_end, ← Hr.out] at hS2
  obtain ⟨c1, hc1⟩ : ∃ c1, c1 = H.rest m ++ ([128] ++ H.zeros (63 - r)) := ⟨_, rfl⟩
  rw [← hc1] at hS2
  have hc1l : c1.length = 64 := by rw [hc1]; simp [H.rest_len, H.zeros_len, ← Hr.out]; omega
  have HS2 := Lib.hid hS2
  have HC1 := Lib.hid hc1
  have HC1l := Lib.hid hc1l
  clear hS1 hS2 hb1 hblk hsz hz HC H0 hc1 hc1l
  go_upto_if 14 with (fail)
  go_cut [3] (fun s3 wx => s3 = .int .i64 (r : Int) ∧ Mid w Z m wx)
  case first =>
    have hv : bv 128 = Value.int .u8 128 := rfl
    rw [hv] at HS2
    clear hv
    obtain ⟨w2, hw2⟩ : ∃ w2, w2 = w1.setCell ⟨w.heap.size, 8 + r, none⟩ (.int .u8 128) := ⟨_, rfl⟩
    rw [← hw2] at HS2 ⊢
    clear hw2 g1 f1
    by_cases h56 : 56 ≤ r
    · have h56' : (56 : Int) ≤ r := by omega
      have hd : decide ((56 : Int) ≤ r) = true := by simp; omega
      have hS := HS2.out
      obtain ⟨Y, hY⟩ : ∃ Y, Y = Str (H.state m) c1 m.length := ⟨_, rfl⟩
      have hYl : Y.length = 73 := by rw [hY]; exact Str_len _ _ _ HC1l.out
      obtain ⟨G, hG⟩ : ∃ G, G = Str (H.compress (H.state m) c1) (H.zeros 64) m.length := ⟨_, rfl⟩
      have hGl : G.length = 73 := by rw [hG]; exact Str_len _ _ _ (H.zeros_len 64)
      have hblk := hS.1
      rw [← hY] at hblk
      have hcall : ∀ W : World, HTab W → Calls Tryd.prog 64 #[.agg Y.toArray] W fun e w' => e = .returned (.agg G.toArray) ∧ Below W.heap.size W w' := fun W h => by
        rw [hY, hG]
        exact compressed_any _ _ _ W HC1l.out h
      have hcw := hcall w2 (HT.out.below hS.2.2 (Nat.le_refl _))
      have y1 := size_stream hYl
      have y2 := size_stream hGl
      have o : G.toArray.all (·.oneCell') = true := all_oneCell_toArray (by rw [hG]; exact Str_one _ _ _)
      have HY := Lib.hid hY
      have HYl := Lib.hid hYl
      have HG := Lib.hid hG
      have HGl := Lib.hid hGl
      have HC := Lib.hid hcw
      have Y1 := Lib.hid y1
      have Y2 := Lib.hid y2
      have Hblk := Lib.hid hblk
      have H56 := Lib.hid h56
      clear hS hY hYl hG hGl hblk hcall hcw y1 y2 h56
      go_wp2_with (refine wpList_load_row rfl 86 (.tmp 1) rfl w.heap.size rfl _ Y.toArray (0, 0) _ Hblk.out Tryd.underlying86 rfl Y1.out ?_)
      refine HC.out.mono ?_
      rintro e w3 ⟨rfl, hb3⟩
      have hS3 := HS2.out.below hb3
      have t3 : w3.there w.heap.size 0 G.toArray.size := hS3.1.there 0 _ (by rw [List.size_toArray, HGl.out, Str_len _ _ _ HC1l.out]; omega)
      have hS4 := hS3.store (s' := H.compress (H.state m) c1) HC1l.out (H.zeros_len 64)
      rw [← HG.out] at hS4
      have T3 := Lib.hid t3
      have HS4 := Lib.hid hS4
      clear hb3 hS3 t3 hS4 HC Hblk HS2
      go_wp2_with (refine wpList_store_mid rfl 86 (.tmp 1) (.tmp 16) rfl w.heap.size 0 G.toArray rfl rfl T3.out Y2.out o ?_)
      go_frame
      go_meet
      case rel =>
        refine ⟨rfl, H.compress (H.state m) c1, H.zeros 56, ?_, ?_⟩
        · rw [HC1.out, Hr.out]
          exact ends_long m (by rw [← Hr.out]; exact H56.out)
        · exact HS4.out
    · have h56' : (r : Int) < 56 := by omega
      have hd : decide ((56 : Int) ≤ r) = false := by simp; omega
      have H56 := Lib.hid h56
      clear h56
      go_wp2_with fail
      go_meet
      case rel =>
        have h56 := H56.out
        refine ⟨rfl, H.state m, H.rest m ++ ([128] ++ H.zeros (55 - r)), ?_, ?_⟩
        · rw [Hr.out]
          exact ends_short m (by rw [← Hr.out]; omega)
        · have e : H.rest m ++ ([128] ++ H.zeros (55 - r)) ++ H.zeros 8 = c1 := by
            rw [HC1.out, show 63 - r = (55 - r) + 8 by omega]
            simp only [H.zeros, List.append_assoc, List.replicate_append_replicate]
          rw [e]
          exact HS2.out
  case rest =>
    obtain ⟨rfl, s, c, hE, hS⟩ := hcut
    obtain ⟨L, hL⟩ : ∃ L, L = m.length := ⟨_, rfl⟩
    rw [← hL] at hS hm
    have hc56 := hE.1
    have g72 : wc.cell? ⟨w.heap.size, 72, none⟩ = some (.int .u64 (L : Int)) := hS.1.cell 72 _ (Str_num _ _ _ (by rw [List.length_append, hc56, H.zeros_len]))
    have HE := Lib.hid hE
    have HS := Lib.hid hS
    have HL := Lib.hid hL
    have H56 := Lib.hid hc56
    clear hE hS hL hc56 HS2 g1 f1 HC1 HC1l
    go_wp2_with fail
    go_loopw [20] (fun i wr => ∃ k : Nat, k ≤ 8 ∧ i = .int .i64 k ∧ Sums w Z s (lenBlk c (8 * L) k) L wr) (fun i _ => 8 - (intOf i).toNat)
    case atStart => exact ⟨0, by omega, rfl, by rw [lenBlk_zero]; exact HS.out⟩
    case round =>
      obtain ⟨k, hk, rfl, hS⟩ := hrel
      by_cases hlt : k < 8
      · have hl := lenBlk_len c (8 * L) k H56.out (by omega)
        have g1 := hS.at hl (56 + k) (by omega)
        have f1 : wr.frozen? ⟨w.heap.size, 8 + (56 + k), none⟩ = false := hS.1.frozen _
        have hS2 := hS.byte hl (56 + k) (by omega) (UInt8.ofNat (8 * L / 2 ^ (56 - 8 * k)))
        rw [lenBlk_set c (8 * L) k H56.out hlt] at hS2
        have HS2 := Lib.hid hS2
        have hlt' : (k : Int) < 8 := by omega
        clear hl hS hS2
        go_wp2_with fail
        refine ⟨⟨k + 1, by omega, by go_num, ?_⟩, by simp [intOf]; omega⟩
        have h := HS2.out
        rw [bv_ofNat] at h
        have e : (L : Int) * 8 / 2 ^ (56 - 8 * k) = ((8 * L / 2 ^ (56 - 8 * k) : Nat) : Int) := by rw [← div_cast]; congr 1; omega
        rw [e]
        exact h
      · have hk8 : k = 8 := by omega
        rw [hk8, lenBlk_full] at hS
        obtain ⟨b, hb⟩ : ∃ b, b = c ++ H.be64 (8 * L) := ⟨_, rfl⟩
        rw [← hb] at hS
        have hbl : b.length = 64 := by rw [hb, List.length_append, H56.out, H.be64_len]
        obtain ⟨F, hF⟩ : ∃ F, F = H.compress s b := ⟨_, rfl⟩
        have hfin : F.bytes = H.sha m := by rw [hF, hb, HL.out]; exact HE.out.2
        obtain ⟨Y, hY⟩ : ∃ Y, Y = Str s b L := ⟨_, rfl⟩
        have hYl : Y.length = 73 := by rw [hY]; exact Str_len _ _ _ hbl
        obtain ⟨G, hG⟩ : ∃ G, G = Str F (H.zeros 64) L := ⟨_, rfl⟩
        have hGl : G.length = 73 := by rw [hG]; exact Str_len _ _ _ (H.zeros_len 64)
        have hblk := hS.1
        rw [← hY] at hblk
        have hcall : ∀ W : World, HTab W → Calls Tryd.prog 64 #[.agg Y.toArray] W fun e w' => e = .returned (.agg G.toArray) ∧ Below W.heap.size W w' := fun W h => by
          rw [hY, hG, hF]
          exact compressed_any _ _ _ W hbl h
        have hcw := hcall wr (HT.out.below hS.2.2 (Nat.le_refl _))
        have y1 := size_stream hYl
        have y2 := size_stream hGl
        have o : G.toArray.all (·.oneCell') = true := all_oneCell_toArray (by rw [hG]; exact Str_one _ _ _)
        have hge : (8 : Int) ≤ k := by omega
        have hd : decide ((k : Int) < 8) = false := by simp; omega
        have HS2 := Lib.hid hS
        have HB := Lib.hid hbl
        have HG := Lib.hid hG
        have HGl := Lib.hid hGl
        have HC := Lib.hid hcw
        have Y1 := Lib.hid y1
        have Y2 := Lib.hid y2
        have Hblk := Lib.hid hblk
        have HF := Lib.hid hfin
        clear hk8 hS hb hbl hF hfin hY hYl hG hGl hblk hcall hcw y1 y2 g72 HE HS H56
        go_wp2_with (refine wpList_load_row rfl 86 (.tmp 1) rfl w.heap.size rfl _ Y.toArray (0, 0) _ Hblk.out Tryd.underlying86 rfl Y1.out ?_)
        refine HC.out.mono ?_
        rintro e w3 ⟨rfl, hb3⟩
        have hS3 := HS2.out.below hb3
        have t3 : w3.there w.heap.size 0 G.toArray.size := hS3.1.there 0 _ (by rw [List.size_toArray, HGl.out, Str_len _ _ _ HB.out]; omega)
        have hS4 := hS3.store (s' := F) HB.out (H.zeros_len 64)
        rw [← HG.out] at hS4
        have T3 := Lib.hid t3
        have HS4 := Lib.hid hS4
        obtain ⟨hz, -⟩ := zero_of_info sum_zero
        obtain ⟨Z', hZ'⟩ : ∃ Z', Z' = (H.zeros 32).map bv := ⟨_, rfl⟩
        rw [← hZ'] at hz
        have HZ' := Lib.hid hZ'
        clear hb3 hS3 t3 hS4 HC Hblk HS2 hZ'
        go_wp2_with (refine wpList_store_mid rfl 86 (.tmp 1) (.tmp 35) rfl w.heap.size 0 G.toArray rfl rfl T3.out Y2.out o ?_)
        obtain ⟨w4, hw4⟩ : ∃ w4, w4 = w3.setCells w.heap.size 0 G := ⟨_, rfl⟩
        rw [← hw4]
        have hS4 := HS4.out
        rw [← hw4] at hS4
        obtain ⟨V, hV⟩ : ∃ V, V = w4.heap.size := ⟨_, rfl⟩
        have hV1 : w.heap.size + 1 < V := by rw [hV]; exact hS4.2.1.lt
        have c5 : Blk (w4.alloc (.cells Z'.toArray 90)) V ((F.bytes.take 0).map bv ++ List.replicate (32 - 0) (bv 0)) 90 := by
          have := Blk.new w4 Z' 90
          rw [← hV, HZ'.out] at this
          rw [HZ'.out]
          exact this
        have hS5 : Sums w Z F (H.zeros 64) L (w4.alloc (.cells Z'.toArray 90)) := ⟨hS4.1.alloc _, hS4.2.1.alloc _, hS4.2.2.alloc (by omega) _⟩
        rw [← hV]
        obtain ⟨w5, hw5⟩ : ∃ w5, w5 = w4.alloc (.cells Z'.toArray 90) := ⟨_, rfl⟩
        rw [← hw5] at c5 hS5 ⊢
        have C5 := Lib.hid c5
        have HS5 := Lib.hid hS5
        clear hw4 hS4 hV c5 hS5 hw5 HS4 hz HZ' T3 HG HGl Y1 Y2 HB
        go_loopw [36] (fun i wr => ∃ k : Nat, k ≤ 32 ∧ i = .int .i64 k ∧ Sums w Z F (H.zeros 64) L wr ∧ Blk wr V ((F.bytes.take k).map bv ++ List.replicate (32 - k) (bv 0)) 90) (fun i _ => 32 - (intOf i).toNat)
        case atStart => exact ⟨0, by omega, rfl, HS5.out, C5.out⟩
        case round =>
          clear HS5 C5
          obtain ⟨q, hq, rfl, hS, hW⟩ := hrel
          by_cases hlt : q < 32
          · obtain ⟨x, hx⟩ : ∃ x, x = H.wat F.words (q / 4) := ⟨_, rfl⟩
            have gx : wr.cell? ⟨w.heap.size, q / 4, none⟩ = some (.int .u32 (nv x)) := hS.1.cell (q / 4) _ (by
              have h8 : q / 4 < 8 := by omega
              have := Str_words F (H.zeros 64) L (q / 4) h8
              rw [Nat.zero_add] at this
              rw [this, wat_words F _ h8, hx])
            have hll : ((F.bytes.take q).map bv).length = q := by rw [List.length_map, List.length_take, H.bytes_len]; omega
            have g1 : wr.cell? ⟨V, q, none⟩ = some (bv 0) := hW.cell q _ (fill_at _ q 32 _ hll hlt)
            have f1 : wr.frozen? ⟨V, q, none⟩ = false := hW.frozen _
            have hv : bv (H.wbyte x (q % 4)) = .int .u8 (nv x / 2 ^ (24 - 8 * (q % 4)) % 256) := by
              unfold H.wbyte nv
              rw [bv_ofNat, div_cast]
            have hW2 := hW.set q (bv (H.wbyte x (q % 4)))
            rw [fill_set _ q 32 _ _ hll hlt, hx, show (List.map bv (F.bytes.take q) ++ [bv (H.wbyte (H.wat F.words (q / 4)) (q % 4))]) = (F.bytes.take (q + 1)).map bv from by rw [bytes_take F q hlt, List.map_append]; rfl, ← hx, hv] at hW2
            have hS2 : Sums w Z F (H.zeros 64) L (wr.setCell ⟨V, q, none⟩ (.int .u8 (nv x / 2 ^ (24 - 8 * (q % 4)) % 256))) :=
              ⟨hS.1.other _ _ (by show _ ≠ V; omega), hS.2.1.other _ _ (by show _ ≠ V; omega), hS.2.2.setCell (by show _ ≤ V; omega) _⟩
            have K2 := Lib.hid (And.intro hS2 hW2)
            have hlt' : (q : Int) < 32 := by omega
            have hq4 : (q : Int) / 4 < 8 := by omega
            have x0 := nv_lo x
            have x1 := nv_hi x
            clear hx hll hv hW2 hS2 hS hW
            go_wp2_with fail
            refine ⟨⟨q + 1, by omega, by go_num, K2.out.1, K2.out.2⟩, by simp [intOf]; omega⟩
          · have hq32 : q = 32 := by omega
            rw [hq32, List.take_of_length_le (by rw [H.bytes_len]; omega), HF.out, show List.replicate (32 - 32) (bv 0) = [] from rfl, List.append_nil] at hW
            obtain ⟨R, hR⟩ : ∃ R, R = (H.sha m).map bv := ⟨_, rfl⟩
            rw [← hR] at hW
            have hRl : R.length = 32 := by rw [hR, List.length_map, H.sha_len]
            have y := size_sum hRl
            have o2 : R.toArray.all (·.oneCell') = true := all_oneCell_toArray (by rw [hR]; exact bytes_one _)
            have t1 : wr.there (w.heap.size + 1) 0 R.toArray.size := hS.2.1.there 0 _ (by rw [List.size_toArray, hRl, LZ.out]; omega)
            have d1 := hS.2.1.whole R (by rw [hRl, LZ.out])
            have hb3 : Below w.heap.size w (wr.setCells (w.heap.size + 1) 0 R) := below_setCells _ (by omega) _ _ _ hS.2.2
            have hge2 : (32 : Int) ≤ q := by omega
            have HR := Lib.hid hR
            have HhW := Lib.hid hW
            have T1 := Lib.hid t1
            have Y := Lib.hid y
            have D1 := Lib.hid d1
            have B3 := Lib.hid hb3
            clear hq32 hR hRl hW hS t1 y d1 hb3
            go_wp2_with (first | (refine wpList_load_row rfl 90 (.tmp 6) rfl V rfl _ R.toArray (0, 0) _ HhW.out Tryd.underlying90 rfl Y.out ?_) | (refine wpList_store_mid rfl 90 (.tmp 2) (.tmp 53) rfl (w.heap.size + 1) 0 R.toArray rfl rfl T1.out Y.out o2 ?_))
            refine bodyPost_ret (results_cell_row rfl _ _ (w.heap.size + 1) 90 _ (0, 0) _ rfl D1.out Tryd.underlying90 rfl Y.out) rfl ⟨?_, B3.out⟩
            rw [HR.out]
end Go.Proofs.YtjdidnonfmdfmaaDoor
end

