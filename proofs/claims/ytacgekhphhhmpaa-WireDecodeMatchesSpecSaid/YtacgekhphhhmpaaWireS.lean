/- The examples of the statements, 'sanity': it returns true; nothing that was there has changed. -/
import Derived.Test.YtacgekhphhhmpaaWireL
namespace Go.Proofs.Ytacgekhphhhmpaa
open Go.RowKit
set_option linter.unusedVariables false

theorem rd_new (w : World) (xs : List Value) (t : TypeId) : Rd (w.alloc (.cells xs.toArray t)) (w.alloc (.cells xs.toArray t)).heap.size (some ⟨w.heap.size, 0, none⟩) xs := fun _ =>
  ⟨w.heap.size, 0, rfl, by simp, fun j u hu => by
    rw [cell_of_row _ _ _ _ _ _ (heap_alloc_new w _)]
    simpa using hu⟩
theorem behind0 {w w' : World} {B : Nat} (h : Below B w w') (hB : w.heap.size ≤ B) : Below w.heap.size w w' := h.mono hB
theorem behind1 {w w' : World} {B : Nat} {o : Obj} (h : Below B (w.alloc o) w') (hB : w.heap.size ≤ B) : Below w.heap.size w w' := ((Below.refl _ _).alloc (Nat.le_refl _) o).trans (h.mono hB)
theorem own_rd {w : World} {B base n size : Nat} {e : TypeId} {v : Value} {xs : List Value} (h : w.ownsRow base e size v n xs) :
    ∃ A c, v = .slice A n c ∧ Rd w w.heap.size A xs ∧ n ≤ c ∧ c ≤ maxLen := by
  have h' := h
  rcases h'.2 with ⟨rfl, rfl⟩ | ⟨g, cap, cur, rfl, hb, hg, hnc, hm, hs, ht⟩
  · exact ⟨none, 0, rfl, Rd.of_own h, Nat.le_refl _, by decide⟩
  · exact ⟨_, cap, rfl, Rd.of_own h, hnc, hm⟩

/-- GetInt and GetBytes, at a new slice of these bytes. -/
theorem sGetInt (l : List UInt8) (r : Int × Nat × Nat) (W : World) (hr : M.getI l = r) (hl : l.length ≤ 100) :
    Calls Try.prog 24 #[.slice (some ⟨W.heap.size, 0, none⟩) l.length l.length] (W.alloc (.cells (l.map bv).toArray 5)) fun e w' => e = .returned (I3 r.1 r.2.1 r.2.2) ∧ Below W.heap.size W w' :=
  (getInt_any _ _ l _ _ (rd_new W (l.map bv) 5) (Nat.le_refl _) (by unfold maxLen; omega)).mono fun e w' ⟨h1, h2⟩ => ⟨by rw [h1, hr], by rw [← h2]; exact (Below.refl _ _).alloc (Nat.le_refl _) _⟩
theorem sGetBytes (l : List UInt8) (r : List UInt8 × Nat × Nat) (W : World) (hr : M.getB l = r) (hl : l.length ≤ 100) :
    Calls Try.prog 26 #[.slice (some ⟨W.heap.size, 0, none⟩) l.length l.length] (W.alloc (.cells (l.map bv).toArray 5)) fun e w' => e = .returned (S3 (bs r.1) r.2.1 r.2.2) ∧ Below W.heap.size W w' :=
  (getBytes_any _ _ l _ _ (rd_new W (l.map bv) 5) (Nat.le_refl _) (by unfold maxLen; omega)).mono fun e w' ⟨h1, h2⟩ => ⟨by rw [h1, hr], by rw [← h2]; exact (Below.refl _ _).alloc (Nat.le_refl _) _⟩

/-- A decoded list in memory: its value, its cells. -/
def HasList (e : TypeId) (size : Nat) (xs : List Value) (n u : Nat) (W : World) (en : Ending) (w' : World) : Prop :=
  ∃ v, en = .returned (.tuple #[v, .int .i64 u, .int .i64 0]) ∧ w'.ownsRow 0 e size v n xs ∧ Below W.heap.size W w'
theorem own_any {w : World} {base n size : Nat} {e : TypeId} {v : Value} {xs : List Value} (h : w.ownsRow base e size v n xs) : w.ownsRow 0 e size v n xs := by
  refine ⟨h.1, ?_⟩
  rcases h.2 with h | ⟨g, cap, cur, hv, hb, r⟩
  · exact .inl h
  · exact .inr ⟨g, cap, cur, hv, Nat.zero_le _, r⟩
theorem got_has {α : Type} {e : TypeId} {size : Nat} {cells : List α → List Value} {r : List α × Nat × Nat} {W : World} {o : Obj} {en : Ending} {w' : World} (L : List α) (u : Nat) (h : GotList e size cells r (W.alloc o) en w') (hr : r = (L, u, 0)) :
    HasList e size (cells L) L.length u W en w' := by
  obtain ⟨v, h1, h2, h3⟩ := h
  subst hr
  exact ⟨v, h1, own_any h2, behind1 h3 (by simp)⟩

/-- Bytes in memory. -/
def Gives (l : List UInt8) (W : World) (e : Ending) (w' : World) : Prop :=
  ∃ A c, e = .returned (.slice A l.length c) ∧ RdB w' w'.heap.size A l ∧ l.length ≤ c ∧ c ≤ maxLen ∧ Below W.heap.size W w'
theorem makes_gives {l : List UInt8} {W : World} {e : Ending} {w' : World} (h : Makes l W e w') : Gives l W e w' := by
  obtain ⟨v, h1, h2, h3⟩ := h
  obtain ⟨A, c, rfl, h4, h5, h6⟩ := own_rd (B := 0) h2
  exact ⟨A, c, h1, h4, h5, h6, h3⟩
theorem gives_behind {l : List UInt8} {W : World} {o : Obj} {e : Ending} {w' : World} (h : Gives l (W.alloc o) e w') : Gives l W e w' := by
  obtain ⟨A, c, h1, h2, h3, h4, h5⟩ := h
  exact ⟨A, c, h1, h2, h3, h4, behind1 h5 (by simp)⟩
theorem sInt (n : Int) (l : List UInt8) (W : World) (h : M.I64 n) (he : M.encI n = l) : Calls Try.prog 14 #[.int .i64 n] W (Gives l W) :=
  (int_any n W h).mono fun e w' h => by rw [← he]; exact makes_gives h
theorem sBytes (s : ByteArray) (l : List UInt8) (W : World) (hs : s.size ≤ 100) (he : M.encB (sb s) = l) : Calls Try.prog 16 #[.string s] W (Gives l W) :=
  (bytes_any s W (by omega)).mono fun e w' h => by rw [← he]; exact makes_gives h
theorem sInts (L : List Int) (l : List UInt8) (W : World) (hL : L.length ≤ 100) (hI : ∀ n ∈ L, M.I64 n) (he : M.encL M.encI L = l) :
    Calls Try.prog 18 #[.slice (some ⟨W.heap.size, 0, none⟩) L.length L.length] (W.alloc (.cells (L.map iv).toArray 3)) (Gives l W) :=
  (ints_any _ _ L _ (rd_new W (L.map iv) 3) (Nat.le_refl _) (by unfold maxLen; omega) (by omega) hI).mono fun e w' h => by rw [← he]; exact gives_behind (makes_gives h)
theorem sStrings (L : List ByteArray) (l : List UInt8) (W : World) (hL : L.length ≤ 100) (hf : (L.flatMap encS).length ≤ 100) (he : M.encL encS L = l) :
    Calls Try.prog 20 #[.slice (some ⟨W.heap.size, 0, none⟩) L.length L.length] (W.alloc (.cells (L.map sv).toArray 9)) (Gives l W) :=
  (strings_any _ _ L _ (rd_new W (L.map sv) 9) (Nat.le_refl _) (by unfold maxLen; omega) (by omega) (by omega)).mono fun e w' h => by rw [← he]; exact gives_behind (makes_gives h)
theorem sDigests (n : Nat) (D : List UInt8) (l : List UInt8) (W : World) (hn : n ≤ 100) (hD : D.length = 16 * n) (he : encD n D = l) :
    Calls Try.prog 22 #[.slice (some ⟨W.heap.size, 0, none⟩) n n] (W.alloc (.cells (D.map bv).toArray 57)) (Gives l W) :=
  (digests_any _ _ n D _ (rd_new W (D.map bv) 57) (Nat.le_refl _) (by unfold maxLen; omega) hD (by omega)).mono fun e w' h => by rw [← he]; exact gives_behind (makes_gives h)
theorem sGetInts (l : List UInt8) (L : List Int) (u : Nat) (W : World) (hl : l.length ≤ 100) (hr : M.getLs M.getI 1 l = (L, u, 0)) :
    Calls Try.prog 28 #[.slice (some ⟨W.heap.size, 0, none⟩) l.length l.length] (W.alloc (.cells (l.map bv).toArray 5)) (HasList 3 1 (L.map iv) L.length u W) :=
  (getInts_any _ _ l _ (rd_new W (l.map bv) 5) (Nat.le_refl _) (by unfold maxLen; omega) (by omega)).mono fun e w' h => got_has L u h hr
theorem sGetStrings (l : List UInt8) (L : List ByteArray) (u : Nat) (W : World) (hl : l.length ≤ 100) (hr : M.getLs gS 1 l = (L, u, 0)) :
    Calls Try.prog 31 #[.slice (some ⟨W.heap.size, 0, none⟩) l.length l.length] (W.alloc (.cells (l.map bv).toArray 5)) (HasList 9 1 (L.map sv) L.length u W) :=
  (getStrings_any _ _ l _ (rd_new W (l.map bv) 5) (Nat.le_refl _) (by unfold maxLen; omega) (by omega)).mono fun e w' h => got_has L u h hr
theorem sGetDigests (A : Option Addr) (c : Nat) (l : List UInt8) (L : List (List UInt8)) (u : Nat) (W : World) (hrd : RdB W W.heap.size A l) (hc : l.length ≤ c) (hm : c ≤ maxLen) (hl : l.length ≤ 100) (hr : M.getLs gD 16 l = (L, u, 0)) :
    Calls Try.prog 34 #[.slice A l.length c] W (HasList 57 16 (dcells L) L.length u W) :=
  (getDigests_any A c l W hrd hc hm (by omega)).mono fun e w' h => by
    obtain ⟨v, h1, h2, h3⟩ := h
    rw [hr] at h1 h2
    exact ⟨v, h1, own_any h2, h3⟩
theorem sSame (A : Option Addr) (c : Nat) (l : List UInt8) (W : World) (hr : RdB W W.heap.size A l) (hl : l.length ≤ 100) :
    Calls Try.prog 13 #[.slice A l.length c, .slice (some ⟨W.heap.size, 0, none⟩) l.length l.length] (W.alloc (.cells (l.map bv).toArray 5)) (Tells true W) :=
  (same_any A _ c _ l l _ ((hr.alloc (Nat.le_refl _) _).more (by simp)) (rd_new W (l.map bv) 5) (by unfold maxLen; omega) (by unfold maxLen; omega)).mono fun e w' ⟨h1, h2⟩ => ⟨by rw [h1]; simp, behind1 h2 (by simp)⟩
theorem sSameInts (A : Option Addr) (c : Nat) (l : List Int) (W : World) (hr : Rd W W.heap.size A (l.map iv)) (hl : l.length ≤ 100) :
    Calls Try.prog 30 #[.slice A l.length c, .slice (some ⟨W.heap.size, 0, none⟩) l.length l.length] (W.alloc (.cells (l.map iv).toArray 3)) (Tells true W) :=
  (sameInts_any A _ c _ l l _ ((hr.alloc (Nat.le_refl _) _).more (by simp)) (rd_new W (l.map iv) 3) (by unfold maxLen; omega) (by unfold maxLen; omega)).mono fun e w' ⟨h1, h2⟩ => ⟨by rw [h1]; simp, behind1 h2 (by simp)⟩
theorem sSameTexts (A : Option Addr) (c : Nat) (l : List ByteArray) (W : World) (hr : Rd W W.heap.size A (l.map sv)) (hl : l.length ≤ 100) :
    Calls Try.prog 33 #[.slice A l.length c, .slice (some ⟨W.heap.size, 0, none⟩) l.length l.length] (W.alloc (.cells (l.map sv).toArray 9)) (Tells true W) :=
  (sameTexts_any A _ c _ l l _ ((hr.alloc (Nat.le_refl _) _).more (by simp)) (rd_new W (l.map sv) 9) (by unfold maxLen; omega) (by unfold maxLen; omega)).mono fun e w' ⟨h1, h2⟩ => ⟨by rw [h1]; simp, behind1 h2 (by simp)⟩
theorem sSameDigests (A : Option Addr) (c n : Nat) (l : List UInt8) (W : World) (hr : RdB W W.heap.size A l) (hl : l.length = 16 * n) (hn : n ≤ 100) :
    Calls Try.prog 36 #[.slice A n c, .slice (some ⟨W.heap.size, 0, none⟩) n n] (W.alloc (.cells (l.map bv).toArray 57)) (Tells true W) :=
  (sameDigests_any A _ c _ n n l l _ ((hr.alloc (Nat.le_refl _) _).more (by simp)) (rd_new W (l.map bv) 57) hl hl (by unfold maxLen; omega) (by unfold maxLen; omega)).mono fun e w' ⟨h1, h2⟩ => ⟨by rw [h1]; simp, behind1 h2 (by simp)⟩

/-- What sanity keeps while it goes on: the decoded numbers, the decoded digest, the digest of its own. -/
def Keep (w : World) (vl vd : Value) (Bd : Nat) (W : World) : Prop :=
  Below w.heap.size w W ∧ W.ownsRow 0 3 1 vl 2 (List.map iv [1, -1]) ∧ W.ownsRow 0 57 16 vd 1 (dcells [[1, 2, 0, 0, 0, 0, 0, 0, 0, 0, 0, 0, 0, 0, 0, 0]]) ∧ Bd < W.heap.size ∧ W.heap[Bd]? = some (.cells #[.int .u8 1, .int .u8 2, .int .u8 0, .int .u8 0, .int .u8 0, .int .u8 0, .int .u8 0, .int .u8 0, .int .u8 0, .int .u8 0, .int .u8 0, .int .u8 0, .int .u8 0, .int .u8 0, .int .u8 0, .int .u8 0] 57 (0, 0))
theorem Keep.step {w : World} {vl vd : Value} {Bd : Nat} {W W' : World} (h : Keep w vl vd Bd W) (hb : Below W.heap.size W W') : Keep w vl vd Bd W' :=
  ⟨h.1.trans (hb.mono h.1.size), own_below h.2.1 hb (Nat.le_refl _), own_below h.2.2.1 hb (Nat.le_refl _), Nat.lt_of_lt_of_le h.2.2.2.1 hb.size, (hb.block Bd h.2.2.2.1).trans h.2.2.2.2⟩

set_option maxHeartbeats 4000000 in
set_option maxRecDepth 100000 in
theorem sanity_any (w : World) : Calls Try.prog 12 #[] w (Tells true w) := by
  go_enter Try.func12, Try.ntmps12
  go_wp2_with fail
  refine (sGetInt [130, 1, 0, 9] (256, 3, 0) w (by decide +kernel) (by decide)).mono ?_
  rintro e w1 ⟨rfl, hb1⟩
  unfold I3
  go_wp2_with fail
  refine (sGetInt [130, 1] (0, 0, 3) w1 (by decide +kernel) (by decide)).mono ?_
  rintro e w2 ⟨rfl, hb'⟩
  have hb2 := hb1.trans (hb'.mono hb1.size)
  clear hb1 hb'
  unfold I3
  go_wp2_with fail
  refine (sGetInt [129, 0] (0, 0, 2) w2 (by decide +kernel) (by decide)).mono ?_
  rintro e w3 ⟨rfl, hb'⟩
  have hb3 := hb2.trans (hb'.mono hb2.size)
  clear hb2 hb'
  unfold I3
  go_wp2_with fail
  refine (sGetBytes [129, 2, 97, 98, 7] ([97, 98], 4, 0) w3 (by decide +kernel) (by decide)).mono ?_
  rintro e w4 ⟨rfl, hb'⟩
  have hb4 := hb3.trans (hb'.mono hb3.size)
  clear hb3 hb'
  unfold S3
  go_wp2_with fail
  refine (sGetInts [129, 2, 129, 1, 127] [1, -1] 5 w4 (by decide) (by decide +kernel)).mono ?_
  rintro e w5 ⟨vl, rfl, hownl, hb'⟩
  have hb5 := hb4.trans (hb'.mono hb4.size)
  clear hb4 hb'
  go_wp2_with fail
  have hd0 := heap_alloc_new w5 (.cells #[.int .u8 1, .int .u8 2, .int .u8 0, .int .u8 0, .int .u8 0, .int .u8 0, .int .u8 0, .int .u8 0, .int .u8 0, .int .u8 0, .int .u8 0, .int .u8 0, .int .u8 0, .int .u8 0, .int .u8 0, .int .u8 0] 57)
  have hs0 : (w5.alloc (.cells #[.int .u8 1, .int .u8 2, .int .u8 0, .int .u8 0, .int .u8 0, .int .u8 0, .int .u8 0, .int .u8 0, .int .u8 0, .int .u8 0, .int .u8 0, .int .u8 0, .int .u8 0, .int .u8 0, .int .u8 0, .int .u8 0] 57)).heap.size = w5.heap.size + 1 := by simp
  have hb6 := hb5.trans (((Below.refl _ _).alloc (Nat.le_refl _) (.cells #[.int .u8 1, .int .u8 2, .int .u8 0, .int .u8 0, .int .u8 0, .int .u8 0, .int .u8 0, .int .u8 0, .int .u8 0, .int .u8 0, .int .u8 0, .int .u8 0, .int .u8 0, .int .u8 0, .int .u8 0, .int .u8 0] 57)).mono hb5.size)
  have hown6 := hownl.alloc (.cells #[.int .u8 1, .int .u8 2, .int .u8 0, .int .u8 0, .int .u8 0, .int .u8 0, .int .u8 0, .int .u8 0, .int .u8 0, .int .u8 0, .int .u8 0, .int .u8 0, .int .u8 0, .int .u8 0, .int .u8 0, .int .u8 0] 57)
  generalize hW : w5.alloc (.cells #[.int .u8 1, .int .u8 2, .int .u8 0, .int .u8 0, .int .u8 0, .int .u8 0, .int .u8 0, .int .u8 0, .int .u8 0, .int .u8 0, .int .u8 0, .int .u8 0, .int .u8 0, .int .u8 0, .int .u8 0, .int .u8 0] 57) = w6 at hd0 hs0 hb6 hown6 ⊢
  clear hW hb5 hownl
  rw [← hs0]
  have hlt6 : w5.heap.size < w6.heap.size := by omega
  have Hd0 := Lib.hid hd0
  clear hs0 hd0
  generalize w5.heap.size = Bd at *
  refine (sDigests 1 [1, 2, 0, 0, 0, 0, 0, 0, 0, 0, 0, 0, 0, 0, 0, 0] [129, 1, 1, 2, 0, 0, 0, 0, 0, 0, 0, 0, 0, 0, 0, 0, 0, 0] w6 (by decide) (by decide) (by decide +kernel)).mono ?_
  rintro e w7 ⟨A7, c7, rfl, hr7, hc7, hm7, hb'⟩
  have hb7 := hb6.trans (hb'.mono hb6.size)
  have hown7 := own_below hown6 hb' (Nat.le_refl _)
  have hlt7 : Bd < w7.heap.size := Nat.lt_of_lt_of_le hlt6 hb'.size
  have Hd7 := Lib.hid ((hb'.block Bd hlt6).trans Hd0.out)
  clear hb6 hb' hown6 hlt6 Hd0
  go_wp2_with fail
  refine (sGetDigests A7 c7 [129, 1, 1, 2, 0, 0, 0, 0, 0, 0, 0, 0, 0, 0, 0, 0, 0, 0] [[1, 2, 0, 0, 0, 0, 0, 0, 0, 0, 0, 0, 0, 0, 0, 0]] 18 w7 hr7 hc7 hm7 (by decide) (by decide +kernel)).mono ?_
  rintro e w8 ⟨vd, rfl, hownd, hb'⟩
  have hb8 := hb7.trans (hb'.mono hb7.size)
  have hown8 := own_below hown7 hb' (Nat.le_refl _)
  have hlt8 : Bd < w8.heap.size := Nat.lt_of_lt_of_le hlt7 hb'.size
  have Hd8 := Lib.hid ((hb'.block Bd hlt7).trans Hd7.out)
  have hk8 : Keep w vl vd Bd w8 := ⟨hb8, hown8, hownd, hlt8, Hd8.out⟩
  have K8 := Lib.hid hk8
  clear hb7 hb' hown7 hlt7 Hd7 hr7 hc7 hm7 hb8 hown8 hownd hlt8 Hd8 hk8
  go_wp2_with fail
  refine (sGetStrings [129, 2, 128, 129, 1, 97, 5] [bs [], bs [97]] 6 w8 (by decide) (by kernel_rfl)).mono ?_
  rintro e w9 ⟨vt, rfl, hownt, hb'⟩
  have K9 := Lib.hid (K8.out.step hb')
  obtain ⟨At, ct, rfl, hrt, -, -⟩ := own_rd (B := 0) hownt
  clear K8 hb' hownt
  go_wp2_with fail
  refine (sSameTexts At ct [bs [], bs [97]] w9 hrt (by decide)).mono ?_
  rintro e w10 ⟨rfl, hb'⟩
  have K10 := Lib.hid (K9.out.step hb')
  clear K9 hb' hrt
  go_wp2_with fail
  refine (sStrings [bs [], bs [97]] [129, 2, 128, 129, 1, 97] w10 (by decide) (by decide +kernel) (by decide +kernel)).mono ?_
  rintro e w11 ⟨A, c, rfl, hr, -, -, hb'⟩
  have K11 := Lib.hid (K10.out.step hb')
  clear K10 hb'
  go_wp2_with fail
  refine (sSame A c [129, 2, 128, 129, 1, 97] w11 hr (by decide)).mono ?_
  rintro e w12 ⟨rfl, hb'⟩
  have K12 := Lib.hid (K11.out.step hb')
  clear K11 hb' hr
  go_wp2_with fail
  refine (sInt (-257) [125, 254, 255] w12 (by unfold M.I64; omega) (by decide +kernel)).mono ?_
  rintro e w13 ⟨A, c, rfl, hr, -, -, hb'⟩
  have K13 := Lib.hid (K12.out.step hb')
  clear K12 hb'
  go_wp2_with fail
  refine (sSame A c [125, 254, 255] w13 hr (by decide)).mono ?_
  rintro e w14 ⟨rfl, hb'⟩
  have K14 := Lib.hid (K13.out.step hb')
  clear K13 hb' hr
  have hs97 : ((bs [97, 98]).toList == [97, 98]) = true := by decide +kernel
  obtain ⟨Al, cl, hvl, hrl, -, -⟩ := own_rd (B := 0) K14.out.2.1
  subst hvl
  go_wp2_with fail
  refine (sSameInts Al cl [1, -1] w14 hrl (by decide)).mono ?_
  rintro e w15 ⟨rfl, hb'⟩
  have K15 := Lib.hid (K14.out.step hb')
  clear K14 hb' hrl hs97
  go_wp2_with fail
  refine (sBytes ⟨#[97, 98]⟩ [129, 2, 97, 98] w15 (by decide +kernel) (by decide +kernel)).mono ?_
  rintro e w16 ⟨A, c, rfl, hr, -, -, hb'⟩
  have K16 := Lib.hid (K15.out.step hb')
  clear K15 hb'
  go_wp2_with fail
  refine (sSame A c [129, 2, 97, 98] w16 hr (by decide)).mono ?_
  rintro e w17 ⟨rfl, hb'⟩
  have K17 := Lib.hid (K16.out.step hb')
  clear K16 hb' hr
  go_wp2_with fail
  refine (sInts [1, -1] [129, 2, 129, 1, 127] w17 (by decide) (by intro n hn; simp at hn; rcases hn with rfl | rfl <;> (unfold M.I64; omega)) (by decide +kernel)).mono ?_
  rintro e w18 ⟨A, c, rfl, hr, -, -, hb'⟩
  have K18 := Lib.hid (K17.out.step hb')
  clear K17 hb'
  go_wp2_with fail
  refine (sSame A c [129, 2, 129, 1, 127] w18 hr (by decide)).mono ?_
  rintro e w19 ⟨rfl, hb'⟩
  have K19 := Lib.hid (K18.out.step hb')
  clear K18 hb' hr
  obtain ⟨Ad, cd, hvd, hrd, -, -⟩ := own_rd (B := 0) K19.out.2.2.1
  subst hvd
  have hq := K19.out.2.2.2.2
  have q0 : w19.cell? ⟨Bd, 0, none⟩ = some (.int .u8 1) := cell_of_row w19 Bd 0 _ _ _ hq
  have q1 : w19.cell? ⟨Bd, 1, none⟩ = some (.int .u8 2) := cell_of_row w19 Bd 1 _ _ _ hq
  have q2 : w19.cell? ⟨Bd, 2, none⟩ = some (.int .u8 0) := cell_of_row w19 Bd 2 _ _ _ hq
  have q3 : w19.cell? ⟨Bd, 3, none⟩ = some (.int .u8 0) := cell_of_row w19 Bd 3 _ _ _ hq
  have q4 : w19.cell? ⟨Bd, 4, none⟩ = some (.int .u8 0) := cell_of_row w19 Bd 4 _ _ _ hq
  have q5 : w19.cell? ⟨Bd, 5, none⟩ = some (.int .u8 0) := cell_of_row w19 Bd 5 _ _ _ hq
  have q6 : w19.cell? ⟨Bd, 6, none⟩ = some (.int .u8 0) := cell_of_row w19 Bd 6 _ _ _ hq
  have q7 : w19.cell? ⟨Bd, 7, none⟩ = some (.int .u8 0) := cell_of_row w19 Bd 7 _ _ _ hq
  have q8 : w19.cell? ⟨Bd, 8, none⟩ = some (.int .u8 0) := cell_of_row w19 Bd 8 _ _ _ hq
  have q9 : w19.cell? ⟨Bd, 9, none⟩ = some (.int .u8 0) := cell_of_row w19 Bd 9 _ _ _ hq
  have q10 : w19.cell? ⟨Bd, 10, none⟩ = some (.int .u8 0) := cell_of_row w19 Bd 10 _ _ _ hq
  have q11 : w19.cell? ⟨Bd, 11, none⟩ = some (.int .u8 0) := cell_of_row w19 Bd 11 _ _ _ hq
  have q12 : w19.cell? ⟨Bd, 12, none⟩ = some (.int .u8 0) := cell_of_row w19 Bd 12 _ _ _ hq
  have q13 : w19.cell? ⟨Bd, 13, none⟩ = some (.int .u8 0) := cell_of_row w19 Bd 13 _ _ _ hq
  have q14 : w19.cell? ⟨Bd, 14, none⟩ = some (.int .u8 0) := cell_of_row w19 Bd 14 _ _ _ hq
  have q15 : w19.cell? ⟨Bd, 15, none⟩ = some (.int .u8 0) := cell_of_row w19 Bd 15 _ _ _ hq
  clear hq
  go_wp2_with fail
  clear q0 q1 q2 q3 q4 q5 q6 q7 q8 q9 q10 q11 q12 q13 q14 q15
  refine (sSameDigests Ad cd 1 [1, 2, 0, 0, 0, 0, 0, 0, 0, 0, 0, 0, 0, 0, 0, 0] w19 hrd (by decide) (by decide)).mono ?_
  rintro e w20 ⟨rfl, hb'⟩
  have K20 := Lib.hid (K19.out.step hb')
  clear K19 hb' hrd
  go_wp2_with fail
  go_ret
  exact ⟨rfl, K20.out.1⟩
end Go.Proofs.Ytacgekhphhhmpaa
