import Derived.Deep.DeepCutAuto
import Derived.Lib.AppendStr
import Derived.Deep.MidRow
import Derived.Laws.BitsAllLaws
import Derived.Test.YtkelfcgomeojeaaDoorJWireA

section
/- Words: a slice that reads as a list of cells; a cut of it; what is kept. -/




namespace Go.Proofs.YtkelfcgomeojeaaDoor
open Go.RowKit
set_option linter.unusedVariables false

/-- The slice's head leads, below block B, to a row of cells that begins with xs. -/
def Rd (w : World) (B : Nat) (A : Option Addr) (xs : List Value) : Prop :=
  0 < xs.length → ∃ b off, A = some ⟨b, off, none⟩ ∧ b < B ∧ ∀ (j : Nat) (u : Value), xs[j]? = some u → w.cell? ⟨b, off + j, none⟩ = some u

def cutA (A : Option Addr) (lo cap : Nat) : Option Addr := if cap = lo then A else A.map (·.add lo)

section
variable {w w' : World} {B B' : Nat} {A : Option Addr} {xs : List Value}
theorem Rd.nil : Rd w B A [] := fun h => absurd h (by simp)
theorem Rd.keep (h : Rd w B A xs) (hk : ∀ p : Addr, p.block < B → w'.cell? p = w.cell? p) : Rd w' B A xs := fun hn => by
  obtain ⟨b, off, e, hb, hc⟩ := h hn
  exact ⟨b, off, e, hb, fun j u hu => (hk _ hb).trans (hc j u hu)⟩
theorem Rd.more (h : Rd w B A xs) (hB : B ≤ B') : Rd w B' A xs := fun hn => by
  obtain ⟨b, off, e, hb, hc⟩ := h hn
  exact ⟨b, off, e, Nat.lt_of_lt_of_le hb hB, hc⟩
theorem Rd.below (h : Rd w B A xs) (hb : Below B w w') : Rd w' B A xs := h.keep fun _ hp => hb.cell hp
theorem Rd.alloc (h : Rd w B A xs) (hB : B ≤ w.heap.size) (o : Obj) : Rd (w.alloc o) B A xs := h.keep fun p hp => World.cell?_alloc_lt w o p (Nat.lt_of_lt_of_le hp hB)
theorem Rd.cut (h : Rd w B A xs) {lo hi cap : Nat} (hh : hi ≤ xs.length) (hc : hi ≤ cap) : Rd w B (cutA A lo cap) ((xs.take hi).drop lo) := fun hn => by
  have hlt : lo < hi := by simp at hn; omega
  obtain ⟨b, off, rfl, hb, hcell⟩ := h (by omega)
  refine ⟨b, off + lo, ?_, hb, fun j u hu => ?_⟩
  · unfold cutA
    rw [if_neg (by omega)]
    simp [Addr.add]
  · have h1 : ((xs.take hi).drop lo)[j]? = some u := hu
    rw [List.getElem?_drop] at h1
    have h2 : xs[lo + j]? = some u := by
      rw [List.getElem?_take] at h1
      split at h1
      · exact h1
      · cases h1
    have := hcell _ u h2
    rw [show off + lo + j = off + (lo + j) from by omega]
    exact this
theorem Rd.drop (h : Rd w B A xs) {lo cap : Nat} (hc : xs.length ≤ cap) : Rd w B (cutA A lo cap) (xs.drop lo) := by
  have := h.cut (lo := lo) (hi := xs.length) (cap := cap) (Nat.le_refl _) hc
  rwa [List.take_length] at this
theorem Rd.of_own {base n size : Nat} {e : TypeId} {c : Nat} (h : w.ownsRow base e size (.slice A n c) n xs) : Rd w w.heap.size A xs := fun hn => by
  rcases h.2 with ⟨hv, h0⟩ | ⟨g, cap, cur, hv, hb, hg, hnc, hm, hs, ht⟩
  · subst h0
    have h1 := h.1
    rw [Nat.zero_mul] at h1
    omega
  · injection hv with hA _ _
    subst hA
    refine ⟨g, 0, rfl, (Array.getElem?_eq_some_iff.1 hg).1, fun j u hu => ?_⟩
    rw [cell_of_row w g (0 + j) _ _ _ hg]
    rw [← ht, List.getElem?_take] at hu
    split at hu
    · rw [Nat.zero_add]; simpa using hu
    · cases hu
end

/-- Cuts of a []byte: 's[lo:hi]', 's[lo:]', 's[:hi]', 's[:hi:mx]'. -/
theorem elem_u8s : Tryd.prog.underlying 51 = some (.slice (Tryd.prog.elem 51)) := by kernel_rfl
theorem size_u8s (W : World) : (sizeOf (Tryd.prog.elem 51)).run Tryd.prog W = .ok 1 W := by kernel_rfl
theorem cut_lh (W : World) (A : Option Addr) (len cap lo hi : Nat) (a b : Int) (ha : a = lo) (hb : b = hi) (h1 : lo ≤ hi) (h2 : hi ≤ cap) :
    (Instr.slice 51 (.slice A len cap) (some (.int .i64 a)) (some (.int .i64 b)) none).run Tryd.prog W = .ok (.slice (cutA A lo cap) (hi - lo) (cap - lo)) W := by
  subst ha hb
  rw [run_slice_lh (P := Tryd.prog) (w := W) (t := 51) (a := A) (len := len) (cap := cap) elem_u8s .i64 .i64 _ _ (by omega) (by omega) (by omega), size_u8s]
  simp [sliced, cutA]
theorem cut_l (W : World) (A : Option Addr) (len cap lo : Nat) (a : Int) (ha : a = lo) (h1 : lo ≤ len) (h2 : len ≤ cap) :
    (Instr.slice 51 (.slice A len cap) (some (.int .i64 a)) none none).run Tryd.prog W = .ok (.slice (cutA A lo cap) (len - lo) (cap - lo)) W := by
  subst ha
  rw [run_slice_l (P := Tryd.prog) (w := W) (t := 51) (a := A) (len := len) (cap := cap) elem_u8s .i64 _ (by omega) (by omega), size_u8s]
  simp [sliced, cutA]
theorem cut_h (W : World) (A : Option Addr) (len cap hi : Nat) (b : Int) (hb : b = hi) (h2 : hi ≤ cap) :
    (Instr.slice 51 (.slice A len cap) none (some (.int .i64 b)) none).run Tryd.prog W = .ok (.slice (cutA A 0 cap) hi cap) W := by
  subst hb
  rw [run_slice_h (P := Tryd.prog) (w := W) (t := 51) (a := A) (len := len) (cap := cap) elem_u8s .i64 _ (by omega) (by omega), size_u8s]
  simp [sliced, cutA]
theorem cut_hm (W : World) (A : Option Addr) (len cap hi mx : Nat) (b c : Int) (hb : b = hi) (hc : c = mx) (h1 : hi ≤ mx) (h2 : mx ≤ cap) :
    (Instr.slice 51 (.slice A len cap) none (some (.int .i64 b)) (some (.int .i64 c))).run Tryd.prog W = .ok (.slice (cutA A 0 mx) hi mx) W := by
  subst hb hc
  rw [run_slice_hm (P := Tryd.prog) (w := W) (t := 51) (a := A) (len := len) (cap := cap) elem_u8s .i64 .i64 _ _ (by omega) (by omega) (by omega), size_u8s]
  simp [sliced, cutA]

/-- A slice value of bytes that reads as l. -/
def RdB (w : World) (B : Nat) (A : Option Addr) (l : List UInt8) : Prop := Rd w B A (l.map bv)

/-- The row of the call's own, not empty: its head, its cells. -/
theorem own_form {w : World} {base n : Nat} {e : TypeId} {v : Value} {xs : List Value} (h : w.ownsRow base e 1 v n xs) (hn : 0 < n) :
    ∃ g cap, v = .slice (some ⟨g, 0, none⟩) n cap ∧ base ≤ g ∧ g < w.heap.size ∧ n ≤ cap ∧ cap ≤ maxLen ∧ ∀ (j : Nat) (u : Value), xs[j]? = some u → w.cell? ((⟨g, 0, none⟩ : Addr).add j) = some u := by
  rcases h.2 with ⟨_, h0⟩ | ⟨g, cap, cur, hv, hb, hg, hnc, hm, hs, ht⟩
  · omega
  · refine ⟨g, cap, hv, hb, (Array.getElem?_eq_some_iff.1 hg).1, hnc, hm, fun j u hu => ?_⟩
    have e : (⟨g, 0, none⟩ : Addr).add j = ⟨g, j, none⟩ := by simp [Addr.add]; omega
    rw [e, cell_of_row w g j _ _ _ hg]
    rw [← ht, List.getElem?_take] at hu
    split at hu
    · simpa using hu
    · cases hu
theorem own_below {w w' : World} {B base n size : Nat} {e : TypeId} {v : Value} {xs : List Value} (h : w.ownsRow base e size v n xs) (hb : Below B w w') (hB : w.heap.size ≤ B) : w'.ownsRow base e size v n xs :=
  h.kept (row := some w'.heap.size) ⟨hb.os, hb.tape, hb.output, hb.size, fun k hk _ => hb.block k (by omega)⟩ (by
    rcases hv : v.ownBlock with _ | k
    · exact .inl rfl
    · right
      have := (h.lt k hv).2
      intro e
      injection e with e
      have := hb.size
      omega)
theorem own_len {w : World} {base n size : Nat} {e : TypeId} {v : Value} {xs : List Value} (h : w.ownsRow base e size v n xs) : xs.length = n * size := h.1

def iv (n : Int) : Value := .int .i64 n
def sv (s : ByteArray) : Value := .string s
def sb (s : ByteArray) : List UInt8 := s.data.toList
theorem sb_len (s : ByteArray) : (sb s).length = s.size := by simp [sb]
theorem strCells_sb (s : ByteArray) : Lib.strCells s = (sb s).map bv := rfl

theorem size_setCells (b : Nat) : ∀ (vs : List Value) (o : Nat) (w : World), (w.setCells b o vs).heap.size = w.heap.size := by
  intro vs
  induction vs with
  | nil => intro o w; rfl
  | cons v r ih => intro o w; rw [World.setCells, ih]; simp [World.setCell]
theorem below_setCells {B : Nat} {a : World} (b : Nat) (hb : B ≤ b) : ∀ (vs : List Value) (o : Nat) (w : World), Below B a w → Below B a (w.setCells b o vs) := by
  intro vs
  induction vs with
  | nil => intro o w h; exact h
  | cons v r ih => intro o w h; rw [World.setCells]; exact ih _ _ (h.setCell (p := ⟨b, o, none⟩) hb v)
theorem there_new (w : World) (cs : Array Value) (t : TypeId) (n : Nat) (h : cs.size = n) : (w.alloc (.cells cs t)).there w.heap.size 0 n := fun j hj => by
  have hh := heap_alloc_new w (.cells cs t)
  refine ⟨?_, frozen_of_row _ _ _ cs t hh⟩
  rw [cell_of_row _ _ _ cs t _ hh]
  simp; omega
end Go.Proofs.YtkelfcgomeojeaaDoor
end

section
/- The contract of wire.Bytes. -/

namespace Go.Proofs.YtkelfcgomeojeaaDoor
open Go.RowKit
set_option linter.unusedVariables false

/-- A new row that holds these bytes; nothing that was there has changed. -/
def Makes (l : List UInt8) (w : World) (e : Ending) (w' : World) : Prop := ∃ v, e = .returned v ∧ w'.ownsRow w.heap.size 5 1 v l.length (l.map bv) ∧ Below w.heap.size w w'

set_option maxHeartbeats 1000000 in
theorem bytes_any (s : ByteArray) (w : World) (hs : s.size ≤ 1000000000) : Calls Tryd.prog 55 #[.string s] w (Makes (M.encB (sb s)) w) := by
  obtain ⟨i0, hi, hz0, hz1, hz2⟩ := info_parts info_u8
  have hI := M.I64_nat s.size (by omega)
  have hlen := M.encI_len_le s.size hI
  have hf : M.encB (sb s) = M.encI s.size ++ sb s := by unfold M.encB; rw [sb_len]
  have hl := sb_len s
  have Hf := Lib.hid hf
  have Hl := Lib.hid hl
  clear hf hl
  go_enter Tryd.func55, Tryd.ntmps55
  go_wp2_with fail
  refine (int_any s.size _ hI).mono ?_
  rintro e w' ⟨v, rfl, hown, hbel⟩
  have hB := hbel.size
  have hmx : (M.encI s.size).length + s.size ≤ maxLen := by unfold maxLen; omega
  go_wp2_with (at_builtin; refine Lib.wpList_append_own_string _ rfl (.tmp 5) (.tmp 6) 51 9 rfl w.heap.size 5 i0 Tryd.underlying51 Tryd.underlying9 hi hz0 hz1 hz2 _ _ _ rfl hown s rfl hmx (by omega) hB ?_; intro v' w1 hown' hgrow _)
  go_ret
  refine ⟨v', rfl, ?_, hbel.grown hgrow hB (fun k hk => (hown.lt k hk).1)⟩
  rw [Hf.out, List.length_append, Hl.out, List.map_append]
  exact hown'

end Go.Proofs.YtkelfcgomeojeaaDoor
end

section
/- The contract of wire.GetInt. -/



namespace Go.Proofs.YtkelfcgomeojeaaDoor
open Go.RowKit
set_option linter.unusedVariables false

def I3 (a b c : Int) : Value := .tuple #[.int .i64 a, .int .i64 b, .int .i64 c]

theorem or_byte (X d : Nat) (hX : X < 72057594037927936) (hd : d < 256) : bits .or .u64 ((X : Int) * 256) (d : Int) = ((X * 256 + d : Nat) : Int) := by
  have e : (X : Int) * 256 = ((X * 256 : Nat) : Int) := by omega
  rw [e, u64_or_nat (X * 256) d (by omega) (by omega)]
  have h := Nat.shiftLeft_add_eq_or_of_lt (i := 8) (b := d) (by omega) X
  rw [Nat.shiftLeft_eq] at h
  congr 1
  exact h.symm

set_option maxHeartbeats 2000000 in
set_option maxRecDepth 100000 in
theorem getInt_any (A : Option Addr) (cap : Nat) (l : List UInt8) (w : World) (B : Nat) (hr : RdB w B A l) (hc : l.length ≤ cap) (hm : cap ≤ maxLen) :
    Calls Tryd.prog 35 #[.slice A l.length cap] w fun e w' => e = .returned (I3 (M.getI l).1 (M.getI l).2.1 (M.getI l).2.2) ∧ w = w' := by
  unfold maxLen at hm
  cases l with
  | nil =>
    go_enter Tryd.func35, Tryd.ntmps35
    go_wp2
    go_ret3
    exact ⟨rfl, rfl⟩
  | cons c rest =>
    obtain ⟨b, off, rfl, hb, hcell⟩ := hr (by simp)
    have hC := c.toNat_lt
    have hc0 : w.cell? ⟨b, off, none⟩ = some (.int .u8 (c.toNat : Int)) := hcell 0 (bv c) rfl
    have Hcell := Lib.hid hcell
    clear hcell
    rw [List.length_cons] at hc ⊢
    obtain ⟨r, hR⟩ : ∃ r, r = M.getI (c :: rest) := ⟨_, rfl⟩
    rw [← hR]
    rw [M.getI_cons] at hR
    have hkv : M.kOf c = if c.toNat < 128 then 127 - c.toNat else c.toNat - 128 := rfl
    obtain ⟨K, hK⟩ : ∃ K, K = M.kOf c := ⟨_, rfl⟩
    obtain ⟨X, hX⟩ : ∃ X, X = M.mOf c rest := ⟨_, rfl⟩
    rw [← hK] at hkv hR
    rw [← hX] at hR
    have HR := Lib.hid hR
    have HK := Lib.hid hK
    have HX := Lib.hid hX
    have Hkv := Lib.hid hkv
    have hK2 : K ≤ 127 := by rw [hkv]; split <;> omega
    clear hK hX hkv hR
    have hsl := fun (W : World) (h : K ≤ rest.length) => cut_lh W (some ⟨b, off, none⟩) (rest.length + 1) cap 1 (1 + K) 1 (1 + (K : Int)) rfl (by omega) (by omega) (by omega)
    have Hsl := Lib.hid hsl
    have Hrd := Lib.hid (fun (h : K ≤ rest.length) => Rd.cut (lo := 1) (hi := 1 + K) (cap := cap) hr (by simp; omega) (by omega))
    clear hsl hr
    go_enter Tryd.func35, Tryd.ntmps35
    go_upto_if 22 with fail
    go_cut [6] (fun s6 wx => s6 = .int .i64 K ∧ w = wx)
    case first =>
      go_wp2_with fail
      all_goals
        go_meet
        case rel => exact ⟨by have := Hkv.out; congr 1; split at this <;> omega, rfl⟩
    case rest =>
      obtain ⟨rfl, rfl⟩ := hcut
      by_cases h8 : 8 < K
      · go_wp2_with fail
        go_ret3
        have hR := HR.out
        rw [if_pos h8] at hR
        exact ⟨by rw [hR]; rfl, rfl⟩
      by_cases hl : rest.length < K
      · have hl' : (rest.length : Int) < K := by omega
        go_wp2_with fail
        go_ret3
        have hR := HR.out
        rw [if_neg (by omega), if_pos (by omega)] at hR
        exact ⟨by rw [hR]; rfl, rfl⟩
      have hl' : (K : Int) ≤ rest.length := by omega
      have hsl := Hsl.out w (by omega)
      rw [Nat.add_sub_cancel_left] at hsl
      obtain ⟨A', hA'⟩ : ∃ A', A' = cutA (some ⟨b, off, none⟩) 1 cap := ⟨_, rfl⟩
      rw [← hA'] at hsl
      have hrd := Hrd.out (by omega)
      rw [← hA', show (List.take (1 + K) (List.map bv (c :: rest))).drop 1 = (rest.take K).map bv from by rw [Nat.add_comm, List.map_cons, List.take_succ_cons, List.drop_succ_cons, List.drop_zero, List.map_take]] at hrd
      have Hrd2 := Lib.hid hrd
      clear hA' hrd Hrd Hsl Hcell
      have hval : ∀ j, j ≤ 8 → M.val ((rest.take j).map (M.flip (decide (c.toNat < 128)))) < 256 ^ j := fun j hj =>
        Nat.lt_of_lt_of_le (M.val_lt _) (Nat.pow_le_pow_right (by omega) (by simp; omega))
      have Hval := Lib.hid hval
      clear hval
      go_wp2_with fail
      go_loop [7, 40] (fun x i => ∃ j : Nat, j ≤ K ∧ i = .int .i64 j ∧ x = .int .u64 ((M.val ((rest.take j).map (M.flip (decide (c.toNat < 128)))) : Nat))) (fun _ i => K - (intOf i).toNat)
      case atStart => exact ⟨0, Nat.zero_le _, rfl, rfl⟩
      case round =>
        obtain ⟨j, hj, rfl, rfl⟩ := hrel
        by_cases hlt : j < K
        · obtain ⟨b', off', rfl, hb', hcell⟩ := Hrd2.out (by simp; omega)
          obtain ⟨V, hV⟩ : ∃ V, V = M.val ((rest.take j).map (M.flip (decide (c.toNat < 128)))) := ⟨_, rfl⟩
          rw [← hV]
          have hVlt : V < 72057594037927936 := by
            have h1 := Hval.out j (by omega)
            have h2 : 256 ^ j ≤ 256 ^ 7 := Nat.pow_le_pow_right (by omega) (by omega)
            omega
          obtain ⟨D, hD⟩ : ∃ D, D = rest.getD j 0 := ⟨_, rfl⟩
          have hDlt := D.toNat_lt
          have hcj : w.cell? ⟨b', off' + j, none⟩ = some (.int .u8 (D.toNat : Int)) := hcell j (bv D) (by rw [hD]; simp [hlt, List.getElem?_eq_getElem (show j < rest.length by omega)])
          have hnext : M.val ((rest.take (j + 1)).map (M.flip (decide (c.toNat < 128)))) = V * 256 + (M.flip (decide (c.toNat < 128)) D).toNat := by
            rw [List.take_succ_eq_append_getElem (show j < rest.length by omega), List.map_append, List.map_singleton, M.val_snoc, ← hV, hD]
            simp [List.getElem?_eq_getElem (show j < rest.length by omega)]
          have Hnext := Lib.hid hnext
          clear hcell hV hD hnext Hrd2 Hval hsl
          by_cases hneg : (c.toNat : Int) < 128
          · have hor := or_byte V (255 - D.toNat) hVlt (by omega)
            rw [show ((255 - D.toNat : Nat) : Int) = 255 - (D.toNat : Int) from by omega] at hor
            have Hor := Lib.hid hor
            clear hor
            go_wp2_with fail
            go_round
            case rel => exact ⟨j + 1, by omega, by go_num, by rw [Hor.out, Hnext.out, show decide (c.toNat < 128) = true from by simp; omega, M.flip_toNat]⟩
            case measure => simp [intOf]; omega
          · have hor := or_byte V D.toNat hVlt (by omega)
            have Hor := Lib.hid hor
            clear hor
            go_wp2_with fail
            go_round
            case rel => exact ⟨j + 1, by omega, by go_num, by rw [Hor.out, Hnext.out, show decide (c.toNat < 128) = false from by simp; omega]; rfl⟩
            case measure => simp [intOf]; omega
        · obtain rfl : j = K := by omega
          have hXv : M.val ((rest.take j).map (M.flip (decide (c.toNat < 128)))) = X := by
            have := HX.out
            unfold M.mOf at this
            rw [← HK.out] at this
            exact this.symm
          have hXlt : X < 18446744073709551616 := by
            have h1 := Hval.out j (by omega)
            rw [hXv] at h1
            have h2 : 256 ^ j ≤ 256 ^ 8 := Nat.pow_le_pow_right (by omega) (by omega)
            omega
          rw [hXv]
          have hR := HR.out
          rw [if_neg h8, if_neg hl] at hR
          have HR2 := Lib.hid hR
          clear hXv hR HR HK HX Hrd2 Hval hsl
          go_wp2_with fail
          refine (leastDigits_any X _ hXlt).mono ?_
          rintro e w' ⟨rfl, rfl⟩
          by_cases hk : j = M.nb X
          · have hkt : ((j : Int) != (M.nb X : Int)) = false := by rw [← hk]; simp
            have Hk := Lib.hid hk
            clear hk
            by_cases hx : 9223372036854775807 < X
            · have hx' : (9223372036854775807 : Int) < X := by omega
              go_wp2_with fail
              go_ret3
              have hR := HR2.out
              rw [if_pos (Or.inr hx)] at hR
              exact ⟨by rw [hR]; rfl, rfl⟩
            · have hx' : (X : Int) ≤ 9223372036854775807 := by omega
              have hR := HR2.out
              rw [if_neg (by have := Hk.out; omega)] at hR
              by_cases hneg : (c.toNat : Int) < 128
              · rw [if_pos (by omega)] at hR
                have HR3 := Lib.hid hR
                clear hR HR2
                go_wp2_with fail
                go_ret3
                exact ⟨by rw [HR3.out]; rfl, rfl⟩
              · rw [if_neg (by omega)] at hR
                have HR3 := Lib.hid hR
                clear hR HR2
                go_wp2_with fail
                go_ret3
                exact ⟨by rw [HR3.out]; rfl, rfl⟩
          · have hkt : ((j : Int) != (M.nb X : Int)) = true := by simp; omega
            have hR := HR2.out
            rw [if_pos (Or.inl hk)] at hR
            have HR3 := Lib.hid hR
            clear hR HR2
            go_wp2_with fail
            go_ret3
            exact ⟨by rw [HR3.out]; rfl, rfl⟩
end Go.Proofs.YtkelfcgomeojeaaDoor
end

section
/- The contract of wire.Ints. -/


namespace Go.Proofs.YtkelfcgomeojeaaDoor
open Go.RowKit
set_option linter.unusedVariables false

set_option maxHeartbeats 2000000 in
theorem ints_any (A : Option Addr) (cap : Nat) (l : List Int) (w : World) (hr : Rd w w.heap.size A (l.map iv)) (hc : l.length ≤ cap) (hm : cap ≤ maxLen) (hs : l.length ≤ 100000000) (hI : ∀ n ∈ l, M.I64 n) :
    Calls Tryd.prog 48 #[.slice A l.length cap] w (Makes (M.encL M.encI l) w) := by
  obtain ⟨i0, hi, hz0, hz1, hz2⟩ := info_parts info_u8
  have hI0 := M.I64_nat l.length (by omega)
  have hlen := M.encI_len_le l.length hI0
  have hpos := M.encI_pos l.length
  unfold maxLen at hm
  go_enter Tryd.func48, Tryd.ntmps48
  go_wp2_with fail
  refine (int_any l.length _ hI0).mono ?_
  rintro e w0 ⟨v, rfl, hown, hbel⟩
  go_wp2_with fail
  go_loopw [3, 11] (fun x i wr => ∃ k : Nat, k ≤ l.length ∧ i = .int .i64 k ∧
      wr.ownsRow w.heap.size 5 1 x (M.encI l.length ++ (l.take k).flatMap M.encI).length ((M.encI l.length ++ (l.take k).flatMap M.encI).map bv) ∧ Below w.heap.size w wr) (fun _ i _ => l.length - (intOf i).toNat)
  case atStart => exact ⟨0, Nat.zero_le _, rfl, by simpa using hown, hbel⟩
  case round =>
    obtain ⟨k, hk, rfl, hown1, hbel1⟩ := hrel
    by_cases hlt : k < l.length
    · obtain ⟨b, off, rfl, hb, hcell⟩ := hr (by simp; omega)
      obtain ⟨n, hn⟩ : ∃ n, n = l.getD k 0 := ⟨_, rfl⟩
      have hIn : M.I64 n := hI n (by rw [hn]; simp [List.getElem?_eq_getElem hlt])
      have hck : wr.cell? ⟨b, off + k, none⟩ = some (.int .i64 n) := (hbel1.cell hb).trans (hcell k (iv n) (by rw [hn]; simp [List.getElem?_eq_getElem hlt]))
      have hnext : (l.take (k + 1)).flatMap M.encI = (l.take k).flatMap M.encI ++ M.encI n := by
        rw [M.flat_take M.encI l k hlt, hn]; simp [List.getElem?_eq_getElem hlt]
      have hfl := M.flat_ints (l.take k) (fun n hn => hI n (List.mem_of_mem_take hn))
      have hfl2 : (l.take k).length ≤ 100000000 := by simp; omega
      obtain ⟨L, hL⟩ : ∃ L, L = M.encI l.length ++ (l.take k).flatMap M.encI := ⟨_, rfl⟩
      have hLl : L.length ≤ 900000009 := by rw [hL, List.length_append]; omega
      have hpos' := M.encI_pos n
      have hlen' := M.encI_len_le n hIn
      rw [← hL] at hown1
      have hnx : M.encI l.length ++ (l.take (k + 1)).flatMap M.encI = L ++ M.encI n := by rw [hnext, hL, List.append_assoc]
      have Hnx := Lib.hid hnx
      clear hcell hn hnext hfl hfl2 hL hnx
      have hBw := hbel1.size
      go_wp2_with fail
      refine (int_any n _ hIn).mono ?_
      rintro e w2 ⟨v2, rfl, hown2, hbel2⟩
      have hBw2 := hbel2.size
      obtain ⟨g, cap2, rfl, hg1, hg2, hg3, hg4, hcl⟩ := own_form hown2 (by omega)
      have hown1' := own_below hown1 hbel2 (Nat.le_refl _)
      have hmx : L.length + (M.encI n).length ≤ maxLen := by unfold maxLen; omega
      have Hcl := Lib.hid hcl
      have hll := own_len hown2
      have Hll := Lib.hid hll
      clear hcl hown2 hll
      go_wp2_with (at_builtin; refine wpList_append_own _ rfl (.tmp 15) (.tmp 17) 51 rfl w.heap.size 5 i0 (.int .u8 0) 1 1 Tryd.underlying51 hi hz0 hz1 hz2 rfl (by decide) _ _ _ rfl hown1' ⟨g, 0, none⟩ (M.encI n).length cap2 ((M.encI n).map bv) rfl Hll.out Hcl.out (one_cells _) hmx (by omega) (by omega) ?_; intro v' w3 hown' hgrow _)
      go_roundw
      case rel =>
        refine ⟨k + 1, by omega, by go_num, ?_, (hbel1.trans (hbel2.mono hBw)).grown hgrow (by omega) (fun j hj => (hown1.lt j hj).1)⟩
        rw [Hnx.out, List.length_append, List.map_append]
        exact hown'
      case measure => simp [intOf]; omega
    · obtain rfl : k = l.length := by omega
      go_wp2_with fail
      go_ret
      refine ⟨_, rfl, ?_, hbel1⟩
      rw [List.take_length] at hown1
      exact hown1
end Go.Proofs.YtkelfcgomeojeaaDoor
end

