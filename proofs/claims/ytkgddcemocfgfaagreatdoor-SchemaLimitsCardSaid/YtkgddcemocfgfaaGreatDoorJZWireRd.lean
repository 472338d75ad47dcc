import Derived.Lib.ConvBytes
import Derived.Test.YtkgddcemocfgfaaGreatDoorJZShort

section
/- The reference's Int. -/

namespace Go.Proofs.YtkgddcemocfgfaaGreatDoor
open Go.RowKit
set_option linter.unusedVariables false
set_option maxRecDepth 100000

theorem own_nil (w : World) (base : Nat) (e : TypeId) (size : Nat) : w.ownsRow base e size (.slice none 0 0) 0 [] := ⟨by simp, .inl ⟨rfl, rfl⟩⟩
theorem own_base {w : World} {base base' n size : Nat} {e : TypeId} {v : Value} {xs : List Value} (h : w.ownsRow base e size v n xs) (hb : base' ≤ base) : w.ownsRow base' e size v n xs := by
 refine ⟨h.1, ?_⟩
 rcases h.2 with h | ⟨g, cap, cur, hv, hb2, r⟩
 ·exact .inl h
 ·exact .inr ⟨g, cap, cur, hv, Nat.le_trans hb hb2, r⟩
/-- The bytes are behind in the written number. -/
theorem enc_of (n : Int) (j : Nat) (hd : M.digs 8 (M.mag n) = M.lowd j (M.mag n)) (h : M.I64 n) :
  M.encI n = UInt8.ofNat (if n < 0 then 127 - j else 128 + j) :: (M.lowd j (M.mag n)).map (M.flip (decide (n < 0))) := by
 have h1 := M.digs_len (M.mag n) (by have := M.mag_lt n h; omega)
 rw [hd, M.lowd_len] at h1
 unfold M.encI
 rw [hd, h1]

set_option maxHeartbeats 2000000 in
theorem refInt_any (n : Int) (w : World) (h : M.I64 n) : Calls Tryz.prog 51 #[.int .i64 n] w (IntPost n w) := by
 have hm := M.mag_lt n h
 obtain ⟨i0, hi, hz0, hz1, hz2⟩ := info_parts info_u8
 have hI := h
 unfold M.I64 at hI
 by_cases hn : n < 0
 ·have hmag : (M.mag n : Int) = -1 - n := by unfold M.mag; rw [if_pos hn]; omega
  go_enter Tryz.func51, Tryz.ntmps51
  go_wp2_with fail
  go_loopw [3, 4] (fun m x wr => ∃ j : Nat, j ≤ 8 ∧ m = .int .i64 ((M.mag n / 256 ^ j : Nat)) ∧ wr.ownsRow w.heap.size 5 1 x j ((M.lowd j (M.mag n)).reverse.map bv) ∧
    M.digs 8 (M.mag n) = M.digs (8 - j) (M.mag n / 256 ^ j) ++ M.lowd j (M.mag n) ∧ Below w.heap.size w wr) (fun m _ _ => (intOf m).toNat)
  case atStart => exact ⟨0, by omega, by simp [hmag], own_nil _ _ _ _, by simp [M.lowd], Below.refl _ _⟩
  case round =>
   obtain ⟨j, hj, rfl, hown, hdigs, hbel⟩ := hrel
   have hX64 : M.mag n / 256 ^ j ≤ M.mag n := Nat.div_le_self _ _
   obtain ⟨X, hX⟩ : ∃ X, X = M.mag n / 256 ^ j := ⟨_, rfl⟩
   rw [← hX] at hdigs hX64 ⊢
   have hB := hbel.size
   by_cases h0 : X = 0
   ·subst h0
    rw [M.digs_zero, List.nil_append] at hdigs
    have henc := enc_of n j hdigs h
    have hj' : (j : Int) ≤ 8 := by omega
    obtain ⟨Ad, cd, hv, hrd, hcd, hmd⟩ := own_rd (B := 0) hown
    subst hv
    obtain ⟨Lo, hLo⟩ : ∃ Lo, Lo = M.lowd j (M.mag n) := ⟨_, rfl⟩
    have hLl : Lo.length = j := by rw [hLo, M.lowd_len]
    obtain ⟨hd, hhd⟩ : ∃ hd, hd = UInt8.ofNat (if n < 0 then 127 - j else 128 + j) := ⟨_, rfl⟩
    have hbv : Value.int .u8 (127 - (j : Int)) = bv hd := by
     rw [hhd, if_pos hn]
     unfold bv
     congr 1
     simp
     omega
    rw [← hLo, ← hhd] at henc
    rw [← hLo] at hrd
    have Henc := Lib.hid henc
    have Hrd := Lib.hid hrd
    have Hbv := Lib.hid hbv
    clear hX hdigs henc hrd hown hLo hhd hbv
    have hmx : 0 + 1 ≤ maxLen := by decide
    have on := own_nil
    go_wp2_with (at_builtin; refine wpList_append_own _ rfl (.tmp 34) (.tmp 38) 35 rfl wr.heap.size 5 i0 (.int .u8 0) 1 1 Tryz.underlying35 hi hz0 hz1 hz2 rfl (by decide) (.slice none 0 0) 0 [] rfl (own_nil _ _ _ _) ⟨wr.heap.size, 0, none⟩ 1 1 [Value.int .u8 (127 - (j : Int))] rfl rfl (cell_one _ _ _) (by intro u hu; simp at hu; subst hu; rfl) hmx (by omega) (by simp) ?_; intro v' w1 hown' hgrow _; have hb1 := (((Below.refl wr.heap.size wr).alloc (Nat.le_refl _) (.cells #[Value.int .u8 (127 - (j : Int))] 5))).grown hgrow (by simp) (fun k hk => by simp [Value.ownBlock] at hk))
    rw [Hbv.out] at hown'
    obtain ⟨wo, rfl⟩ : ∃ wo : World, wo = wr := ⟨_, rfl⟩
    have hneg : decide (n < 0) = true := by simp; omega
    rw [hneg] at Henc
    clear hgrow
    go_loopw [6, 7] (fun x i wr => ∃ r : Nat, r ≤ j ∧ ((∃ q : Nat, r = q + 1 ∧ i = .int .i64 q) ∨ (r = 0 ∧ i = .int .i64 (-1))) ∧
      wr.ownsRow wo.heap.size 5 1 x (1 + (j - r)) ((hd :: (Lo.take (j - r)).map (M.flip true)).map bv) ∧ Below wo.heap.size wo wr) (fun _ i _ => (intOf i + 1).toNat)
    case atStart =>
     refine ⟨j, Nat.le_refl _, ?_, by simpa using hown', hb1⟩
     by_cases hj0 : j = 0
     ·exact .inr ⟨hj0, by rw [hj0]; rfl⟩
     ·exact .inl ⟨j - 1, by omega, by congr 1; omega⟩
    case round =>
     obtain ⟨r, hr, hi2, hown3, hbel3⟩ := hrel
     have hB3 := hbel3.size
     rcases hi2 with ⟨q, rfl, rfl⟩ | ⟨rfl, rfl⟩
     ·obtain ⟨b, off, rfl, hblt, hcell⟩ := Hrd.out (by simp [hLl]; omega)
      obtain ⟨N, hN⟩ : ∃ N, N = j - (q + 1) := ⟨_, rfl⟩
      obtain ⟨d, hd'⟩ : ∃ d, d = Lo[N]'(by omega) := ⟨_, rfl⟩
      have hck : wr.cell? ⟨b, off + q, none⟩ = some (.int .u8 (d.toNat : Int)) := (hbel3.cell hblt).trans (hcell q (bv d) (by
       rw [List.getElem?_map, List.getElem?_reverse (by omega), hLl, show j - 1 - q = N by omega, List.getElem?_eq_getElem (by omega), hd']; rfl))
      have htk : (hd :: (Lo.take (j - q)).map (M.flip true)).map bv = (hd :: (Lo.take N).map (M.flip true)).map bv ++ [Value.int .u8 (255 - (d.toNat : Int))] := by
       rw [show j - q = N + 1 by omega, List.take_succ_eq_append_getElem (by omega), ← hd']
       have : bv (M.flip true d) = Value.int .u8 (255 - (d.toNat : Int)) := by
        unfold bv; rw [M.flip_toNat]; congr 1; have := d.toNat_lt; omega
       simp [this]
      have he : 1 + (j - q) = 1 + N + 1 := by omega
      rw [← hN] at hown3
      have hq1 : (q : Int) < j := by omega
      have hq0 : (0 : Int) ≤ q := by omega
      have hqj : q ≤ j := by omega
      have d0 : (0 : Int) ≤ d.toNat := by omega
      have d1 : (d.toNat : Int) ≤ 255 := by have := d.toNat_lt; omega
      have Htk := Lib.hid htk
      have He := Lib.hid he
      have hmx2 : 1 + N + 1 ≤ maxLen := by unfold maxLen; omega
      have hN8 : N ≤ 8 := by omega
      clear hd' hcell htk he hN
      go_wp2_with (at_builtin; refine wpList_append_own _ rfl (.tmp 54) (.tmp 56) 35 rfl wo.heap.size 5 i0 (.int .u8 0) 1 1 Tryz.underlying35 hi hz0 hz1 hz2 rfl (by decide) u6 (1 + N) ((hd :: (Lo.take N).map (M.flip true)).map bv) rfl (hown3.alloc _) ⟨wr.heap.size, 0, none⟩ 1 1 [Value.int .u8 (255 - (d.toNat : Int))] rfl rfl (cell_one _ _ _) (by intro u hu; simp at hu; subst hu; rfl) hmx2 (by omega) (by simp; omega) ?_; intro v2 w2 hown4 hgrow _; have hb2 := (hbel3.alloc hB3 (.cells #[Value.int .u8 (255 - (d.toNat : Int))] 5)).grown hgrow (by simp; omega) (fun k hk => (hown3.lt k hk).1))
      go_roundw
      case rel =>
       refine ⟨q, hqj, ?_, by rw [Htk.out, He.out]; exact hown4, hb2⟩
       by_cases hq : q = 0
       ·exact .inr ⟨hq, by rw [hq]; rfl⟩
       ·exact .inl ⟨q - 1, by omega, by congr 1; omega⟩
      case measure => simp [intOf]
     ·go_wp2_with fail
      go_ret
      refine ⟨_, rfl, ?_, hbel.trans (hbel3.mono hB)⟩
      have hh := own_base hown3 hB
      rw [Henc.out, List.length_cons, List.length_map, hLl, Nat.add_comm]
      simpa [List.take_of_length_le (Nat.le_of_eq hLl)] using hh
   ·have hX0 : (0 : Int) < X := by omega
    have hX1 : (X : Int) ≤ 9223372036854775807 := by omega
    obtain ⟨g, hg⟩ : ∃ g, 8 - j = g + 1 := by
     have : j ≠ 8 := fun e => h0 (by rw [hX, e]; exact M.div_pow_lt _ hm)
     exact ⟨7 - j, by omega⟩
    have hstep := M.digs_step g j (M.mag n) (by rw [← hg, ← hX]; exact hdigs) (by rw [← hX]; exact h0)
    have hg2 : g = 8 - (j + 1) := by omega
    have hdiv : M.mag n / 256 ^ (j + 1) = X / 256 := by rw [hX, Nat.div_div_eq_div_mul, Nat.pow_succ]
    have hlow : ((M.lowd (j + 1) (M.mag n)).reverse).map bv = (M.lowd j (M.mag n)).reverse.map bv ++ [Value.int .u8 ((X : Int) % 256)] := by rw [M.lowd, hX]; simp [bv]
    rw [hg2] at hstep
    have hj8 : j + 1 ≤ 8 := by omega
    have Hstep := Lib.hid hstep
    have Hlow := Lib.hid hlow
    have Hdiv := Lib.hid hdiv
    have hmx : j + 1 ≤ maxLen := by unfold maxLen; omega
    clear hX hdigs hstep hlow hdiv hg hg2
    go_wp2_with (at_builtin; refine wpList_append_own _ rfl (.tmp 16) (.tmp 20) 35 rfl w.heap.size 5 i0 (.int .u8 0) 1 1 Tryz.underlying35 hi hz0 hz1 hz2 rfl (by decide) u4 j ((M.lowd j (M.mag n)).reverse.map bv) rfl (hown.alloc _) ⟨wr.heap.size, 0, none⟩ 1 1 [Value.int .u8 ((X : Int) % 256)] rfl rfl (cell_one _ _ _) (by intro u hu; simp at hu; subst hu; rfl) hmx (by omega) (by simp; omega) ?_; intro v' w1 hown' hgrow _; have hb1 := (hbel.alloc hB (.cells #[Value.int .u8 ((X : Int) % 256)] 5)).grown hgrow (by simp; omega) (fun k hk => (hown.lt k hk).1))
    go_roundw
    case rel => exact ⟨j + 1, hj8, by rw [Hdiv.out]; congr 1, by rw [Hlow.out]; exact hown', Hstep.out, hb1⟩
    case measure => simp [intOf]; omega
 ·have hmag : (M.mag n : Int) = n := by unfold M.mag; rw [if_neg hn]; omega
  go_enter Tryz.func51, Tryz.ntmps51
  go_wp2_with fail
  go_loopw [3, 4] (fun m x wr => ∃ j : Nat, j ≤ 8 ∧ m = .int .i64 ((M.mag n / 256 ^ j : Nat)) ∧ wr.ownsRow w.heap.size 5 1 x j ((M.lowd j (M.mag n)).reverse.map bv) ∧
    M.digs 8 (M.mag n) = M.digs (8 - j) (M.mag n / 256 ^ j) ++ M.lowd j (M.mag n) ∧ Below w.heap.size w wr) (fun m _ _ => (intOf m).toNat)
  case atStart => exact ⟨0, by omega, by simp [hmag], own_nil _ _ _ _, by simp [M.lowd], Below.refl _ _⟩
  case round =>
   obtain ⟨j, hj, rfl, hown, hdigs, hbel⟩ := hrel
   have hX64 : M.mag n / 256 ^ j ≤ M.mag n := Nat.div_le_self _ _
   obtain ⟨X, hX⟩ : ∃ X, X = M.mag n / 256 ^ j := ⟨_, rfl⟩
   rw [← hX] at hdigs hX64 ⊢
   have hB := hbel.size
   by_cases h0 : X = 0
   ·subst h0
    rw [M.digs_zero, List.nil_append] at hdigs
    have henc := enc_of n j hdigs h
    have hj' : (j : Int) ≤ 8 := by omega
    obtain ⟨Ad, cd, hv, hrd, hcd, hmd⟩ := own_rd (B := 0) hown
    subst hv
    obtain ⟨Lo, hLo⟩ : ∃ Lo, Lo = M.lowd j (M.mag n) := ⟨_, rfl⟩
    have hLl : Lo.length = j := by rw [hLo, M.lowd_len]
    obtain ⟨hd, hhd⟩ : ∃ hd, hd = UInt8.ofNat (if n < 0 then 127 - j else 128 + j) := ⟨_, rfl⟩
    have hbv : Value.int .u8 (128 + (j : Int)) = bv hd := by
     rw [hhd, if_neg (by omega)]
     unfold bv
     congr 1
     simp
     omega
    rw [← hLo, ← hhd] at henc
    rw [← hLo] at hrd
    have Henc := Lib.hid henc
    have Hrd := Lib.hid hrd
    have Hbv := Lib.hid hbv
    clear hX hdigs henc hrd hown hLo hhd hbv
    have hmx : 0 + 1 ≤ maxLen := by decide
    have on := own_nil
    go_wp2_with (at_builtin; refine wpList_append_own _ rfl (.tmp 28) (.tmp 32) 35 rfl wr.heap.size 5 i0 (.int .u8 0) 1 1 Tryz.underlying35 hi hz0 hz1 hz2 rfl (by decide) (.slice none 0 0) 0 [] rfl (own_nil _ _ _ _) ⟨wr.heap.size, 0, none⟩ 1 1 [Value.int .u8 (128 + (j : Int))] rfl rfl (cell_one _ _ _) (by intro u hu; simp at hu; subst hu; rfl) hmx (by omega) (by simp) ?_; intro v' w1 hown' hgrow _; have hb1 := (((Below.refl wr.heap.size wr).alloc (Nat.le_refl _) (.cells #[Value.int .u8 (128 + (j : Int))] 5))).grown hgrow (by simp) (fun k hk => by simp [Value.ownBlock] at hk))
    rw [Hbv.out] at hown'
    obtain ⟨wo, rfl⟩ : ∃ wo : World, wo = wr := ⟨_, rfl⟩
    have hneg : decide (n < 0) = false := by simp; omega
    rw [hneg] at Henc
    clear hgrow
    go_loopw [6, 7] (fun x i wr => ∃ r : Nat, r ≤ j ∧ ((∃ q : Nat, r = q + 1 ∧ i = .int .i64 q) ∨ (r = 0 ∧ i = .int .i64 (-1))) ∧
      wr.ownsRow wo.heap.size 5 1 x (1 + (j - r)) ((hd :: (Lo.take (j - r)).map (M.flip false)).map bv) ∧ Below wo.heap.size wo wr) (fun _ i _ => (intOf i + 1).toNat)
    case atStart =>
     refine ⟨j, Nat.le_refl _, ?_, by simpa using hown', hb1⟩
     by_cases hj0 : j = 0
     ·exact .inr ⟨hj0, by rw [hj0]; rfl⟩
     ·exact .inl ⟨j - 1, by omega, by congr 1; omega⟩
    case round =>
     obtain ⟨r, hr, hi2, hown3, hbel3⟩ := hrel
     have hB3 := hbel3.size
     rcases hi2 with ⟨q, rfl, rfl⟩ | ⟨rfl, rfl⟩
     ·obtain ⟨b, off, rfl, hblt, hcell⟩ := Hrd.out (by simp [hLl]; omega)
      obtain ⟨N, hN⟩ : ∃ N, N = j - (q + 1) := ⟨_, rfl⟩
      obtain ⟨d, hd'⟩ : ∃ d, d = Lo[N]'(by omega) := ⟨_, rfl⟩
      have hck : wr.cell? ⟨b, off + q, none⟩ = some (.int .u8 (d.toNat : Int)) := (hbel3.cell hblt).trans (hcell q (bv d) (by
       rw [List.getElem?_map, List.getElem?_reverse (by omega), hLl, show j - 1 - q = N by omega, List.getElem?_eq_getElem (by omega), hd']; rfl))
      have htk : (hd :: (Lo.take (j - q)).map (M.flip false)).map bv = (hd :: (Lo.take N).map (M.flip false)).map bv ++ [Value.int .u8 ((d.toNat : Int))] := by
       rw [show j - q = N + 1 by omega, List.take_succ_eq_append_getElem (by omega), ← hd']
       have : bv (M.flip false d) = Value.int .u8 ((d.toNat : Int)) := by
        rfl
       simp [this]
      have he : 1 + (j - q) = 1 + N + 1 := by omega
      rw [← hN] at hown3
      have hq1 : (q : Int) < j := by omega
      have hq0 : (0 : Int) ≤ q := by omega
      have hqj : q ≤ j := by omega
      have d0 : (0 : Int) ≤ d.toNat := by omega
      have d1 : (d.toNat : Int) ≤ 255 := by have := d.toNat_lt; omega
      have Htk := Lib.hid htk
      have He := Lib.hid he
      have hmx2 : 1 + N + 1 ≤ maxLen := by unfold maxLen; omega
      have hN8 : N ≤ 8 := by omega
      clear hd' hcell htk he hN
      go_wp2_with (at_builtin; refine wpList_append_own _ rfl (.tmp 54) (.tmp 56) 35 rfl wo.heap.size 5 i0 (.int .u8 0) 1 1 Tryz.underlying35 hi hz0 hz1 hz2 rfl (by decide) u6 (1 + N) ((hd :: (Lo.take N).map (M.flip false)).map bv) rfl (hown3.alloc _) ⟨wr.heap.size, 0, none⟩ 1 1 [Value.int .u8 ((d.toNat : Int))] rfl rfl (cell_one _ _ _) (by intro u hu; simp at hu; subst hu; rfl) hmx2 (by omega) (by simp; omega) ?_; intro v2 w2 hown4 hgrow _; have hb2 := (hbel3.alloc hB3 (.cells #[Value.int .u8 ((d.toNat : Int))] 5)).grown hgrow (by simp; omega) (fun k hk => (hown3.lt k hk).1))
      go_roundw
      case rel =>
       refine ⟨q, hqj, ?_, by rw [Htk.out, He.out]; exact hown4, hb2⟩
       by_cases hq : q = 0
       ·exact .inr ⟨hq, by rw [hq]; rfl⟩
       ·exact .inl ⟨q - 1, by omega, by congr 1; omega⟩
      case measure => simp [intOf]
     ·go_wp2_with fail
      go_ret
      refine ⟨_, rfl, ?_, hbel.trans (hbel3.mono hB)⟩
      have hh := own_base hown3 hB
      rw [Henc.out, List.length_cons, List.length_map, hLl, Nat.add_comm]
      simpa [List.take_of_length_le (Nat.le_of_eq hLl)] using hh
   ·have hX0 : (0 : Int) < X := by omega
    have hX1 : (X : Int) ≤ 9223372036854775807 := by omega
    obtain ⟨g, hg⟩ : ∃ g, 8 - j = g + 1 := by
     have : j ≠ 8 := fun e => h0 (by rw [hX, e]; exact M.div_pow_lt _ hm)
     exact ⟨7 - j, by omega⟩
    have hstep := M.digs_step g j (M.mag n) (by rw [← hg, ← hX]; exact hdigs) (by rw [← hX]; exact h0)
    have hg2 : g = 8 - (j + 1) := by omega
    have hdiv : M.mag n / 256 ^ (j + 1) = X / 256 := by rw [hX, Nat.div_div_eq_div_mul, Nat.pow_succ]
    have hlow : ((M.lowd (j + 1) (M.mag n)).reverse).map bv = (M.lowd j (M.mag n)).reverse.map bv ++ [Value.int .u8 ((X : Int) % 256)] := by rw [M.lowd, hX]; simp [bv]
    rw [hg2] at hstep
    have hj8 : j + 1 ≤ 8 := by omega
    have Hstep := Lib.hid hstep
    have Hlow := Lib.hid hlow
    have Hdiv := Lib.hid hdiv
    have hmx : j + 1 ≤ maxLen := by unfold maxLen; omega
    clear hX hdigs hstep hlow hdiv hg hg2
    go_wp2_with (at_builtin; refine wpList_append_own _ rfl (.tmp 16) (.tmp 20) 35 rfl w.heap.size 5 i0 (.int .u8 0) 1 1 Tryz.underlying35 hi hz0 hz1 hz2 rfl (by decide) u4 j ((M.lowd j (M.mag n)).reverse.map bv) rfl (hown.alloc _) ⟨wr.heap.size, 0, none⟩ 1 1 [Value.int .u8 ((X : Int) % 256)] rfl rfl (cell_one _ _ _) (by intro u hu; simp at hu; subst hu; rfl) hmx (by omega) (by simp; omega) ?_; intro v' w1 hown' hgrow _; have hb1 := (hbel.alloc hB (.cells #[Value.int .u8 ((X : Int) % 256)] 5)).grown hgrow (by simp; omega) (fun k hk => (hown.lt k hk).1))
    go_roundw
    case rel => exact ⟨j + 1, hj8, by rw [Hdiv.out]; congr 1, by rw [Hlow.out]; exact hown', Hstep.out, hb1⟩
    case measure => simp [intOf]; omega

end Go.Proofs.YtkgddcemocfgfaaGreatDoor
end

section
/- The reference's Bytes. -/

namespace Go.Proofs.YtkgddcemocfgfaaGreatDoor
open Go.RowKit
set_option linter.unusedVariables false
set_option maxRecDepth 100000

set_option maxHeartbeats 1000000 in
theorem refBytes_any (s : ByteArray) (w : World) (hs : s.size ≤ 1000000000) : Calls Tryz.prog 52 #[.string s] w (Makes (M.encB (sb s)) w) := by
 obtain ⟨i0, hi, hz0, hz1, hz2⟩ := info_parts info_u8
 have hI := M.I64_nat s.size (by omega)
 have hlen := M.encI_len_le s.size hI
 have hf : M.encB (sb s) = M.encI s.size ++ sb s := by unfold M.encB; rw [sb_len]
 have hl := sb_len s
 have Hf := Lib.hid hf
 have Hl := Lib.hid hl
 clear hf hl
 go_enter Tryz.func52, Tryz.ntmps52
 go_wp2_with fail
 refine (refInt_any s.size _ hI).mono ?_
 rintro e w' ⟨v, rfl, hown, hbel⟩
 have hB := hbel.size
 have hmx : (M.encI s.size).length + s.size ≤ maxLen := by unfold maxLen; omega
 obtain ⟨W2, c2, hcv, hcell, hb2⟩ := conv_str w' s
 have hB2 := hb2.size
 have hown2 := own_below hown hb2 (Nat.le_refl _)
 have Hcell := Lib.hid hcell
 clear hcell hown
 go_wp2_with (at_builtin; refine wpList_append_own _ rfl (.tmp 5) (.tmp 7) 35 rfl w.heap.size 5 i0 (.int .u8 0) 1 1 Tryz.underlying35 hi hz0 hz1 hz2 rfl (by decide) _ _ _ rfl hown2 ⟨w'.heap.size, 0, none⟩ s.size c2 ((sb s).map bv) rfl (by rw [List.length_map, Hl.out, Nat.mul_one]) Hcell.out (one_cells _) hmx (by omega) (by omega) ?_; intro v' w1 hown' hgrow _)
 go_ret
 refine ⟨v', rfl, ?_, (hbel.trans (hb2.mono hB)).grown hgrow (by omega) (fun k hk => (hown2.lt k hk).1)⟩
 rw [Hf.out, List.length_append, Hl.out, List.map_append]
 exact hown'

end Go.Proofs.YtkgddcemocfgfaaGreatDoor
end

section
/- The reference's Ints. -/



namespace Go.Proofs.YtkgddcemocfgfaaGreatDoor
open Go.RowKit
set_option linter.unusedVariables false
set_option maxRecDepth 100000

set_option maxHeartbeats 2000000 in
theorem refInts_any (A : Option Addr) (cap : Nat) (l : List Int) (w : World) (hr : Rd w w.heap.size A (l.map iv)) (hc : l.length ≤ cap) (hm : cap ≤ maxLen) (hs : l.length ≤ 100000000) (hI : ∀ n ∈ l, M.I64 n) :
  Calls Tryz.prog 53 #[.slice A l.length cap] w (Makes (M.encL M.encI l) w) := by
 obtain ⟨i0, hi, hz0, hz1, hz2⟩ := info_parts info_u8
 have hI0 := M.I64_nat l.length (by omega)
 have hlen := M.encI_len_le l.length hI0
 have hpos := M.encI_pos l.length
 unfold maxLen at hm
 go_enter Tryz.func53, Tryz.ntmps53
 go_wp2_with fail
 refine (refInt_any l.length _ hI0).mono ?_
 rintro e w0 ⟨v, rfl, hown, hbel⟩
 go_wp2_with fail
 go_loopw [3, 4] (fun x i wr => ∃ k : Nat, k ≤ l.length ∧ i = .int .i64 k ∧
   wr.ownsRow w.heap.size 5 1 x (M.encI l.length ++ (l.take k).flatMap M.encI).length ((M.encI l.length ++ (l.take k).flatMap M.encI).map bv) ∧ Below w.heap.size w wr) (fun _ i _ => l.length - (intOf i).toNat)
 case atStart => exact ⟨0, Nat.zero_le _, rfl, by simpa using hown, hbel⟩
 case round =>
  obtain ⟨k, hk, rfl, hown1, hbel1⟩ := hrel
  by_cases hlt : k < l.length
  ·obtain ⟨b, off, rfl, hb, hcell⟩ := hr (by simp; omega)
   obtain ⟨n, hn⟩ : ∃ n, n = l.getD k 0 := ⟨_, rfl⟩
   have hIn : M.I64 n := hI n (by rw [hn]; simp [List.getElem?_eq_getElem hlt])
   have hck : wr.cell? ⟨b, off + k, none⟩ = some (.int .i64 n) := (hbel1.cell hb).trans (hcell k (iv n) (by rw [hn]; simp [List.getElem?_eq_getElem hlt]))
   have hnext : (l.take (k + 1)).flatMap M.encI = (l.take k).flatMap M.encI ++ M.encI n := by
    rw [M.flat_take M.encI l k hlt, hn]; simp [List.getElem?_eq_getElem hlt]
   have hfl := M.flat_ints (l.take k) (fun n hn => hI n (List.mem_of_mem_take hn))
   have hfl2 : (l.take k).length ≤ 100000000 := by simp; omega
   obtain ⟨L, hL⟩ : ∃ L, L = M.encI l.length ++ (l.take k).flatMap M.encI := ⟨_, rfl⟩
   have hLl : L.length ≤ 900000009 := by rw [hL, List.length_append]; omega
   have hpos' := M.encI_pos n
   have hlen' := M.encI_len_le n hIn
   rw [← hL] at hown1
   have hnx : M.encI l.length ++ (l.take (k + 1)).flatMap M.encI = L ++ M.encI n := by rw [hnext, hL, List.append_assoc]
   have Hnx := Lib.hid hnx
   clear hcell hn hnext hfl hfl2 hL hnx
   have hBw := hbel1.size
   go_wp2_with fail
   refine (refInt_any n _ hIn).mono ?_
   rintro e w2 ⟨v2, rfl, hown2, hbel2⟩
   have hBw2 := hbel2.size
   obtain ⟨g, cap2, rfl, hg1, hg2, hg3, hg4, hcl⟩ := own_form hown2 (by omega)
   have hown1' := own_below hown1 hbel2 (Nat.le_refl _)
   have hmx : L.length + (M.encI n).length ≤ maxLen := by unfold maxLen; omega
   have Hcl := Lib.hid hcl
   have hll := own_len hown2
   have Hll := Lib.hid hll
   clear hcl hown2 hll
   go_wp2_with (at_builtin; refine wpList_append_own _ rfl (.tmp 14) (.tmp 19) 35 rfl w.heap.size 5 i0 (.int .u8 0) 1 1 Tryz.underlying35 hi hz0 hz1 hz2 rfl (by decide) _ _ _ rfl hown1' ⟨g, 0, none⟩ (M.encI n).length cap2 ((M.encI n).map bv) rfl Hll.out Hcl.out (one_cells _) hmx (by omega) (by omega) ?_; intro v' w3 hown' hgrow _)
   go_roundw
   case rel =>
    refine ⟨k + 1, by omega, by go_num, ?_, (hbel1.trans (hbel2.mono hBw)).grown hgrow (by omega) (fun j hj => (hown1.lt j hj).1)⟩
    rw [Hnx.out, List.length_append, List.map_append]
    exact hown'
   case measure => simp [intOf]; omega
  ·obtain rfl : k = l.length := by omega
   go_wp2_with fail
   go_ret
   refine ⟨_, rfl, ?_, hbel1⟩
   rw [List.take_length] at hown1
   exact hown1
end Go.Proofs.YtkgddcemocfgfaaGreatDoor
end

section
/- The reference's Strings. -/



namespace Go.Proofs.YtkgddcemocfgfaaGreatDoor
open Go.RowKit
set_option linter.unusedVariables false

set_option maxHeartbeats 2000000 in
theorem refStrings_any (A : Option Addr) (cap : Nat) (l : List ByteArray) (w : World) (hr : Rd w w.heap.size A (l.map sv)) (hc : l.length ≤ cap) (hm : cap ≤ maxLen) (hs : (l.flatMap encS).length ≤ 900000000) (hl : l.length ≤ 900000000) :
  Calls Tryz.prog 54 #[.slice A l.length cap] w (Makes (M.encL encS l) w) := by
 obtain ⟨i0, hi, hz0, hz1, hz2⟩ := info_parts info_u8
 have hI0 := M.I64_nat l.length (by omega)
 have hlen := M.encI_len_le l.length hI0
 have hpos := M.encI_pos l.length
 unfold maxLen at hm
 go_enter Tryz.func54, Tryz.ntmps54
 go_wp2_with fail
 refine (refInt_any l.length _ hI0).mono ?_
 rintro e w0 ⟨v, rfl, hown, hbel⟩
 go_wp2_with fail
 go_loopw [3, 4] (fun x i wr => ∃ k : Nat, k ≤ l.length ∧ i = .int .i64 k ∧
   wr.ownsRow w.heap.size 5 1 x (M.encI l.length ++ (l.take k).flatMap encS).length ((M.encI l.length ++ (l.take k).flatMap encS).map bv) ∧ Below w.heap.size w wr) (fun _ i _ => l.length - (intOf i).toNat)
 case atStart => exact ⟨0, Nat.zero_le _, rfl, by simpa using hown, hbel⟩
 case round =>
  obtain ⟨k, hk, rfl, hown1, hbel1⟩ := hrel
  by_cases hlt : k < l.length
  ·obtain ⟨b, off, rfl, hb, hcell⟩ := hr (by simp; omega)
   obtain ⟨n, hn⟩ : ∃ n, n = l.getD k ByteArray.empty := ⟨_, rfl⟩
   have hmem : n ∈ l := by rw [hn]; simp [List.getElem?_eq_getElem hlt]
   have hIn := M.flat_mem encS l n hmem
   have hck : wr.cell? ⟨b, off + k, none⟩ = some (.string n) := (hbel1.cell hb).trans (hcell k (sv n) (by rw [hn]; simp [List.getElem?_eq_getElem hlt]))
   have hnext : (l.take (k + 1)).flatMap encS = (l.take k).flatMap encS ++ encS n := by
    rw [M.flat_take encS l k hlt, hn]; simp [List.getElem?_eq_getElem hlt]
   have hfl := M.flat_part encS l k
   obtain ⟨L, hL⟩ : ∃ L, L = M.encI l.length ++ (l.take k).flatMap encS := ⟨_, rfl⟩
   have hLl : L.length ≤ 900000009 := by rw [hL, List.length_append]; omega
   have hpos' := encB_pos (sb n)
   have hlen' : (encS n).length ≤ 900000000 := by omega
   have hsz : n.size ≤ 900000000 := by have : (sb n).length ≤ (encS n).length := encB_ge (sb n); rw [sb_len] at this; omega
   rw [← hL] at hown1
   have hnx : M.encI l.length ++ (l.take (k + 1)).flatMap encS = L ++ encS n := by rw [hnext, hL, List.append_assoc]
   have Hnx := Lib.hid hnx
   clear hcell hn hnext hfl hL hnx hIn
   have hBw := hbel1.size
   go_wp2_with fail
   refine (refBytes_any n _ (by omega)).mono ?_
   rintro e w2 ⟨v2, rfl, hown2, hbel2⟩
   have hBw2 := hbel2.size
   obtain ⟨g, cap2, rfl, hg1, hg2, hg3, hg4, hcl⟩ := own_form hown2 (by omega)
   have hown1' := own_below hown1 hbel2 (Nat.le_refl _)
   have hmx : L.length + (encS n).length ≤ maxLen := by unfold maxLen; omega
   have Hcl := Lib.hid hcl
   have hll := own_len hown2
   have Hll := Lib.hid hll
   clear hcl hown2 hll
   go_wp2_with (at_builtin; refine wpList_append_own _ rfl (.tmp 14) (.tmp 19) 35 rfl w.heap.size 5 i0 (.int .u8 0) 1 1 Tryz.underlying35 hi hz0 hz1 hz2 rfl (by decide) _ _ _ rfl hown1' ⟨g, 0, none⟩ (encS n).length cap2 ((encS n).map bv) rfl Hll.out Hcl.out (one_cells _) hmx (by omega) (by omega) ?_; intro v' w3 hown' hgrow _)
   go_roundw
   case rel =>
    refine ⟨k + 1, by omega, by go_num, ?_, (hbel1.trans (hbel2.mono hBw)).grown hgrow (by omega) (fun j hj => (hown1.lt j hj).1)⟩
    rw [Hnx.out, List.length_append, List.map_append]
    exact hown'
   case measure => simp [intOf]; omega
  ·obtain rfl : k = l.length := by omega
   go_wp2_with fail
   go_ret
   refine ⟨_, rfl, ?_, hbel1⟩
   rw [List.take_length] at hown1
   exact hown1

end Go.Proofs.YtkgddcemocfgfaaGreatDoor
end

