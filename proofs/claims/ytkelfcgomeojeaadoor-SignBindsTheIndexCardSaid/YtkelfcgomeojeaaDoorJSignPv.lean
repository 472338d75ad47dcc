import Derived.Laws.MakeOwn
import Derived.Test.YtkelfcgomeojeaaDoorJSignPc
import Derived.Test.YtkelfcgomeojeaaDoorJSignPr
import Derived.Test.YtkelfcgomeojeaaDoorJSignPt
import Derived.Test.YtkelfcgomeojeaaDoorJSignRk
import Derived.Test.YtkelfcgomeojeaaDoorJSignRunB

section
/- The example of the signatures' chapter, reckoned by the kernel: the root, the digests of two messages, and that a signature of one leads for the other to another root. -/

namespace Go.Proofs.YtkelfcgomeojeaaDoor.Sg

theorem line_get (seed : List UInt8) (i c t : Nat) (hs : seed.length ≤ 64) (ht : t ≤ 3) : (lineF seed i c).getD t [] = adv i c 0 t (start seed i c) := by
  rw [start_fast seed i c hs]
  match t, ht with
  | 0, _ => rfl
  | 1, _ => rw [adv_fast]; rfl
  | 2, _ => rw [adv_fast, adv_fast]; rfl
  | 3, _ => rw [adv_fast, adv_fast, adv_fast]; rfl
theorem five_len : five.length ≤ 64 := by decide
def tab0 : List (List (List UInt8)) := tab00 ++ (tab01 ++ (tab02 ++ tab03))
def tab1 : List (List (List UInt8)) := tab10 ++ (tab11 ++ (tab12 ++ tab13))
theorem range68 : List.range 68 = (List.range 17).map (0 + ·) ++ ((List.range 17).map (17 + ·) ++ ((List.range 17).map (34 + ·) ++ (List.range 17).map (51 + ·))) := by decide
theorem tab0_is : (List.range 68).map (lineF five 0) = tab0 := by
  rw [range68, List.map_append, List.map_append, List.map_append, List.map_map, List.map_map, List.map_map, List.map_map]
  unfold tab0
  rw [← eq_of_beq tab00_is, ← eq_of_beq tab01_is, ← eq_of_beq tab02_is, ← eq_of_beq tab03_is]
  rfl
theorem tab1_is : (List.range 68).map (lineF five 1) = tab1 := by
  rw [range68, List.map_append, List.map_append, List.map_append, List.map_map, List.map_map, List.map_map, List.map_map]
  unfold tab1
  rw [← eq_of_beq tab10_is, ← eq_of_beq tab11_is, ← eq_of_beq tab12_is, ← eq_of_beq tab13_is]
  rfl
theorem tops_of (i : Nat) (tab : List (List (List UInt8))) (h : (List.range 68).map (lineF five i) = tab) : tops five i = tab.flatMap fun l => l.getD 3 [] := by
  rw [← h, List.flatMap_map]
  unfold tops top
  congr 1
  funext c
  exact (line_get five i c 3 five_len (by omega)).symm
noncomputable def leafF (l : List UInt8) : List UInt8 := ofF 1 [ofF 3 [l]]
theorem leaf_fast (l : List UInt8) : leafOf l = leafF l := by unfold leafOf leafF; rw [of_fast, of_fast]
noncomputable def nodeF (a b : List UInt8) : List UInt8 := ofF 2 [a, b]
theorem node_fast (a b : List UInt8) : node a b = nodeF a b := of_fast _ _
noncomputable def msgF (p : List UInt8) (i : Int) (m : List UInt8) : List UInt8 := ofF 4 [p, M.encI i, m]
theorem msg_fast (p : List UInt8) (i : Int) (m : List UInt8) : msg p i m = msgF p i m := of_fast _ _
noncomputable def advF (i c t : Nat) : Nat → List UInt8 → List UInt8
  | 0, v => v
  | n + 1, v => advF i c (t + 1) n (stepF i c t v)
theorem advs_fast (i c t n : Nat) (v : List UInt8) : adv i c t n v = advF i c t n v := by
  induction n generalizing t v with
  | zero => rfl
  | succ n ih => rw [adv_fast, ih]; rfl
def xL0 : List UInt8 := [57, 13, 44, 11, 124, 241, 52, 202, 78, 170, 151, 43, 111, 6, 194, 91]
def xL1 : List UInt8 := [246, 238, 40, 44, 203, 116, 193, 183, 28, 127, 28, 224, 102, 243, 193, 36]
def xP : List UInt8 := [63, 222, 13, 97, 98, 161, 189, 56, 185, 133, 123, 87, 40, 3, 112, 192]
def xM1 : List UInt8 := [157, 210, 247, 50, 75, 228, 237, 227, 114, 188, 193, 124, 67, 219, 48, 69]
def xM0 : List UInt8 := [116, 206, 13, 229, 151, 158, 249, 137, 78, 82, 213, 143, 87, 246, 39, 21]
def xN1 : List UInt8 := [152, 6, 136, 12, 87, 134, 33, 233, 4, 103, 68, 249, 113, 221, 78, 194]
def xLW : List UInt8 := [7, 6, 7, 98, 207, 146, 209, 33, 126, 174, 199, 132, 223, 191, 60, 201]
def xR : List UInt8 := [33, 115, 65, 225, 186, 133, 106, 80, 8, 152, 163, 234, 64, 97, 129, 179]
def xDM : List Nat := [2, 1, 3, 1, 3, 1, 0, 2, 3, 3, 1, 3, 0, 3, 0, 2, 1, 0, 2, 3, 3, 2, 1, 0, 3, 2, 3, 1, 3, 2, 0, 3, 1, 3, 0, 2, 2, 3, 3, 0, 3, 0, 0, 1, 1, 3, 3, 0, 1, 0, 0, 3, 3, 1, 2, 3, 0, 3, 0, 0, 1, 0, 1, 1, 1, 1, 2, 3]
def xDN : List Nat := [2, 1, 2, 0, 0, 0, 1, 2, 2, 0, 2, 0, 0, 0, 3, 0, 1, 1, 1, 3, 2, 0, 1, 2, 0, 2, 0, 1, 3, 2, 2, 1, 0, 0, 1, 0, 1, 2, 1, 3, 1, 0, 1, 0, 3, 3, 2, 1, 1, 3, 0, 1, 3, 1, 3, 1, 1, 0, 3, 2, 3, 0, 0, 2, 1, 3, 0, 0]
theorem L0_run : (leafF (tab0.flatMap fun l => l.getD 3 []) == xL0) = true := by kernel_rfl
theorem L1_run : (leafF (tab1.flatMap fun l => l.getD 3 []) == xL1) = true := by kernel_rfl
theorem leaf0 : leaf five 0 = xL0 := by
  unfold leaf
  rw [tops_of 0 tab0 tab0_is, leaf_fast, eq_of_beq L0_run]
theorem leaf1 : leaf five 1 = xL1 := by
  unfold leaf
  rw [tops_of 1 tab1 tab1_is, leaf_fast, eq_of_beq L1_run]
theorem P_run : (nodeF xL0 xL1 == xP) = true := by kernel_rfl
theorem root_is : root five 1 = xP := by
  show node (leaf five 0) (leaf five 1) = xP
  rw [leaf0, leaf1, node_fast, eq_of_beq P_run]
theorem M1_run : (msgF xP 1 [109] == xM1) = true := by kernel_rfl
theorem M0_run : (msgF xP 0 [109] == xM0) = true := by kernel_rfl
theorem N1_run : (msgF xP 1 [110] == xN1) = true := by kernel_rfl
theorem M1_is : msg (root five 1) 1 [109] = xM1 := by rw [root_is, msg_fast, eq_of_beq M1_run]
theorem N1_is : msg (root five 1) 1 [110] = xN1 := by rw [root_is, msg_fast, eq_of_beq N1_run]
/-- The digests of one message under two indices are apart. -/
theorem msgs_apart : msg (root five 1) 1 [109] ≠ msg (root five 1) 0 [109] := by
  rw [root_is, msg_fast, msg_fast, eq_of_beq M1_run, eq_of_beq M0_run]
  decide
theorem DM_is : digits xM1 = xDM := by decide +kernel
theorem DN_is : digits xN1 = xDN := by decide +kernel
theorem DM_le : ∀ c, xDM.getD c 0 ≤ 3 := by
  intro c
  by_cases h : c < 68
  · have : ∀ j : Fin 68, xDM.getD j.val 0 ≤ 3 := by decide +kernel
    exact this ⟨c, h⟩
  · have hl : xDM.length = 68 := rfl
    rw [List.getD_eq_getElem?_getD, List.getElem?_eq_none (by omega)]
    exact Nat.zero_le _
def pick (t : List (List (List UInt8))) (ds : List Nat) : List (List UInt8) := (List.range 68).map fun c => (t.getD c []).getD (ds.getD c 0) []
theorem shown_is : shown five 1 xDM = pick tab1 xDM := by
  unfold shown pick
  apply List.map_congr_left
  intro c hc
  have hc := List.mem_range.1 hc
  rw [← line_get five 1 c _ five_len (DM_le c), ← tab1_is]
  congr 1
  rw [List.getD_eq_getElem?_getD, List.getElem?_map, List.getElem?_range hc]
  rfl
noncomputable def reachF (i : Nat) (ds : List Nat) (vs : List (List UInt8)) : List UInt8 := leafF ((List.range 68).flatMap fun c => advF i c (ds.getD c 0) (3 - ds.getD c 0) (vs.getD c []))
theorem reach_fast (i : Nat) (ds : List Nat) (vs : List (List UInt8)) : reached i ds vs = reachF i ds vs := by
  unfold reached reachF
  rw [leaf_fast]
  congr 2
  funext c
  exact advs_fast _ _ _ _ _
theorem LW_run : (reachF 1 xDN (pick tab1 xDM) == xLW) = true := by kernel_rfl
theorem R_run : (nodeF xL0 xLW == xR) = true := by kernel_rfl
theorem beside_is : beside five 1 1 = [xL0] := by
  show [leaf five 0] = _
  rw [leaf0]
/-- The signature of one message leads for another one to another root. -/
theorem wrong : climb 1 (reached 1 (digits (msg (root five 1) 1 [110])) (shown five 1 (digits (msg (root five 1) 1 [109])))) (beside five 1 1) ≠ root five 1 := by
  rw [M1_is, N1_is, DM_is, DN_is, shown_is, reach_fast, eq_of_beq LW_run, beside_is, root_is]
  show node xL0 xLW ≠ xP
  rw [node_fast, eq_of_beq R_run]
  decide
end Go.Proofs.YtkelfcgomeojeaaDoor.Sg
end

section
/- The contract of sign.Sign. -/

namespace Go.Proofs.YtkelfcgomeojeaaDoor
open Go.RowKit
set_option linter.unusedVariables false
set_option maxRecDepth 100000

theorem run_cat (w : World) (a b : ByteArray) (ha : a.size ≤ 1000000) (hb : b.size ≤ 1000000) (x y : Operand) : (do eqGuard BinOp.add 9 x y (.string a) (.string b); binOp BinOp.add 9 (.string a) (.string b)).run Tryd.prog w = .ok (.string (a ++ b)) w := by
  go_simp
  omega
theorem cvs_len (i : Nat) (ds : List Nat) (sd : List UInt8) : (cvs i ds sd 68).length = 1088 := flat_len _ 68 fun c _ => adv_len _ _ _ _ _ (start_len _ _ _)

set_option maxHeartbeats 4000000 in
theorem sign_any (s : ByteArray) (h i : Int) (m : ByteArray) (w : World) (hm : m.size ≤ 100000000) (hI : M.I64 i) (hT : HTab w) :
    Calls Tryd.prog 14 #[.string s, .int .i64 h, .int .i64 i, .string m] w fun x w' => x = .returned (.tuple #[.string (bs (signS (sb s) h i (sb m)).1), .int .i64 (signS (sb s) h i (sb m)).2]) ∧ Below w.heap.size w w' := by
  have c1 := validSigner_any s h w
  by_cases hv : okS (sb s) h
  case neg =>
    have hp : signS (sb s) h i (sb m) = ([], 1) := if_neg hv
    rw [hp]
    have hdec : decide (s.size = 32 ∧ (0 : Int) ≤ h ∧ h ≤ 6) = false := by
      unfold okS at hv
      rw [sb_len] at hv
      exact decide_eq_false hv
    rw [hdec] at c1
    have C1 := Lib.hid c1
    clear hv hp hdec c1 hT
    go_enter Tryd.func14, Tryd.ntmps14
    go_wp2_with fail
    refine C1.out.mono ?_
    rintro x w1 ⟨rfl, hb1⟩
    have B1 := Lib.hid hb1
    clear hb1 C1
    go_wp2_with fail
    go_ret2
    exact ⟨rfl, B1.out⟩
  have hv' : s.size = 32 ∧ 0 ≤ h ∧ h ≤ 6 := by have := hv; unfold okS at this; rw [sb_len] at this; exact this
  have hdec : decide (s.size = 32 ∧ (0 : Int) ≤ h ∧ h ≤ 6) = true := decide_eq_true hv'
  rw [hdec] at c1
  obtain ⟨n, hn⟩ := Int.eq_ofNat_of_zero_le hv'.2.1
  subst hn
  have c2 := fun W => validIndex_any n i W (by omega)
  have C1 := Lib.hid c1
  by_cases hi : okI n i
  case neg =>
    have hp : signS (sb s) n i (sb m) = ([], 22) := (if_pos hv).trans (if_neg hi)
    rw [hp]
    rw [show decide (0 ≤ i ∧ i < ((2 ^ n : Nat) : Int)) = false from decide_eq_false hi] at c2
    have C2 := Lib.hid c2
    clear hv hp hdec c1 c2 hT hi hv'
    go_enter Tryd.func14, Tryd.ntmps14
    go_wp2_with fail
    refine C1.out.mono ?_
    rintro x w1 ⟨rfl, hb1⟩
    have B1 := Lib.hid hb1
    clear hb1 C1
    go_wp2_with fail
    refine (C2.out w1).mono ?_
    rintro x w2 ⟨rfl, hb2⟩
    have B2 := Lib.hid (B1.out.trans (hb2.mono B1.out.size))
    clear hb2 C2 B1
    go_wp2_with fail
    go_ret2
    exact ⟨rfl, B2.out⟩
  rw [show decide (0 ≤ i ∧ i < ((2 ^ n : Nat) : Int)) = true from decide_eq_true hi] at c2
  have C2 := Lib.hid c2
  by_cases hml : (sb m).length ≤ 1048576
  case neg =>
    have hp : signS (sb s) n i (sb m) = ([], 4) := (if_pos hv).trans ((if_pos hi).trans (if_neg hml))
    rw [hp]
    rw [sb_len] at hml
    have hl : (1048576 : Int) < m.size := by omega
    clear hv hp hdec c1 c2 hT hi hv' hml
    go_enter Tryd.func14, Tryd.ntmps14
    go_wp2_with fail
    refine C1.out.mono ?_
    rintro x w1 ⟨rfl, hb1⟩
    have B1 := Lib.hid hb1
    clear hb1 C1
    go_wp2_with fail
    refine (C2.out w1).mono ?_
    rintro x w2 ⟨rfl, hb2⟩
    have B2 := Lib.hid (B1.out.trans (hb2.mono B1.out.size))
    clear hb2 C2 B1
    go_wp2_with fail
    go_ret2
    exact ⟨rfl, B2.out⟩
  have hi0 := hi.1
  obtain ⟨k, hk⟩ := Int.eq_ofNat_of_zero_le hi0
  subst hk
  have hk2 : k < 2 ^ n := by have := hi.2; omega
  have hp : signS (sb s) n k (sb m) = (sigS (sb s) n k (sb m), 0) := (if_pos hv).trans ((if_pos hi).trans (if_pos hml))
  rw [hp]
  rw [sb_len] at hml
  have hl : (m.size : Int) ≤ 1048576 := by omega
  obtain ⟨hzd, -⟩ := zero_of_info dig_zero
  obtain ⟨Zd, hZd⟩ : ∃ Zd, Zd = (H.zeros 16).map bv := ⟨_, rfl⟩
  rw [← hZd] at hzd
  have lZd : Zd.length = 16 := by rw [hZd, List.length_map, H.zeros_len]
  have h2h : 2 ^ n ≤ 64 := Nat.pow_le_pow_right (n := 2) (by decide) (show n ≤ 6 by omega)
  obtain ⟨r, hr⟩ : ∃ r, r = Sg.root (sb s) n := ⟨_, rfl⟩
  have lr : r.length = 16 := by rw [hr, root_len]
  obtain ⟨G, hG⟩ : ∃ G, G = r.map bv := ⟨_, rfl⟩
  have lG : G.length = 16 := by rw [hG, List.length_map, lr]
  have yG := size_dig lG
  have oG : G.toArray.all (·.oneCell') = true := all_oneCell_toArray (by rw [hG]; exact bytes_one _)
  obtain ⟨pt, hpt⟩ : ∃ pt, pt = (Sg.beside (sb s) k n).flatten := ⟨_, rfl⟩
  have lpt : pt.length = 16 * n := by rw [hpt, beside_len]
  have c3 := fun W h => climb_any s n k W (by omega) (by omega) hk2 h
  rw [← hr, ← hG, ← hpt] at c3
  obtain ⟨d, hd⟩ : ∃ d, d = Sg.msg r (k : Int) (sb m) := ⟨_, rfl⟩
  have ld : d.length = 16 := by rw [hd]; exact Sg.of_len _ _
  have c4 := fun W h => msg_any r (k : Int) m W lr (by unfold M.I64; omega) (by omega) h
  rw [← hG, ← hd] at c4
  obtain ⟨D, hD⟩ : ∃ D, D = d.map bv := ⟨_, rfl⟩
  have c5 := fun W => digits_any d W ld
  rw [← hD] at c4 c5
  obtain ⟨ds, hds⟩ : ∃ ds, ds = Sg.digits d := ⟨_, rfl⟩
  rw [← hds] at c5
  have lds : ds.length = 68 := by rw [hds, digits_len d ld]
  have c6 := fun (A : Option Addr) W h h2 => chainValues_any k ds A 68 s W (by omega) h lds (by rw [hds]; exact digits_le d ld) (by omega) h2
  obtain ⟨cv, hcv⟩ : ∃ cv, cv = cvs k ds (sb s) 68 := ⟨_, rfl⟩
  have lcv : cv.length = 1088 := by rw [hcv, cvs_len]
  rw [← hcv] at c6
  obtain ⟨f, hf⟩ : ∃ f, f = M.encI (k : Int) := ⟨_, rfl⟩
  have lf : f.length ≤ 9 := by rw [hf]; exact M.encI_len_le _ hI
  have c7 := fun W => int_any (k : Int) W hI
  unfold IntPost at c7
  rw [← hf] at c7
  have hfin : sigS (sb s) n k (sb m) = f ++ cv ++ pt := by unfold sigS; rw [hf, hcv, hpt, hds, hd, hr]
  have C3 := Lib.hid c3
  have C4 := Lib.hid c4
  have C5 := Lib.hid c5
  have C6 := Lib.hid c6
  have C7 := Lib.hid c7
  have HF := Lib.hid hfin
  have LL := Lib.hid (And.intro lG lZd)
  have LC := Lib.hid (And.intro lcv (And.intro lpt lf))
  have YG := Lib.hid yG
  have HT := Lib.hid hT
  have H6 := Lib.hid hv'
  clear hv hp hdec c1 c2 c3 c4 c5 c6 c7 hT hi hv' hml hi0 hk2 hZd lZd hr lr hG lG yG hpt lpt hd ld hD hds lds hcv lcv hf lf hfin hI h2h
  go_enter Tryd.func14, Tryd.ntmps14
  go_wp2_with fail
  refine C1.out.mono ?_
  rintro x w1 ⟨rfl, hb1⟩
  have B1 := Lib.hid hb1
  clear hb1 C1
  go_wp2_with fail
  refine (C2.out w1).mono ?_
  rintro x w2 ⟨rfl, hb2⟩
  have B2 := Lib.hid (B1.out.trans (hb2.mono B1.out.size))
  clear hb2 C2 B1
  go_wp2_with fail
  refine (C3.out w2 (HT.out.below B2.out (Nat.le_refl _))).mono ?_
  rintro x w3 ⟨rfl, hb3⟩
  obtain ⟨W4, hW4, m1, m2, m3⟩ := row_new w3 23 16 Zd G LL.out.2 LL.out.1
  have b4 := B2.out.trans ((hb3.trans (m3.mono hb3.size)).mono B2.out.size)
  have M1 := Lib.hid m1
  have M2 := Lib.hid m2
  have HW4 := Lib.hid hW4
  have B4 := Lib.hid b4
  clear hb3 hW4 m1 m2 m3 b4 C3 B2
  go_wp2_with (first | (refine wpList_store_mid rfl 23 (.tmp 10) (.tmp 29) rfl w3.heap.size 0 G.toArray rfl rfl M1.out YG.out oG ?_; rw [← HW4.out]) | (refine wpList_load_row rfl 23 (.tmp 10) rfl w3.heap.size rfl _ G.toArray (0, 0) _ M2.out Tryd.underlying23 rfl YG.out ?_))
  refine (C4.out W4 (HT.out.below B4.out (Nat.le_refl _))).mono ?_
  rintro x w5 ⟨rfl, hb5⟩
  have B5 := Lib.hid (B4.out.trans (hb5.mono B4.out.size))
  clear hb5 C4 B4
  go_wp2_with fail
  refine (C5.out w5).mono ?_
  rintro x w6 ⟨rfl, hk6, hb6⟩
  have B6 := Lib.hid (B5.out.trans (hb6.mono B5.out.size))
  have K6 := Lib.hid hk6
  obtain ⟨Vb, hVb⟩ : ∃ Vb, Vb = w5.heap.size + 1 := ⟨_, rfl⟩
  rw [← hVb] at hk6 K6 ⊢
  clear hb6 C5 B5 hk6 hVb
  go_wp2_with fail
  try go_frame
  refine wp_region_list [36, 37, 38, 39, 40, 41, 42, 43, 44, 45] [.is (.int .i64 k), .bytes f, .is (.string (bs f)), .is (.string s), .is (.int .i64 k), .is (.slice (some ⟨Vb, 0, none⟩) 68 68), .is (.string (bs cv)), .is (.string (bs f ++ bs cv)), .is (.string (bs pt)), .is (.string (bs f ++ bs cv ++ bs pt))] (by kernel_rfl) (by kernel_rfl) ?_ ?_
  · intro z hz b w' hb hd hx o ho
    match z, hz with
    | 0, _ =>
      obtain rfl := Option.some.inj ho
      exact ⟨hx 2 rfl, Below.refl _ _⟩
    | 1, _ =>
      obtain rfl := Option.some.inj ho
      have e2 : b.tmps.getD 36 undef = .int .i64 k := hd 0 (by kernel_rfl) (by decide)
      refine runs_call rfl (fun _ _ => rfl) ?_
      show Calls _ _ #[b.tmps.getD 36 undef] w' _
      rw [e2]
      refine (C7.out w').mono fun e w'' h => ?_
      obtain ⟨v, h1, hown, hb1⟩ := h
      obtain ⟨A', c', rfl, h2, h3, h4⟩ := own_rd (B := 0) hown
      exact ⟨_, h1, ⟨A', c', rfl, h2, h3, h4⟩, hb1⟩
    | 2, _ =>
      obtain rfl := Option.some.inj ho
      obtain ⟨A', c', e2, h1, h2, h3⟩ := hd 1 (by kernel_rfl) (by decide)
      have hcv := conv_bytes w' _ A' f c' h1
      rw [← show b.tmps.getD 37 undef = _ from e2] at hcv
      exact runs_value rfl hcv ⟨rfl, Below.refl _ _⟩
    | 3, _ =>
      obtain rfl := Option.some.inj ho
      exact ⟨hx 0 rfl, Below.refl _ _⟩
    | 4, _ =>
      obtain rfl := Option.some.inj ho
      exact ⟨hx 2 rfl, Below.refl _ _⟩
    | 5, _ =>
      obtain rfl := Option.some.inj ho
      exact ⟨hx 12 rfl, Below.refl _ _⟩
    | 6, _ =>
      obtain rfl := Option.some.inj ho
      have e1 : b.tmps.getD 39 undef = .string s := hd 3 (by kernel_rfl) (by decide)
      have e2 : b.tmps.getD 40 undef = .int .i64 k := hd 4 (by kernel_rfl) (by decide)
      have e3 : b.tmps.getD 41 undef = .slice (some ⟨Vb, 0, none⟩) 68 68 := hd 5 (by kernel_rfl) (by decide)
      refine runs_call rfl (fun _ _ => rfl) ?_
      show Calls _ _ #[b.tmps.getD 39 undef, b.tmps.getD 40 undef, b.tmps.getD 41 undef] w' _
      rw [e1, e2, e3]
      exact (C6.out _ w' (K6.out.below hb K6.out.lt).rd (HT.out.below (B6.out.trans (hb.mono B6.out.size)) (Nat.le_refl _))).mono fun e w'' h => ⟨_, h.1, rfl, h.2⟩
    | 7, _ =>
      obtain rfl := Option.some.inj ho
      have e1 : b.tmps.getD 38 undef = .string (bs f) := hd 2 (by kernel_rfl) (by decide)
      have e2 : b.tmps.getD 42 undef = .string (bs cv) := hd 6 (by kernel_rfl) (by decide)
      have hr := run_cat w' (bs f) (bs cv) (by rw [bbytes_size]; have := LC.out.2.2; omega) (by rw [bbytes_size]; have := LC.out.1; omega) (.tmp 38) (.tmp 42)
      rw [← e1, ← e2] at hr
      exact runs_value rfl hr ⟨rfl, Below.refl _ _⟩
    | 8, _ =>
      obtain rfl := Option.some.inj ho
      exact ⟨hx 11 rfl, Below.refl _ _⟩
    | 9, _ =>
      obtain rfl := Option.some.inj ho
      have e1 : b.tmps.getD 43 undef = .string (bs f ++ bs cv) := hd 7 (by kernel_rfl) (by decide)
      have e2 : b.tmps.getD 44 undef = .string (bs pt) := hd 8 (by kernel_rfl) (by decide)
      have hr := run_cat w' (bs f ++ bs cv) (bs pt) (by rw [bs_append, bbytes_size, List.length_append]; have := LC.out.2.2; have := LC.out.1; omega) (by rw [bbytes_size]; have := LC.out.2.1; have := H6.out.2.2; omega) (.tmp 43) (.tmp 44)
      rw [← e1, ← e2] at hr
      exact runs_value rfl hr ⟨rfl, Below.refl _ _⟩
  · intro vals w' hb hf
    have e9 : vals 9 = .string (bs f ++ bs cv ++ bs pt) := hf 9 (by decide)
    simp only [puts, List.length_cons, List.length_nil, Nat.zero_add, Nat.reduceAdd, List.drop_succ_cons, List.drop_zero, e9]
    have hB := Lib.hid (B6.out.trans (hb.mono B6.out.size))
    rw [bs_append, bs_append, ← HF.out]
    clear e9 hb hf
    go_frame
    go_wp2_with fail
    go_ret2
    exact ⟨rfl, hB.out⟩
end Go.Proofs.YtkelfcgomeojeaaDoor
end

section
/- The contract of dioramalaw03.seed. -/


namespace Go.Proofs.YtkelfcgomeojeaaDoor
open Go.RowKit
set_option linter.unusedVariables false
set_option maxRecDepth 100000

def sdA (c : UInt8) (k : Nat) : List Value := (List.replicate k c).map bv ++ List.replicate (32 - k) (bv 0)
theorem make_seed (w : World) : (Instr.makeSlice 51 (.int .i64 32) (.int .i64 32)).run Tryd.prog w = .ok (.slice (some ⟨w.heap.size, 0, none⟩) 32 32) (w.alloc (.cells (sdA 0 0).toArray 5)) := by
  obtain ⟨i0, hi, hz0, hz1, hz2⟩ := info_parts info_u8
  have hmk := run_makeSlice (P := Tryd.prog) w 51 5 i0 (.int .u8 0) Tryd.underlying51 hi hz0 .i64 .i64 32 32 (by omega) (by omega) (by rw [hz1]; decide) (by rw [hz2]; decide) (by omega)
  rw [hz1, show madeCells (Value.int .u8 0).cells (Int.toNat 32 * 1) = (sdA 0 0).toArray by kernel_rfl] at hmk
  exact hmk

set_option maxHeartbeats 2000000 in
theorem seed_any (c : UInt8) (w : World) : Calls Tryd.prog 20 #[.int .u8 (c.toNat : Int)] w fun x w' => x = .returned (.string (bs (List.replicate 32 c))) ∧ Below w.heap.size w w' := by
  have hmk := make_seed w
  obtain ⟨W0, hW0⟩ : ∃ W0, W0 = w.alloc (.cells (sdA 0 0).toArray 5) := ⟨_, rfl⟩
  have hb0 : Blk W0 w.heap.size (sdA c 0) 5 ∧ Below w.heap.size w W0 := by
    rw [hW0]
    exact ⟨Blk.new w _ _, (Below.refl _ _).alloc (Nat.le_refl _) _⟩
  have HW0 := Lib.hid hW0
  have H0 := Lib.hid hb0
  clear hb0 hW0
  go_enter Tryd.func20, Tryd.ntmps20
  go_wp2_with fail
  rw [← HW0.out]
  clear hmk
  go_loopw [4] (fun i wr => ∃ k : Nat, k ≤ 32 ∧ i = .int .i64 k ∧ Blk wr w.heap.size (sdA c k) 5 ∧ Below w.heap.size w wr) (fun i _ => 32 - (intOf i).toNat)
  case atStart => exact ⟨0, by omega, rfl, H0.out⟩
  case round =>
    clear H0
    obtain ⟨k, hk, rfl, hB, hbel⟩ := hrel
    by_cases hlt : k < 32
    · have ik : (k : Int) < 32 := by omega
      have ik0 : (0 : Int) ≤ k := by omega
      have hat : (sdA c k)[k]? = some (bv 0) := fill_at _ k 32 _ (by simp) hlt
      have g1 : wr.cell? ⟨w.heap.size, k, none⟩ = some (bv 0) := hB.cell k _ hat
      have f1 : wr.frozen? ⟨w.heap.size, k, none⟩ = false := hB.frozen _
      have hB2 := hB.set k (bv c)
      unfold sdA at hB2
      rw [fill_set _ k 32 _ _ (by simp) hlt, show (List.replicate k c).map bv ++ [bv c] = (List.replicate (k + 1) c).map bv from by rw [List.replicate_succ', List.map_append]; rfl] at hB2
      have hbel2 : Below w.heap.size w (wr.setCell ⟨w.heap.size, k, none⟩ (bv c)) := hbel.setCell (by exact Nat.le_refl _) _
      have K := Lib.hid (And.intro hB2 hbel2)
      unfold bv at K g1
      clear hat hB hB2 hbel hbel2
      go_wp2_with fail
      exact ⟨⟨k + 1, by omega, by go_num, K.out⟩, by simp [intOf]; omega⟩
    · have hk3 : k = 32 := by omega
      have ik : (32 : Int) ≤ k := by omega
      rw [hk3] at hB
      have e : sdA c 32 = (List.replicate 32 c).map bv := by unfold sdA; simp
      rw [e] at hB
      obtain ⟨q, hq⟩ : ∃ q, q = List.replicate 32 c := ⟨_, rfl⟩
      have lq : q.length = 32 := by rw [hq]; simp
      rw [← hq] at hB
      have hr : RdB wr (w.heap.size + 1) (some ⟨w.heap.size, 0, none⟩) q := fun _ => ⟨w.heap.size, 0, rfl, by omega, fun j u hu => by rw [Nat.zero_add]; exact hB.cell j u hu⟩
      have hcv := conv_bytes wr _ _ q 32 hr
      rw [lq] at hcv
      have B := Lib.hid hbel
      have HQ := Lib.hid hq
      clear hB hbel e hr hq
      go_wp2_with fail
      go_ret
      exact ⟨by rw [← HQ.out]; rfl, B.out⟩
end Go.Proofs.YtkelfcgomeojeaaDoor
end

section
/- What sanity calls, with what it gets. -/





namespace Go.Proofs.YtkelfcgomeojeaaDoor
open Go.RowKit
set_option linter.unusedVariables false
set_option maxRecDepth 100000

def rt5 : List UInt8 := Sg.root Sg.five 1
def sg5 : List UInt8 := sigS Sg.five 1 1 [109]
theorem rt5_len : rt5.length = 16 := root_len _ _
theorem pub5 : pubS Sg.five 1 = (rt5, 0) := if_pos (by decide)
theorem sign5 : signS Sg.five 1 1 [109] = (sg5, 0) := by
  unfold signS
  rw [if_pos (show okS Sg.five 1 by decide), if_pos (show okI (1 : Int).toNat 1 by decide), if_pos (by decide)]
  rfl
theorem spent5 : signS Sg.five 1 2 [109] = ([], 22) := by
  unfold signS
  rw [if_pos (show okS Sg.five 1 by decide), if_neg (show ¬ okI (1 : Int).toNat 2 by decide)]
theorem short5 : pubS (Sg.five.drop 1) 0 = (H.zeros 16, 1) := if_neg (by decide)
theorem ver5 : verS rt5 1 [109] sg5 = (1, 0) := accepted Sg.five 1 1 [109] (by decide) (by decide) (by decide)
theorem one_I64 : M.I64 1 := by unfold M.I64; decide
theorem sg5_get : M.getI sg5 = (1, (M.encI 1).length, 0) := by
  unfold sg5 sigS
  rw [List.append_assoc]
  exact M.getI_encI 1 one_I64 _
theorem wrong5 : verS rt5 1 [110] sg5 = (0, 10) := by
  unfold verS
  rw [sg5_get, if_pos (by decide), if_pos (by decide), if_pos rfl]
  have hd : sg5.drop (M.encI 1).length = cvs 1 (Sg.digits (Sg.msg rt5 1 [109])) Sg.five 68 ++ (Sg.beside Sg.five 1 1).flatten := drop_sig Sg.five 1 1 [109]
  simp only
  rw [hd, if_pos, if_neg]
  · show ¬ topS rt5 1 1 [110] _ = rt5
    rw [top_of]
    exact Sg.wrong
  · refine ⟨by decide, ?_⟩
    rw [List.length_append, cvs_size, beside_len]
    rfl
theorem sg5_size : sg5.length ≤ 10000 := by
  unfold sg5 sigS
  rw [List.length_append, List.length_append, cvs_size, beside_len]
  have : (M.encI ((1 : Nat) : Int)).length ≤ 9 := M.encI_len_le 1 one_I64
  omega
theorem sSeed (w : World) : Calls Tryd.prog 20 #[.int .u8 5] w fun x w' => x = .returned (.string (bs Sg.five)) ∧ Below w.heap.size w w' := seed_any 5 w
theorem sPublic (fs : ByteArray) (P : List Value) (w : World) (hf : fs = bs Sg.five) (hP : P = rt5.map bv) (hT : HTab w) :
    Calls Tryd.prog 12 #[.string fs, .int .i64 1] w fun x w' => x = .returned (.tuple #[.agg P.toArray, .int .i64 0]) ∧ Below w.heap.size w w' := by
  have h := public_any fs 1 w hT
  rw [hf, sb_bs, pub5] at h
  rw [hf, hP]
  exact h
theorem sSign (fs sg : ByteArray) (w : World) (hf : fs = bs Sg.five) (hs : sg = bs sg5) (hT : HTab w) :
    Calls Tryd.prog 14 #[.string fs, .int .i64 1, .int .i64 1, .string { data := #[109] }] w fun x w' => x = .returned (.tuple #[.string sg, .int .i64 0]) ∧ Below w.heap.size w w' := by
  have h := sign_any fs 1 1 { data := #[109] } w (by decide) one_I64 hT
  rw [hf, sb_bs, show sb { data := #[109] } = [109] from rfl, sign5] at h
  rw [hf, hs]
  exact h
theorem sVer (sg : ByteArray) (P : List Value) (w : World) (hP : P = rt5.map bv) (hs : sg = bs sg5) (hT : HTab w) :
    Calls Tryd.prog 18 #[.agg P.toArray, .int .i64 1, .string { data := #[109] }, .string sg] w fun x w' => x = .returned (.tuple #[.int .i64 1, .int .i64 0]) ∧ Below w.heap.size w w' := by
  have h := verify_any rt5 1 { data := #[109] } sg w rt5_len (by decide) (by rw [hs, bbytes_size]; have := sg5_size; omega) hT
  rw [hs, sb_bs, show sb { data := #[109] } = [109] from rfl, ver5] at h
  rw [hs, hP]
  exact h
theorem sWrong (sg : ByteArray) (P : List Value) (w : World) (hP : P = rt5.map bv) (hs : sg = bs sg5) (hT : HTab w) :
    Calls Tryd.prog 18 #[.agg P.toArray, .int .i64 1, .string { data := #[110] }, .string sg] w fun x w' => x = .returned (.tuple #[.int .i64 0, .int .i64 10]) ∧ Below w.heap.size w w' := by
  have h := verify_any rt5 1 { data := #[110] } sg w rt5_len (by decide) (by rw [hs, bbytes_size]; have := sg5_size; omega) hT
  rw [hs, sb_bs, show sb { data := #[110] } = [110] from rfl, wrong5] at h
  rw [hs, hP]
  exact h
theorem sSpent (fs : ByteArray) (w : World) (hf : fs = bs Sg.five) (hT : HTab w) :
    Calls Tryd.prog 14 #[.string fs, .int .i64 1, .int .i64 2, .string { data := #[109] }] w fun x w' => x = .returned (.tuple #[.string (bs []), .int .i64 22]) ∧ Below w.heap.size w w' := by
  have h := sign_any fs 1 2 { data := #[109] } w (by decide) (by unfold M.I64; decide) hT
  rw [hf, sb_bs, show sb { data := #[109] } = [109] from rfl, spent5] at h
  rw [hf]
  exact h
theorem sShort (x : ByteArray) (Zd : List Value) (w : World) (hx : sb x = Sg.five.drop 1) (hZ : Zd = (H.zeros 16).map bv) (hT : HTab w) :
    Calls Tryd.prog 12 #[.string x, .int .i64 0] w fun e w' => e = .returned (.tuple #[.agg Zd.toArray, .int .i64 1]) ∧ Below w.heap.size w w' := by
  have h := public_any x 0 w hT
  rw [hx, short5] at h
  rw [hZ]
  exact h
theorem sDigest (P : List Value) (i : Int) (D : List Value) (w : World) (hP : P = rt5.map bv) (hi : M.I64 i) (hD : D = (Sg.msg rt5 i [109]).map bv) (hT : HTab w) :
    Calls Tryd.prog 16 #[.agg P.toArray, .int .i64 i, .string { data := #[109] }] w fun x w' => x = .returned (.agg D.toArray) ∧ Below w.heap.size w w' := by
  rw [hP, hD]
  exact msg_any rt5 i { data := #[109] } w rt5_len hi (by decide) hT
/-- Operations of the last line. -/
theorem run_eql_int (w : World) (n : Int) (X Y : Operand) : (do eqGuard .eql 3 X Y (.int .i64 n) (.int .i64 n); binOp .eql 3 (.int .i64 n) (.int .i64 n) : Sem Value).run Tryd.prog w = .ok (.bool true) w := by
  go_simp
theorem run_eql_err (w : World) (n : Int) (X Y : Operand) : (do eqGuard .eql 29 X Y (.int .i64 n) (.int .i64 n); binOp .eql 29 (.int .i64 n) (.int .i64 n) : Sem Value).run Tryd.prog w = .ok (.bool true) w := by
  go_simp
theorem run_neq_dig (X Y : Operand) (C D : List UInt8) (hC : C.length = 16) (hD : D.length = 16) (hne : C ≠ D) (w : World) :
    (do eqGuard .neq 23 X Y (.agg (C.map bv).toArray) (.agg (D.map bv).toArray); binOp .neq 23 (.agg (C.map bv).toArray) (.agg (D.map bv).toArray) : Sem Value).run Tryd.prog w = .ok (.bool true) w := by
  have h := eq_dig C D hC hD w
  rw [decide_eq_false hne] at h
  have hg : Tryd.prog.eqGuardType Tryd.prog.depth 23 = false := by kernel_rfl
  go_simp
theorem run_at (w : World) (b k : Nat) (hk : k < 68) : (Instr.indexAt 25 (.slice (some ⟨b, 0, none⟩) 68 68) (.int .i64 k)).run Tryd.prog w = .ok (.pointer (some ⟨b, k, none⟩)) w := by
  have h1 : (k : Int) < 68 := by omega
  have h2 : (0 : Int) ≤ k := by omega
  go_simp
theorem run_get (w : World) (b k : Nat) (v : Int) (h : w.cell? ⟨b, k, none⟩ = some (.int .i64 v)) : (Instr.loadAt 3 (.pointer (some ⟨b, k, none⟩))).run Tryd.prog w = .ok (.int .i64 v) w := by
  go_simp
end Go.Proofs.YtkelfcgomeojeaaDoor
end

