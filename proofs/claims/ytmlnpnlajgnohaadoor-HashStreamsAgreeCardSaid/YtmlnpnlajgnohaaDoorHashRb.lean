/- The walk of HashSumMatchesSpec. -/
import Derived.Test.YtmlnpnlajgnohaaDoorHashRa
import Derived.Test.YtmlnpnlajgnohaaDoorHashU
import Derived.Test.YtmlnpnlajgnohaaDoorHashX
import Derived.Test.YtmlnpnlajgnohaaDoorEqRun
namespace Go.Proofs.YtmlnpnlajgnohaaDoor
open Go.RowKit
set_option linter.unusedVariables false

set_option maxHeartbeats 4000000 in
set_option maxRecDepth 100000 in
theorem sum_walk (A : Option Addr) (cap : Nat) (q : List UInt8) (W : World) (hR : RTab W) (hT : HTab W) (hr : RdB W W.heap.size A q) (hc : q.length ≤ cap) (hm : cap ≤ maxLen) :
    Calls Tryd.prog 3 #[.slice A q.length cap] W (Tells true W) := by
  obtain ⟨n, hn⟩ : ∃ n, n = q.length := ⟨_, rfl⟩
  have hml : n ≤ maxLen := by rw [hn]; omega
  unfold maxLen at hml
  rw [← hn]
  by_cases ha : 1000 < n
  · have hd : decide ((1000 : Int) < n) = true := by simp; omega
    have hd' : (1000 : Int) < n := by omega
    clear ha hn
    go_enter Tryd.func3, Tryd.ntmps3
    go_wp2_with fail
    refine (sanity_any W hT).mono ?_
    rintro e w1 ⟨rfl, hb1⟩
    clear hT hr
    go_wp2_with fail
    go_ret
    exact ⟨rfl, hb1⟩
  have hd : decide ((1000 : Int) < n) = false := by simp; omega
  have hd' : (n : Int) ≤ 1000 := by omega
  have hn1 : n ≤ 1000 := by omega
  obtain ⟨hz, -⟩ := zero_of_info sum_zero
  obtain ⟨Z, hZ⟩ : ∃ Z, Z = (H.zeros 32).map bv := ⟨_, rfl⟩
  rw [← hZ] at hz
  have lZ : Z.length = 32 := by rw [hZ, List.length_map, H.zeros_len]
  have K0 : Hid (St W [(A, q.map bv)] W) := Lib.hid ⟨Below.refl _ _, hT, Mem.one hr⟩
  have HR0 := Lib.hid hR
  have Hn := Lib.hid (And.intro hn hn1)
  have LZ := Lib.hid lZ
  clear ha hn hZ lZ hR hr
  go_enter Tryd.func3, Tryd.ntmps3
  go_wp2_with fail
  refine (sanity_any W hT).mono ?_
  rintro e w1 ⟨rfl, hb1⟩
  have K1 := Lib.hid (K0.out.step hb1)
  clear hT hb1 K0
  obtain ⟨s, hs⟩ : ∃ s, s = bs q := ⟨_, rfl⟩
  have hcv := conv_bytes w1 _ A q cap (K1.out.get A _ (.head _))
  rw [← Hn.out.1, ← hs] at hcv
  obtain ⟨h, hh⟩ : ∃ h, h = H.sha q := ⟨_, rfl⟩
  obtain ⟨R, hRR⟩ : ∃ R, R = h.map bv := ⟨_, rfl⟩
  have hhl : h.length = 32 := by rw [hh, H.sha_len]
  have lR : R.length = 32 := by rw [hRR, List.length_map, hhl]
  have oR : R.toArray.all (·.oneCell') = true := all_oneCell_toArray (by rw [hRR]; exact bytes_one _)
  have yR := size_sum lR
  have cS := hsum_any A cap q w1 (K1.out.get A _ (.head _)) (by rw [← Hn.out.1]; omega) K1.out.2.1
  rw [← Hn.out.1, ← hh, ← hRR] at cS
  have CS := Lib.hid cS
  have Hs := Lib.hid hs
  have HH := Lib.hid (And.intro hh (And.intro hRR hhl))
  have LR := Lib.hid lR
  have YR := Lib.hid yR
  clear cS hs hh hRR hhl lR yR
  go_wp2_with fail
  refine CS.out.mono ?_
  rintro e w2 ⟨rfl, hb2⟩
  obtain ⟨w3, hW3, t3, d3, e3⟩ := row_new w2 24 32 Z R LZ.out LR.out
  have K3 := Lib.hid (((K1.out.step hb2).step e3).add d3.rd)
  have HW3 := Lib.hid hW3
  have T3 := Lib.hid t3
  clear hW3 t3 d3 e3 hb2 hcv CS K1
  go_wp2_with (refine wpList_store_mid rfl 24 (.tmp 5) (.tmp 14) rfl w2.heap.size 0 R.toArray rfl rfl T3.out YR.out oR ?_; rw [← HW3.out])
  clear T3 HW3
  generalize w2.heap.size = V at *
  refine wp_region_guarded [15, 16, 17, 18, 19, 20, 21, 22, 23, 24, 25, 26, 27, 28] [.is (.bool true), .is (.bool true), .is (.agg R.toArray), .is (.string s), .bytes q, .is (.agg R.toArray), .is (.bool true), .is (.bool true), .is (.bool true), .is (.slice A n cap), .is (.string s), .is (.string s), .is (.bool true), .is (.bool true)] (by kernel_rfl) (by kernel_rfl) ?_ ?_
  · intro i hi b w' hb hd hx o ho
    match i, hi with
    | 0, _ => obtain rfl := Option.some.inj ho; exact ⟨hx 3 rfl, Below.refl _ _⟩
    | 1, _ => obtain rfl := Option.some.inj ho; exact ⟨hd 0 (by kernel_rfl) (by decide), Below.refl _ _⟩
    | 2, _ =>
      obtain rfl := Option.some.inj ho
      refine ⟨true, hd 1 (by kernel_rfl) (by decide), fun _ => ?_, fun h => absurd rfl h⟩
      have e5 : b.tmps.getD 5 undef = .pointer (some ⟨V, 0, none⟩) := hx 5 rfl
      have hld := run_loadAt_mid (P := Tryd.prog) w' V 0 24 R _ ((K3.out.step hb).get (some ⟨V, 0, none⟩) R (.head _)).range Tryd.underlying24 rfl (by rw [← List.size_toArray]; exact YR.out)
      rw [← e5] at hld
      exact runs_value rfl hld ⟨rfl, Below.refl _ _⟩
    | 3, _ =>
      obtain rfl := Option.some.inj ho
      exact ⟨true, hd 1 (by kernel_rfl) (by decide), fun _ => ⟨hx 4 rfl, Below.refl _ _⟩, fun h => absurd rfl h⟩
    | 4, _ =>
      obtain rfl := Option.some.inj ho
      refine ⟨true, hd 1 (by kernel_rfl) (by decide), fun _ => ?_, fun h => absurd rfl h⟩
      have e1 : b.tmps.getD 18 undef = .string s := hd 3 (by kernel_rfl) (by decide)
      have hsb : sb s = q := by rw [Hs.out, sb_bs]
      obtain ⟨W4, A4, c4, h1, h2, h3, h4, h5⟩ := conv_rdc w' s (by rw [← sb_len, hsb, ← Hn.out.1]; have := Hn.out.2; unfold maxLen; omega)
      rw [← e1] at h1
      rw [hsb] at h2
      exact runs_value rfl h1 ⟨⟨A4, c4, by rw [← hsb, sb_len], h2, by rw [← hsb, sb_len]; exact h3, h4⟩, h5⟩
    | 5, _ =>
      obtain rfl := Option.some.inj ho
      refine ⟨true, hd 1 (by kernel_rfl) (by decide), fun _ => ?_, fun h => absurd rfl h⟩
      obtain ⟨A', c', e3, h1, h2, h3⟩ := hd 4 (by kernel_rfl) (by decide)
      refine runs_call rfl (fun _ _ => rfl) ?_
      show Calls _ _ #[b.tmps.getD 19 undef] w' _
      rw [show b.tmps.getD 19 undef = _ from e3]
      have := refSum_any A' c' q w' h1 (by rw [← Hn.out.1]; have := Hn.out.2; omega) (HR0.out.below (K3.out.1.trans (hb.mono K3.out.1.size)) (Nat.le_refl _))
      rw [← HH.out.1, ← HH.out.2.1] at this
      exact this.mono fun e w'' h => ⟨_, h.1, rfl, h.2⟩
    | 6, _ =>
      obtain rfl := Option.some.inj ho
      refine ⟨true, hd 1 (by kernel_rfl) (by decide), fun _ => ?_, fun h => absurd rfl h⟩
      have e1 : b.tmps.getD 17 undef = .agg R.toArray := hd 2 (by kernel_rfl) (by decide)
      have e2 : b.tmps.getD 20 undef = .agg R.toArray := hd 5 (by kernel_rfl) (by decide)
      have hv := run_eql_sum (.tmp 17) (.tmp 20) h h HH.out.2.2 HH.out.2.2 w'
      rw [← HH.out.2.1, decide_eq_true rfl] at hv
      rw [show (Value.agg R.toArray) = b.tmps.getD 17 undef from e1.symm] at hv
      rw [e1] at hv
      refine runs_value (X := (do eqGuard .eql 24 (.tmp 17) (.tmp 20) (b.tmps.getD 17 undef) (b.tmps.getD 20 undef); binOp .eql 24 (b.tmps.getD 17 undef) (b.tmps.getD 20 undef))) rfl ?_ ⟨rfl, Below.refl _ _⟩
      rw [e1, e2]
      exact hv
    | 7, _ =>
      obtain rfl := Option.some.inj ho
      have e1 : b.tmps.getD 16 undef = .bool true := hd 1 (by kernel_rfl) (by decide)
      have e2 : b.tmps.getD 21 undef = .bool true := hd 6 (by kernel_rfl) (by decide)
      exact runs_pick rfl true e1 ⟨e2, Below.refl _ _⟩
    | 8, _ => obtain rfl := Option.some.inj ho; exact ⟨hd 7 (by kernel_rfl) (by decide), Below.refl _ _⟩
    | 9, _ =>
      obtain rfl := Option.some.inj ho
      exact ⟨true, hd 8 (by kernel_rfl) (by decide), fun _ => ⟨hx 0 rfl, Below.refl _ _⟩, fun h => absurd rfl h⟩
    | 10, _ =>
      obtain rfl := Option.some.inj ho
      refine ⟨true, hd 8 (by kernel_rfl) (by decide), fun _ => ?_, fun h => absurd rfl h⟩
      have e1 : b.tmps.getD 24 undef = .slice A n cap := hd 9 (by kernel_rfl) (by decide)
      have hcv := conv_bytes w' _ A q cap ((K3.out.step hb).get A (q.map bv) (.tail _ (.head _)))
      rw [← Hn.out.1, ← Hs.out, ← e1] at hcv
      exact runs_value rfl hcv ⟨rfl, Below.refl _ _⟩
    | 11, _ =>
      obtain rfl := Option.some.inj ho
      exact ⟨true, hd 8 (by kernel_rfl) (by decide), fun _ => ⟨hx 4 rfl, Below.refl _ _⟩, fun h => absurd rfl h⟩
    | 12, _ =>
      obtain rfl := Option.some.inj ho
      refine ⟨true, hd 8 (by kernel_rfl) (by decide), fun _ => ?_, fun h => absurd rfl h⟩
      have e1 : b.tmps.getD 25 undef = .string s := hd 10 (by kernel_rfl) (by decide)
      have e2 : b.tmps.getD 26 undef = .string s := hd 11 (by kernel_rfl) (by decide)
      have hv := run_eql_str (.tmp 25) (.tmp 26) s s w'
      rw [decide_eq_true rfl] at hv
      refine runs_value (X := (do eqGuard .eql 9 (.tmp 25) (.tmp 26) (b.tmps.getD 25 undef) (b.tmps.getD 26 undef); binOp .eql 9 (b.tmps.getD 25 undef) (b.tmps.getD 26 undef))) rfl ?_ ⟨rfl, Below.refl _ _⟩
      rw [e1, e2]
      exact hv
    | 13, _ =>
      obtain rfl := Option.some.inj ho
      have e1 : b.tmps.getD 23 undef = .bool true := hd 8 (by kernel_rfl) (by decide)
      have e2 : b.tmps.getD 27 undef = .bool true := hd 12 (by kernel_rfl) (by decide)
      exact runs_pick rfl true e1 ⟨e2, Below.refl _ _⟩
  · intro vals w4 hb hf
    have e13 : vals 13 = .bool true := hf 13 (by decide)
    simp only [puts, List.length_cons, List.length_nil, Nat.zero_add, Nat.reduceAdd, List.drop_succ_cons, List.drop_zero, e13]
    have hfin := Lib.hid (K3.out.1.trans (hb.mono K3.out.1.size))
    clear e13 hf hb
    go_frame
    go_wp2_with fail
    go_ret
    exact ⟨rfl, hfin.out⟩
end Go.Proofs.YtmlnpnlajgnohaaDoor
