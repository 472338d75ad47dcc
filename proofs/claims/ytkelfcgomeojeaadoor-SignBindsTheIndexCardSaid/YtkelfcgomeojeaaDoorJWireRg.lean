import Derived.Test.YtkelfcgomeojeaaDoorJWireD
import Derived.Test.YtkelfcgomeojeaaDoorJWireK0
import Derived.Test.YtkelfcgomeojeaaDoorJWireMathG
import Derived.Test.YtkelfcgomeojeaaDoorJWireRd1

section
/- The reference's GetInt. -/





namespace Go.Proofs.YtkelfcgomeojeaaDoor
open Go.RowKit
set_option linter.unusedVariables false
set_option maxRecDepth 100000

theorem rdb_piece {w : World} {B cap : Nat} {A : Option Addr} {l : List UInt8} (h : RdB w B A l) {lo n : Nat} (hh : lo + n ≤ l.length) (hc : l.length ≤ cap) : RdB w B (cutA A lo cap) ((l.drop lo).take n) := by
  have := Rd.cut (lo := lo) (hi := lo + n) (cap := cap) h (by rw [List.length_map]; exact hh) (by omega)
  unfold RdB
  rw [List.map_take, List.map_drop]
  rw [List.drop_take, show lo + n - lo = n by omega] at this
  exact this
set_option maxHeartbeats 4000000 in
set_option maxRecDepth 100000 in
theorem refGetInt_any (A : Option Addr) (cap : Nat) (l : List UInt8) (w : World) (hr : RdB w w.heap.size A l) (hc : l.length ≤ cap) (hm : cap ≤ maxLen) :
    Calls Tryd.prog 39 #[.slice A l.length cap] w fun e w' => e = .returned (I3 (M.getI l).1 (M.getI l).2.1 (M.getI l).2.2) ∧ Below w.heap.size w w' := by
  unfold maxLen at hm
  cases l with
  | nil =>
    go_enter Tryd.func39, Tryd.ntmps39
    go_wp2_with fail
    go_ret3
    exact ⟨rfl, Below.refl _ _⟩
  | cons c rest =>
    have hC := c.toNat_lt
    have hCi : (c.toNat : Int) ≤ 255 := by omega
    obtain ⟨b, off, rfl, hb, hcell⟩ := hr (by simp)
    have hc0 : w.cell? ⟨b, off, none⟩ = some (.int .u8 (c.toNat : Int)) := hcell 0 (bv c) rfl
    have Hcell := Lib.hid hcell
    clear hcell
    rw [List.length_cons] at hc ⊢
    obtain ⟨K, hK⟩ : ∃ K, K = M.kOf c := ⟨_, rfl⟩
    by_cases hneg : c.toNat < 128
    · have hflip : decide (c.toNat < 128) = true := by simp; omega
      have hKv : K = 127 - c.toNat := by rw [hK]; unfold M.kOf; rw [if_pos hneg]
      have hci : (c.toNat : Int) < 128 := by omega
      by_cases h8 : 8 < K
      · have hg : M.getI (c :: rest) = (0, 0, 2) := by rw [M.getI_cons, if_pos (by omega)]
        rw [hg]
        have hh : (c.toNat : Int) < 119 := by omega
        clear hg hr Hcell hK hKv
        go_enter Tryd.func39, Tryd.ntmps39
        go_wp2_with fail
        go_ret3
        exact ⟨rfl, Below.refl _ _⟩
      have hh1 : (119 : Int) ≤ c.toNat := by omega
      have hh2 : (c.toNat : Int) ≤ 136 := by omega
      by_cases hl : rest.length < K
      · have hg : M.getI (c :: rest) = (0, 0, 3) := by rw [M.getI_cons, if_neg (by omega), if_pos (by omega)]
        rw [hg]
        have hl' : (rest.length : Int) < 127 - (c.toNat : Int) := by omega
        clear hg hr Hcell hK hKv
        go_enter Tryd.func39, Tryd.ntmps39
        go_wp2_with fail
        go_ret3
        exact ⟨rfl, Below.refl _ _⟩
      obtain ⟨F, hF⟩ : ∃ F, F = (rest.take K).map (M.flip true) := ⟨_, rfl⟩
      have hFl : F.length = K := by rw [hF, List.length_map, List.length_take]; omega
      have hX : M.mOf c rest = M.val F := by unfold M.mOf; rw [hF, hK, hflip]
      have hFd : ∀ j (h : j < K), ∃ d f : UInt8, rest[j]? = some d ∧ F[j]? = some f ∧ (f.toNat : Int) = 255 - (d.toNat : Int) := fun j h => by
        refine ⟨rest[j], F[j]'(by omega), List.getElem?_eq_getElem (by omega), List.getElem?_eq_getElem _, ?_⟩
        have : F[j]'(by omega) = M.flip true rest[j] := by simp [hF]
        rw [this]
        rw [M.flip_toNat]; have := (rest[j]).toNat_lt; omega
      have hgreat := M.getI_great c rest (by omega) (by omega)
      have hyes := M.getI_yes c rest (by omega) (by omega)
      have hno := M.getI_no c rest (by omega) (by omega)
      rw [hX] at hgreat hyes hno
      rw [← hK] at hyes hno
      have hiK : 127 - (c.toNat : Int) = K := by omega
      have hKl : (K : Int) ≤ rest.length := by omega
      have hbig := fun j (h : j < K) => M.val_big F j (by omega)
      have hnext : ∀ j (h : j < K), ∃ f : UInt8, F[j]? = some f ∧ M.val (F.take (j + 1)) = M.val (F.take j) * 256 + f.toNat := fun j h => ⟨F[j]'(by omega), List.getElem?_eq_getElem _, M.val_next F j (by omega)⟩
      have Hgreat := Lib.hid hgreat
      have Hyes := Lib.hid hyes
      have Hno := Lib.hid hno
      have Hbig := Lib.hid hbig
      have Hnext := Lib.hid hnext
      have HFd := Lib.hid hFd
      have Hr := Lib.hid hr
      have HiK := Lib.hid hiK
      have HFl := Lib.hid hFl
      clear hgreat hyes hno hbig hnext hFd hF hX hr hflip hiK hK hKv
      go_enter Tryd.func39, Tryd.ntmps39
      have hiK := HiK.out
      go_wp2_with fail
      clear hiK
      go_loopw [7, 8] (fun m i wr => ∃ p : Nat, 1 ≤ p ∧ p ≤ K + 1 ∧ i = .int .i64 p ∧ m = .int .i64 (M.val (F.take (p - 1)) : Nat) ∧ M.val (F.take (p - 1)) ≤ 9223372036854775807 ∧ Below w.heap.size w wr) (fun _ i _ => K + 1 - (intOf i).toNat)
      case atStart => exact ⟨1, Nat.le_refl _, by omega, rfl, by simp [M.val], by simp [M.val], Below.refl _ _⟩
      case round =>
        obtain ⟨p, hp1, hpK, rfl, rfl, hV, hbel⟩ := hrel
        obtain ⟨V, hVe⟩ : ∃ V, V = M.val (F.take (p - 1)) := ⟨_, rfl⟩
        rw [← hVe] at hV ⊢
        by_cases hlt : p ≤ K
        · obtain ⟨d, f, hd, hf, hfd⟩ := HFd.out (p - 1) (by omega)
          obtain ⟨f', hf', hnx⟩ := Hnext.out (p - 1) (by omega)
          obtain rfl : f' = f := by rw [hf] at hf'; exact (Option.some.inj hf').symm
          have hck : wr.cell? ⟨b, off + p, none⟩ = some (.int .u8 (d.toNat : Int)) := (hbel.cell hb).trans (Hcell.out p (bv d) (by
            obtain ⟨q, rfl⟩ : ∃ q, p = q + 1 := ⟨p - 1, by omega⟩
            have hd' : rest[q]? = some d := hd
            rw [List.map_cons, List.getElem?_cons_succ, List.getElem?_map, hd']; rfl))
          have i0 : (0 : Int) ≤ p := by omega
          have i1 : (p : Int) ≤ K := by omega
          have i2 : (p : Int) < rest.length + 1 := by omega
          have d0 : (0 : Int) ≤ d.toNat := by omega
          have d1 : (d.toNat : Int) ≤ 255 := by have := d.toNat_lt; omega
          have hpp : p - 1 + 1 = p := by omega
          rw [hpp] at hnx
          rw [← hVe] at hnx
          have Hnx := Lib.hid hnx
          have Hfd := Lib.hid hfd
          by_cases hb55 : 36028797018963967 < V
          · have hres := Hgreat.out (Hbig.out (p - 1) (by omega) (by rw [← hVe]; exact hb55))
            have Hres := Lib.hid hres
            have v1 : (36028797018963967 : Int) < V := by omega
            clear hd hf hfd hf' hnx hres hVe
            go_wp2_with fail
            go_ret3
            exact ⟨by rw [Hres.out]; rfl, hbel⟩
          · have v1 : (V : Int) ≤ 36028797018963967 := by omega
            clear hd hf hfd hf' hnx hVe
            go_wp2_with fail
            go_roundw
            case rel => exact ⟨p + 1, by omega, by omega, by go_num, by rw [Nat.add_sub_cancel, Hnx.out]; congr 1; have := Hfd.out; omega, by rw [Nat.add_sub_cancel, Hnx.out]; have := Hfd.out; omega, hbel⟩
            case measure => simp [intOf]; omega
        · obtain rfl : p = K + 1 := by omega
          have hVF : V = M.val F := by rw [hVe, Nat.add_sub_cancel, List.take_of_length_le (by rw [HFl.out]; exact Nat.le_refl _)]
          clear hVe
          have hyes := Hyes.out (by omega) (-1 - (V : Int)) (by rw [hVF]; rw [if_pos hneg])
          have hno := Hno.out (by omega) (-1 - (V : Int)) (by rw [hVF]; rw [if_pos hneg])
          have hI : M.I64 (-1 - (V : Int)) := by unfold M.I64; omega
          obtain ⟨q, hq⟩ : ∃ q, q = (c :: rest).take (K + 1) := ⟨_, rfl⟩
          have hql : q.length = K + 1 := by rw [hq, List.length_take, List.length_cons]; omega
          have hsl := fun W => cut_h W (some ⟨b, off, none⟩) (rest.length + 1) cap (K + 1) ((K : Int) + 1) (by omega) (by omega)
          have hrq : RdB w w.heap.size (cutA (some ⟨b, off, none⟩) 0 cap) q := by
            have := rdb_piece Hr.out (lo := 0) (n := K + 1) (cap := cap) (by rw [List.length_cons]; omega) (by rw [List.length_cons]; omega)
            rw [List.drop_zero, ← hq] at this
            exact this
          have hAC : cutA (some ⟨b, off, none⟩) 0 cap = some ⟨b, off, none⟩ := by unfold cutA; split <;> simp [Addr.add]
          rw [hAC] at hrq hsl
          have hwr : IntKind.i64.wrap ((K : Int) + 1) = (K : Int) + 1 := by
            have hK8 : (K : Int) ≤ 8 := by omega
            simp [IntKind.wrap, IntKind.bits, IntKind.signed]; omega
          have hcap0 : ¬ cap = 0 := by omega
          have hcap1 : 0 < cap := by omega
          have hcap2 : K + 1 ≤ cap := by omega
          have hcap3 : (K : Int) + 1 ≤ cap := by omega
          have hcap4 : (0 : Int) ≤ (K : Int) + 1 := by omega
          have hcap5 : ((K : Int) + 1).toNat = K + 1 := by omega
          rw [← hq, ← hVF] at hyes hno
          have hel := M.encI_len_le _ hI
          have Hrq := Lib.hid hrq
          have Hql := Lib.hid hql
          have hV1 : (V : Int) ≤ 9223372036854775807 := by omega
          obtain ⟨N, hN⟩ : ∃ N : Int, -1 - (V : Int) = N := ⟨_, rfl⟩
          rw [hN] at hyes hno hI hel
          have hN0 : (-9223372036854775808 : Int) ≤ N := by omega
          have hN1 : N < 0 := by omega
          have HI := Lib.hid hI
          have Hel := Lib.hid hel
          have Hyes2 := Lib.hid hyes
          have Hno2 := Lib.hid hno
          clear hyes hno hVF hq hAC hrq hql hI hel
          obtain ⟨t, ht⟩ : ∃ t, t = decide (M.encI N = q) := ⟨_, rfl⟩
          have Ht := Lib.hid ht
          clear ht
          have hB := hbel.size
          go_upto_region 24 with fail
          go_cut [67] (fun s67 wx => s67 = .bool (!t) ∧ Below w.heap.size w wx)
          case first =>
            have hsl0 := hsl wr.drew
            go_region_with (first
              | (go_at_call_of 28 (Value.int IntKind.i64 (N)); refine (refInt_any (N) _ HI.out).mono ?_; rintro e w1 ⟨v1, rfl, hown, hb1⟩; obtain ⟨A1, c1, rfl, hr1, -, -⟩ := own_rd (B := 0) hown; have hsl1 := hsl w1; have hbw := hbel.drew.trans (hb1.mono hbel.drew.size); have hq := same_any A1 (some ⟨b, off, none⟩) c1 cap (M.encI (N)) q w1 hr1 ((Hrq.out.below hbw).more hbw.size) (by have := Hel.out; unfold maxLen; omega) (by have := Hql.out; unfold maxLen; omega); rw [Hql.out, ← Ht.out] at hq; have Hq := Lib.hid hq; clear hq hown hr1)
              | (go_at_call_of 60 (Value.slice A1 (M.encI (N)).length c1); refine Hq.out.mono ?_; rintro e w2 ⟨rfl, hb2⟩))
            all_goals
              go_wp2_with fail
              go_meet
              case rel => exact ⟨rfl, hbw.trans (hb2.mono hbw.size)⟩
          case rest =>
            obtain ⟨rfl, hbx⟩ := hcut
            by_cases hk : M.nb V = K
            · obtain ⟨hg1, hg2⟩ := Hyes2.out hk
              rw [Ht.out, decide_eq_true hg2]
              have Hg1 := Lib.hid hg1
              clear hg1 hg2 hsl
              go_wp2_with fail
              go_ret3
              have e1 : ((1 + K : Nat) : Int) = (K : Int) + 1 := by omega
              exact ⟨by rw [Hg1.out]; simp only [e1]; rfl, hbx⟩
            · obtain ⟨hg1, hg2⟩ := Hno2.out hk
              rw [Ht.out, decide_eq_false hg2]
              have Hg1 := Lib.hid hg1
              clear hg1 hg2 hsl
              go_wp2_with fail
              go_ret3
              exact ⟨by rw [Hg1.out]; rfl, hbx⟩
    · have hflip : decide (c.toNat < 128) = false := by simp; omega
      have hKv : K = c.toNat - 128 := by rw [hK]; unfold M.kOf; rw [if_neg hneg]
      have hci : (128 : Int) ≤ c.toNat := by omega
      by_cases h8 : 8 < K
      · have hg : M.getI (c :: rest) = (0, 0, 2) := by rw [M.getI_cons, if_pos (by omega)]
        rw [hg]
        have hh : (136 : Int) < c.toNat := by omega
        clear hg hr Hcell hK hKv
        go_enter Tryd.func39, Tryd.ntmps39
        go_wp2_with fail
        go_ret3
        exact ⟨rfl, Below.refl _ _⟩
      have hh1 : (119 : Int) ≤ c.toNat := by omega
      have hh2 : (c.toNat : Int) ≤ 136 := by omega
      by_cases hl : rest.length < K
      · have hg : M.getI (c :: rest) = (0, 0, 3) := by rw [M.getI_cons, if_neg (by omega), if_pos (by omega)]
        rw [hg]
        have hl' : (rest.length : Int) < (c.toNat : Int) - 128 := by omega
        clear hg hr Hcell hK hKv
        go_enter Tryd.func39, Tryd.ntmps39
        go_wp2_with fail
        go_ret3
        exact ⟨rfl, Below.refl _ _⟩
      obtain ⟨F, hF⟩ : ∃ F, F = (rest.take K).map (M.flip false) := ⟨_, rfl⟩
      have hFl : F.length = K := by rw [hF, List.length_map, List.length_take]; omega
      have hX : M.mOf c rest = M.val F := by unfold M.mOf; rw [hF, hK, hflip]
      have hFd : ∀ j (h : j < K), ∃ d f : UInt8, rest[j]? = some d ∧ F[j]? = some f ∧ (f.toNat : Int) = (d.toNat : Int) := fun j h => by
        refine ⟨rest[j], F[j]'(by omega), List.getElem?_eq_getElem (by omega), List.getElem?_eq_getElem _, ?_⟩
        have : F[j]'(by omega) = M.flip false rest[j] := by simp [hF]
        rw [this]
        rfl
      have hgreat := M.getI_great c rest (by omega) (by omega)
      have hyes := M.getI_yes c rest (by omega) (by omega)
      have hno := M.getI_no c rest (by omega) (by omega)
      rw [hX] at hgreat hyes hno
      rw [← hK] at hyes hno
      have hiK : (c.toNat : Int) - 128 = K := by omega
      have hKl : (K : Int) ≤ rest.length := by omega
      have hbig := fun j (h : j < K) => M.val_big F j (by omega)
      have hnext : ∀ j (h : j < K), ∃ f : UInt8, F[j]? = some f ∧ M.val (F.take (j + 1)) = M.val (F.take j) * 256 + f.toNat := fun j h => ⟨F[j]'(by omega), List.getElem?_eq_getElem _, M.val_next F j (by omega)⟩
      have Hgreat := Lib.hid hgreat
      have Hyes := Lib.hid hyes
      have Hno := Lib.hid hno
      have Hbig := Lib.hid hbig
      have Hnext := Lib.hid hnext
      have HFd := Lib.hid hFd
      have Hr := Lib.hid hr
      have HiK := Lib.hid hiK
      have HFl := Lib.hid hFl
      clear hgreat hyes hno hbig hnext hFd hF hX hr hflip hiK hK hKv
      go_enter Tryd.func39, Tryd.ntmps39
      have hiK := HiK.out
      go_wp2_with fail
      clear hiK
      go_loopw [7, 8] (fun m i wr => ∃ p : Nat, 1 ≤ p ∧ p ≤ K + 1 ∧ i = .int .i64 p ∧ m = .int .i64 (M.val (F.take (p - 1)) : Nat) ∧ M.val (F.take (p - 1)) ≤ 9223372036854775807 ∧ Below w.heap.size w wr) (fun _ i _ => K + 1 - (intOf i).toNat)
      case atStart => exact ⟨1, Nat.le_refl _, by omega, rfl, by simp [M.val], by simp [M.val], Below.refl _ _⟩
      case round =>
        obtain ⟨p, hp1, hpK, rfl, rfl, hV, hbel⟩ := hrel
        obtain ⟨V, hVe⟩ : ∃ V, V = M.val (F.take (p - 1)) := ⟨_, rfl⟩
        rw [← hVe] at hV ⊢
        by_cases hlt : p ≤ K
        · obtain ⟨d, f, hd, hf, hfd⟩ := HFd.out (p - 1) (by omega)
          obtain ⟨f', hf', hnx⟩ := Hnext.out (p - 1) (by omega)
          obtain rfl : f' = f := by rw [hf] at hf'; exact (Option.some.inj hf').symm
          have hck : wr.cell? ⟨b, off + p, none⟩ = some (.int .u8 (d.toNat : Int)) := (hbel.cell hb).trans (Hcell.out p (bv d) (by
            obtain ⟨q, rfl⟩ : ∃ q, p = q + 1 := ⟨p - 1, by omega⟩
            have hd' : rest[q]? = some d := hd
            rw [List.map_cons, List.getElem?_cons_succ, List.getElem?_map, hd']; rfl))
          have i0 : (0 : Int) ≤ p := by omega
          have i1 : (p : Int) ≤ K := by omega
          have i2 : (p : Int) < rest.length + 1 := by omega
          have d0 : (0 : Int) ≤ d.toNat := by omega
          have d1 : (d.toNat : Int) ≤ 255 := by have := d.toNat_lt; omega
          have hpp : p - 1 + 1 = p := by omega
          rw [hpp] at hnx
          rw [← hVe] at hnx
          have Hnx := Lib.hid hnx
          have Hfd := Lib.hid hfd
          by_cases hb55 : 36028797018963967 < V
          · have hres := Hgreat.out (Hbig.out (p - 1) (by omega) (by rw [← hVe]; exact hb55))
            have Hres := Lib.hid hres
            have v1 : (36028797018963967 : Int) < V := by omega
            clear hd hf hfd hf' hnx hres hVe
            go_wp2_with fail
            go_ret3
            exact ⟨by rw [Hres.out]; rfl, hbel⟩
          · have v1 : (V : Int) ≤ 36028797018963967 := by omega
            clear hd hf hfd hf' hnx hVe
            go_wp2_with fail
            go_roundw
            case rel => exact ⟨p + 1, by omega, by omega, by go_num, by rw [Nat.add_sub_cancel, Hnx.out]; congr 1; have := Hfd.out; omega, by rw [Nat.add_sub_cancel, Hnx.out]; have := Hfd.out; omega, hbel⟩
            case measure => simp [intOf]; omega
        · obtain rfl : p = K + 1 := by omega
          have hVF : V = M.val F := by rw [hVe, Nat.add_sub_cancel, List.take_of_length_le (by rw [HFl.out]; exact Nat.le_refl _)]
          clear hVe
          have hyes := Hyes.out (by omega) ((V : Int)) (by rw [hVF]; rw [if_neg (by omega)])
          have hno := Hno.out (by omega) ((V : Int)) (by rw [hVF]; rw [if_neg (by omega)])
          have hI : M.I64 ((V : Int)) := by unfold M.I64; omega
          obtain ⟨q, hq⟩ : ∃ q, q = (c :: rest).take (K + 1) := ⟨_, rfl⟩
          have hql : q.length = K + 1 := by rw [hq, List.length_take, List.length_cons]; omega
          have hsl := fun W => cut_h W (some ⟨b, off, none⟩) (rest.length + 1) cap (K + 1) ((K : Int) + 1) (by omega) (by omega)
          have hrq : RdB w w.heap.size (cutA (some ⟨b, off, none⟩) 0 cap) q := by
            have := rdb_piece Hr.out (lo := 0) (n := K + 1) (cap := cap) (by rw [List.length_cons]; omega) (by rw [List.length_cons]; omega)
            rw [List.drop_zero, ← hq] at this
            exact this
          have hAC : cutA (some ⟨b, off, none⟩) 0 cap = some ⟨b, off, none⟩ := by unfold cutA; split <;> simp [Addr.add]
          rw [hAC] at hrq hsl
          have hwr : IntKind.i64.wrap ((K : Int) + 1) = (K : Int) + 1 := by
            have hK8 : (K : Int) ≤ 8 := by omega
            simp [IntKind.wrap, IntKind.bits, IntKind.signed]; omega
          have hcap0 : ¬ cap = 0 := by omega
          have hcap1 : 0 < cap := by omega
          have hcap2 : K + 1 ≤ cap := by omega
          have hcap3 : (K : Int) + 1 ≤ cap := by omega
          have hcap4 : (0 : Int) ≤ (K : Int) + 1 := by omega
          have hcap5 : ((K : Int) + 1).toNat = K + 1 := by omega
          rw [← hq, ← hVF] at hyes hno
          have hel := M.encI_len_le _ hI
          have Hrq := Lib.hid hrq
          have Hql := Lib.hid hql
          have hV1 : (V : Int) ≤ 9223372036854775807 := by omega
          have HI := Lib.hid hI
          have Hel := Lib.hid hel
          have Hyes2 := Lib.hid hyes
          have Hno2 := Lib.hid hno
          clear hyes hno hVF hq hAC hrq hql hI hel
          obtain ⟨t, ht⟩ : ∃ t, t = decide (M.encI (V : Int) = q) := ⟨_, rfl⟩
          have Ht := Lib.hid ht
          clear ht
          have hB := hbel.size
          go_upto_region 24 with fail
          go_cut [67] (fun s67 wx => s67 = .bool (!t) ∧ Below w.heap.size w wx)
          case first =>
            have hsl0 := hsl wr.drew
            go_region_with (first
              | (go_at_call_of 28 (Value.int IntKind.i64 ((V : Int))); refine (refInt_any ((V : Int)) _ HI.out).mono ?_; rintro e w1 ⟨v1, rfl, hown, hb1⟩; obtain ⟨A1, c1, rfl, hr1, -, -⟩ := own_rd (B := 0) hown; have hsl1 := hsl w1; have hbw := hbel.drew.trans (hb1.mono hbel.drew.size); have hq := same_any A1 (some ⟨b, off, none⟩) c1 cap (M.encI ((V : Int))) q w1 hr1 ((Hrq.out.below hbw).more hbw.size) (by have := Hel.out; unfold maxLen; omega) (by have := Hql.out; unfold maxLen; omega); rw [Hql.out, ← Ht.out] at hq; have Hq := Lib.hid hq; clear hq hown hr1)
              | (go_at_call_of 60 (Value.slice A1 (M.encI ((V : Int))).length c1); refine Hq.out.mono ?_; rintro e w2 ⟨rfl, hb2⟩))
            all_goals
              go_wp2_with fail
              go_meet
              case rel => exact ⟨rfl, hbw.trans (hb2.mono hbw.size)⟩
          case rest =>
            obtain ⟨rfl, hbx⟩ := hcut
            by_cases hk : M.nb V = K
            · obtain ⟨hg1, hg2⟩ := Hyes2.out hk
              rw [Ht.out, decide_eq_true hg2]
              have Hg1 := Lib.hid hg1
              clear hg1 hg2 hsl
              go_wp2_with fail
              go_ret3
              have e1 : ((1 + K : Nat) : Int) = (K : Int) + 1 := by omega
              exact ⟨by rw [Hg1.out]; simp only [e1]; rfl, hbx⟩
            · obtain ⟨hg1, hg2⟩ := Hno2.out hk
              rw [Ht.out, decide_eq_false hg2]
              have Hg1 := Lib.hid hg1
              clear hg1 hg2 hsl
              go_wp2_with fail
              go_ret3
              exact ⟨by rw [Hg1.out]; rfl, hbx⟩
end Go.Proofs.YtkelfcgomeojeaaDoor
end

