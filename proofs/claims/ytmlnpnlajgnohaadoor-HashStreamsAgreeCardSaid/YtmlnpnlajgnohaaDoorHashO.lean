/- The contract of hex. -/
import Derived.Test.YtmlnpnlajgnohaaDoorHashN
namespace Go.Proofs.YtmlnpnlajgnohaaDoor
open Go.RowKit
set_option linter.unusedVariables false

theorem two_cells (w : World) (x y : Value) (t : TypeId) : ∀ (j : Nat) (u : Value), [x, y][j]? = some u → (w.alloc (.cells #[x, y] t)).cell? ((⟨w.heap.size, 0, none⟩ : Addr).add j) = some u := by
  intro j u hu
  rw [Addr.add_mid, Nat.zero_add, cell_of_row _ _ j _ _ _ (heap_alloc_new w _)]
  simpa using hu
theorem hex_take (l : List UInt8) (k : Nat) (h : k < l.length) (x : UInt8) (hx : x = l.getD k 0) : (hexS (l.take (k + 1))).map bv = (hexS (l.take k)).map bv ++ [.int .u8 ((hexD (x.toNat / 16)).toNat : Int), .int .u8 ((hexD (x.toNat % 16)).toNat : Int)] := by
  have e : l.getD k 0 = l[k] := by simp [h]
  rw [List.take_add_one, List.getElem?_eq_getElem h, hx, e]
  unfold hexS
  simp only [Option.toList, List.flatMap_append, List.flatMap_cons, List.flatMap_nil, List.append_nil, List.map_append, List.map_cons, List.map_nil]
  rfl

theorem run_quo16 (X Y : Operand) (x : UInt8) (w : World) : (do eqGuard .quo 5 X Y (.int .u8 (x.toNat : Int)) (.int .u8 16); binOp .quo 5 (.int .u8 (x.toNat : Int)) (.int .u8 16) : Sem Value).run Tryd.prog w = .ok (.int .u8 ((x.toNat : Int) / 16)) w := by
  have h := x.toNat_lt
  have h1 : IntKind.u8.wrap ((x.toNat : Int) / 16) = (x.toNat : Int) / 16 := by rw [IntKind.wrap_u8']; omega
  have h2 : (x.toNat : Int).tdiv 16 = (x.toNat : Int) / 16 := Int.tdiv_eq_ediv_of_nonneg (by omega)
  go_simp
theorem run_rem16 (X Y : Operand) (x : UInt8) (w : World) : (do eqGuard .rem 5 X Y (.int .u8 (x.toNat : Int)) (.int .u8 16); binOp .rem 5 (.int .u8 (x.toNat : Int)) (.int .u8 16) : Sem Value).run Tryd.prog w = .ok (.int .u8 ((x.toNat : Int) % 16)) w := by
  have h2 : (x.toNat : Int).tmod 16 = (x.toNat : Int) % 16 := Int.tmod_eq_emod_of_nonneg (by omega)
  have h1 : IntKind.u8.wrap ((x.toNat : Int) % 16) = (x.toNat : Int) % 16 := by rw [IntKind.wrap_u8']; omega
  go_simp
theorem run_buildSlice_two (w : World) (x y : Nat) : (Instr.buildSlice 22 2 #[(0, .int .u8 (x : Int)), (1, .int .u8 (y : Int))]).run Tryd.prog w = .ok (.slice (some ⟨w.heap.size, 0, none⟩) 2 2) (w.alloc (.cells #[.int .u8 (x : Int), .int .u8 (y : Int)] 5)) := by
  go_simp
set_option maxRecDepth 100000 in
set_option maxHeartbeats 2000000 in
theorem hex_any (s : ByteArray) (w : World) (hs : s.size ≤ 1000000) :
    Calls Tryd.prog 25 #[.string s] w fun e w' => e = .returned (.string (bs (hexS (sb s)))) ∧ Below w.heap.size w w' := by
  obtain ⟨i0, hi, hz0, hz1, hz2⟩ := info_parts info_u8
  have hl := sb_len s
  have HL := Lib.hid hl
  obtain ⟨D, hD⟩ : ∃ D, D = digits := ⟨_, rfl⟩
  clear hl
  go_enter Tryd.func25, Tryd.ntmps25
  go_wp2_with fail
  rw [show ({ data := #[48, 49, 50, 51, 52, 53, 54, 55, 56, 57, 97, 98, 99, 100, 101, 102] } : ByteArray) = D from hD.symm]
  have HDg := Lib.hid hD
  clear hD
  go_loopw [5, 4] (fun i v wr => ∃ k : Nat, k ≤ s.size ∧ i = .int .i64 k ∧ wr.ownsRow w.heap.size 5 1 v (2 * k) ((hexS ((sb s).take k)).map bv) ∧ Below w.heap.size w wr) (fun i _ _ => s.size - (intOf i).toNat)
  case atStart => exact ⟨0, by omega, rfl, own_nil _ _ _ _, Below.refl _ _⟩
  case round =>
    obtain ⟨k, hk, rfl, hown, hbel⟩ := hrel
    by_cases hlt : k < s.size
    · obtain ⟨x, hx⟩ : ∃ x, x = (sb s).getD k 0 := ⟨_, rfl⟩
      have ix := fun W => index_sb s .i64 k hlt W
      rw [← hx] at ix
      obtain ⟨p, hp⟩ : ∃ p, p = hexD (x.toNat / 16) := ⟨_, rfl⟩
      obtain ⟨q, hq⟩ : ∃ q, q = hexD (x.toNat % 16) := ⟨_, rfl⟩
      have xl := x.toNat_lt
      have ds : D.size = 16 := by rw [HDg.out]; rfl
      have ip : ∀ W : World, (Instr.index 9 (.string D) (.int .u8 ((x.toNat : Int) / 16))).run Tryd.prog W = .ok (.int .u8 (p.toNat : Int)) W := fun W => by
        have := index_sb D .u8 (x.toNat / 16) (by omega) W
        rw [HDg.out] at this
        rw [hp, HDg.out]
        exact this
      have iq : ∀ W : World, (Instr.index 9 (.string D) (.int .u8 ((x.toNat : Int) % 16))).run Tryd.prog W = .ok (.int .u8 (q.toNat : Int)) W := fun W => by
        have := index_sb D .u8 (x.toNat % 16) (by omega) W
        rw [HDg.out] at this
        rw [hq, HDg.out]
        exact this
      have hnext := hex_take (sb s) k (by rw [HL.out]; exact hlt) x hx
      rw [← hp, ← hq] at hnext
      have Hn := Lib.hid hnext
      have ik : (k : Int) < s.size := by omega
      have hmx : 2 * k + 2 ≤ maxLen := by unfold maxLen; omega
      have x0 : (0 : Int) ≤ x.toNat := by omega
      have w1 : IntKind.u8.wrap ((x.toNat : Int) / 16) = (x.toNat : Int) / 16 := by rw [IntKind.wrap_u8']; omega
      have w2 : (x.toNat : Int).tmod 16 = (x.toNat : Int) % 16 := Int.tmod_eq_emod_of_nonneg (by omega)
      clear hx hp hq hnext ds xl
      go_wp2_with fail
      refine wp_region_list [12, 13, 14, 15, 16, 17, 18, 19, 20, 21, 22, 23, 24, 25] [.is u4, .is (.string D), .is (.string s), .is (.int .i64 k), .is (.int .u8 (x.toNat : Int)), .is (.int .u8 ((x.toNat : Int) / 16)), .is (.int .u8 (p.toNat : Int)), .is (.string D), .is (.string s), .is (.int .i64 k), .is (.int .u8 (x.toNat : Int)), .is (.int .u8 ((x.toNat : Int) % 16)), .is (.int .u8 (q.toNat : Int)), .bytes [p, q]] (by kernel_rfl) (by kernel_rfl) ?_ ?_
      · intro i hi b w' hb hd hx o ho
        match i, hi with
        | 0, _ => obtain rfl := Option.some.inj ho; exact ⟨hx 4 rfl, Below.refl _ _⟩
        | 1, _ => obtain rfl := Option.some.inj ho; exact ⟨hx 3 rfl, Below.refl _ _⟩
        | 2, _ => obtain rfl := Option.some.inj ho; exact ⟨hx 0 rfl, Below.refl _ _⟩
        | 3, _ => obtain rfl := Option.some.inj ho; exact ⟨hx 5 rfl, Below.refl _ _⟩
        | 4, _ =>
          obtain rfl := Option.some.inj ho
          have e1 : b.tmps.getD 14 undef = .string s := hd 2 (by kernel_rfl) (by decide)
          have e2 : b.tmps.getD 15 undef = .int .i64 k := hd 3 (by kernel_rfl) (by decide)
          have hv := ix w'
          rw [← e1, ← e2] at hv
          exact runs_value rfl hv ⟨rfl, Below.refl _ _⟩
        | 5, _ =>
          obtain rfl := Option.some.inj ho
          have e1 : b.tmps.getD 16 undef = .int .u8 (x.toNat : Int) := hd 4 (by kernel_rfl) (by decide)
          have hv := run_quo16 (.tmp 16) (.const (.int .u8 16)) x w'
          rw [← e1] at hv
          exact runs_value rfl hv ⟨rfl, Below.refl _ _⟩
        | 6, _ =>
          obtain rfl := Option.some.inj ho
          have e1 : b.tmps.getD 13 undef = .string D := hd 1 (by kernel_rfl) (by decide)
          have e2 : b.tmps.getD 17 undef = .int .u8 ((x.toNat : Int) / 16) := hd 5 (by kernel_rfl) (by decide)
          have hv := ip w'
          rw [← e1, ← e2] at hv
          exact runs_value rfl hv ⟨rfl, Below.refl _ _⟩
        | 7, _ => obtain rfl := Option.some.inj ho; exact ⟨hx 3 rfl, Below.refl _ _⟩
        | 8, _ => obtain rfl := Option.some.inj ho; exact ⟨hx 0 rfl, Below.refl _ _⟩
        | 9, _ => obtain rfl := Option.some.inj ho; exact ⟨hx 5 rfl, Below.refl _ _⟩
        | 10, _ =>
          obtain rfl := Option.some.inj ho
          have e1 : b.tmps.getD 20 undef = .string s := hd 8 (by kernel_rfl) (by decide)
          have e2 : b.tmps.getD 21 undef = .int .i64 k := hd 9 (by kernel_rfl) (by decide)
          have hv := ix w'
          rw [← e1, ← e2] at hv
          exact runs_value rfl hv ⟨rfl, Below.refl _ _⟩
        | 11, _ =>
          obtain rfl := Option.some.inj ho
          have e1 : b.tmps.getD 22 undef = .int .u8 (x.toNat : Int) := hd 10 (by kernel_rfl) (by decide)
          have hv := run_rem16 (.tmp 22) (.const (.int .u8 16)) x w'
          rw [← e1] at hv
          exact runs_value rfl hv ⟨rfl, Below.refl _ _⟩
        | 12, _ =>
          obtain rfl := Option.some.inj ho
          have e1 : b.tmps.getD 19 undef = .string D := hd 7 (by kernel_rfl) (by decide)
          have e2 : b.tmps.getD 23 undef = .int .u8 ((x.toNat : Int) % 16) := hd 11 (by kernel_rfl) (by decide)
          have hv := iq w'
          rw [← e1, ← e2] at hv
          exact runs_value rfl hv ⟨rfl, Below.refl _ _⟩
        | 13, _ =>
          obtain rfl := Option.some.inj ho
          have e1 : b.tmps.getD 18 undef = .int .u8 (p.toNat : Int) := hd 6 (by kernel_rfl) (by decide)
          have e2 : b.tmps.getD 24 undef = .int .u8 (q.toNat : Int) := hd 12 (by kernel_rfl) (by decide)
          have hbs := run_buildSlice_two w' p.toNat q.toNat
          rw [← e1, ← e2] at hbs
          refine runs_value (X := Instr.buildSlice 22 2 #[(0, b.tmps.getD 18 undef), (1, b.tmps.getD 24 undef)]) (by unfold execOp; simp [Act.eval]) hbs ⟨⟨some ⟨w'.heap.size, 0, none⟩, 2, rfl, fun _ => ⟨w'.heap.size, 0, rfl, by simp, fun j u hu => ?_⟩, by simp, by decide⟩, (Below.refl _ _).alloc (Nat.le_refl _) _⟩
          rw [cell_of_row _ _ _ _ _ _ (heap_alloc_new w' _), e1, e2, ← hu]
          simp
          rfl
      · intro vals w2 hb hf
        have e0 : vals 0 = u4 := hf 0 (by decide)
        obtain ⟨A, c, e13, hA, hc1, hc2⟩ := hf 13 (by decide)
        obtain ⟨B, off, rfl, hB, hcl⟩ := hA (by simp)
        simp only [puts, List.length_cons, List.length_nil, Nat.zero_add, Nat.reduceAdd, List.drop_succ_cons, List.drop_zero, e0, e13]
        have hown2 := own_below hown hb (Nat.le_refl _)
        have hbel2 : Below w.heap.size w w2 := hbel.trans (hb.mono hbel.size)
        have hcell : ∀ (j : Nat) (u : Value), [Value.int .u8 (p.toNat : Int), .int .u8 (q.toNat : Int)][j]? = some u → w2.cell? ((⟨B, off, none⟩ : Addr).add j) = some u := by
          intro j u hu
          rw [Addr.add_mid]
          exact hcl j u hu
        clear e0 e13 hA hf hb hown hbel hcl ix ip iq
        go_frame
        go_wp2_with (at_builtin; refine wpList_append_own _ rfl (.tmp 12) (.tmp 25) 22 rfl w.heap.size 5 i0 (.int .u8 0) 1 1 Tryd.underlying22 hi hz0 hz1 hz2 rfl (by decide) _ (2 * k) ((hexS ((sb s).take k)).map bv) rfl hown2 ⟨B, off, none⟩ 2 c [.int .u8 (p.toNat : Int), .int .u8 (q.toNat : Int)] rfl rfl hcell (by intro u hu; simp at hu; rcases hu with rfl | rfl <;> rfl) hmx (by omega) hbel2.size ?_; intro v' w1 hown' hgrow _)
        refine ⟨⟨k + 1, by omega, by go_num, by rw [Hn.out, show 2 * (k + 1) = 2 * k + 2 by omega]; exact hown', hbel2.grown hgrow (hbel2.size) (fun j hj => (hown2.lt j hj).1)⟩, by simp [intOf]; omega⟩
    · have hks : k = s.size := by omega
      have hge : (s.size : Int) ≤ k := by omega
      rw [hks, List.take_of_length_le (by rw [HL.out]; omega)] at hown
      obtain ⟨A, c, rfl, hr, -, -⟩ := own_rd (B := 0) hown
      have hcv := conv_bytes wr _ A (hexS (sb s)) c hr
      rw [hexS_len, HL.out] at hcv
      clear hks hown hr
      go_wp2_with fail
      go_ret
      exact ⟨rfl, hbel⟩
end Go.Proofs.YtmlnpnlajgnohaaDoor
