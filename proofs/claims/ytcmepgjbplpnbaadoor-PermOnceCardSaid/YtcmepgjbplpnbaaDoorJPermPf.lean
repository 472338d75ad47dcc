import Derived.Test.YtcmepgjbplpnbaaDoorJPermPe
import Derived.Test.YtcmepgjbplpnbaaDoorJVars

section
/- perm: kept. -/


namespace Go.Proofs.YtcmepgjbplpnbaaDoor
open Go.RowKit
set_option linter.unusedVariables false
set_option maxRecDepth 100000

set_option maxHeartbeats 1000000 in
theorem kept1_any (bt bb g : Nat) (Z : Nat → Nat → Nat) (B r y : Nat) (w : World) (h : KeptAt bt bb g Z B (4 * B) w) (hB : B ≤ 256) (hr : r < 4) (hy : y < B) :
    Calls Tryd.prog 56 #[.int .i64 r, .int .i64 y, .pointer (some ⟨bt, 0, none⟩), .pointer (some ⟨bb, 0, none⟩)] w fun e w' => e = .returned (.int .i64 (Z r y : Int)) ∧ Below w.heap.size w w' := by
  have hk : r * B + y < 4 * B := by have := Nat.mul_le_mul_right B (show r ≤ 3 by omega); omega
  have c1 := h.tv.cell 0 _ rfl
  have c2 := h.bv.cell 0 _ rfl
  have c3 := h.row.at (r * B + y) _ (tabL_at Z hy hk)
  have hk4 : r * B ≤ 1024 := by have := Nat.mul_le_mul_right B (show r ≤ 3 by omega); omega
  obtain ⟨m, hm⟩ : ∃ m, m = r * B := ⟨_, rfl⟩
  have hmi : (r : Int) * (B : Int) = (m : Int) := by rw [hm]; simp
  rw [← hm] at hk c3 hk4
  obtain ⟨z, hz⟩ : ∃ z, z = Z r y := ⟨_, rfl⟩
  rw [← hz] at c3 ⊢
  obtain ⟨T, hT⟩ : ∃ T, T = 4 * B := ⟨_, rfl⟩
  rw [← hT] at hk c1
  have hT2 : T ≤ 1024 := by omega
  obtain ⟨q, hq⟩ : ∃ q, q = m + y := ⟨_, rfl⟩
  have h2 : (m : Int) + (y : Int) = (q : Int) := by omega
  rw [← hq] at hk c3
  have h1 : (q : Int) < T := by omega
  unfold iv at c3
  clear h hm hz hT hr hy hq
  go_enter Tryd.func56, Tryd.ntmps56
  go_wp2_with fail
  go_ret
  exact ⟨rfl, Below.refl _ _⟩

/-- A row of one int. -/
def Fact.one (z : Int) : Fact := ⟨fun v w => ∃ V, v = .slice (some ⟨V, 0, none⟩) 1 1 ∧ Blk w V [iv z] 3, fun _ _ _ ⟨V, h1, h2⟩ hb => ⟨V, h1, h2.below hb h2.lt⟩⟩

set_option maxHeartbeats 4000000 in
theorem kept_any (H : FuncId) (d1 d2 : Value) (Z : Nat → Nat → Nat) (B : Nat) (w : World) (hcf : ∀ (args : Array Value) (W : World), (callFunc H args).run Tryd.prog W = .ok (.enter H args) W) (hB1 : 1 ≤ B) (hB : B ≤ 256)
    (hW : ∀ (W : World) (r y : Nat), Below w.heap.size w W → r < 4 → y < B → Calls Tryd.prog H #[.int .i64 r, .int .i64 y, d1, d2] W fun e w' => e = .returned (.int .i64 (Z r y : Int)) ∧ Below W.heap.size W w') :
    Calls Tryd.prog 47 #[.int .i64 B, .func (.func H) #[] #[d1, d2]] w fun e w' =>
      ∃ bt bb g, e = .returned (.func (.func 56) #[] #[.pointer (some ⟨bt, 0, none⟩), .pointer (some ⟨bb, 0, none⟩)]) ∧ KeptAt bt bb g Z B (4 * B) w' ∧ Below w.heap.size w w' ∧ w.heap.size ≤ bt ∧ w.heap.size ≤ bb ∧ w.heap.size ≤ g := by
  have hmf : ∀ (fn : Fn) (first cap : Array Value) (w : World), (Instr.makeFunc fn first cap).run Tryd.prog w = .ok (.func fn first cap) w := fun _ _ _ _ => rfl
  have hmk := make_room (w.alloc (.cells #[.int .i64 B] 3)) (4 * B) (4 * (B : Int)) (by omega) (by omega)
  obtain ⟨W0, hW0⟩ : ∃ W0, W0 = ((w.alloc (.cells #[.int .i64 B] 3)).alloc (.cells (List.replicate (4 * B) (Value.int .i64 0)).toArray 3)).alloc (.cells #[.slice (some ⟨w.heap.size + 1, 0, none⟩) 0 (4 * B)] 22) := ⟨_, rfl⟩
  have hK : KeptAt (w.heap.size + 2) w.heap.size (w.heap.size + 1) Z B 0 W0 := by
    have k0 := Blk.new w [.int .i64 B] 3
    have k1 := Room.new (w.alloc (.cells #[.int .i64 B] 3)) (4 * B)
    have k2 := Blk.new ((w.alloc (.cells #[.int .i64 B] 3)).alloc (.cells (List.replicate (4 * B) (Value.int .i64 0)).toArray 3)) [.slice (some ⟨w.heap.size + 1, 0, none⟩) 0 (4 * B)] 22
    simp only [World.size_alloc] at k1 k2
    rw [hW0]
    exact ⟨k2, (k0.alloc _).alloc _, k1.alloc _⟩
  have hb0 : Below w.heap.size w W0 := by
    rw [hW0]
    exact (((Below.refl _ _).alloc (Nat.le_refl _) _).alloc (by simp) _).alloc (by simp; omega) _
  rw [World.size_alloc] at hmk
  have HK := Lib.hid (And.intro hK hb0)
  have HW := Lib.hid (And.intro hW hcf)
  have HW0 := Lib.hid hW0
  clear hK hb0 hW0 hW hcf
  go_enter Tryd.func47, Tryd.ntmps47
  go_wp2_with fail
  have hW1 : W0 = ((w.alloc (.cells #[.int .i64 B] 3)).alloc (.cells (Array.replicate (4 * B) (Value.int .i64 0)) 3)).alloc (.cells #[.slice (some ⟨w.heap.size + 1, 0, none⟩) 0 (4 * B)] 22) := by rw [HW0.out]; simp
  rw [← hW1]
  clear hW1 hmk HW0
  go_loopw [11, 6, 7, 14, 15] (fun i r y lim j wr => ∃ c : Nat, c ≤ 4 ∧ i = .int .i64 c ∧ KeptAt (w.heap.size + 1 + 1) w.heap.size (w.heap.size + 1) Z B (c * B) wr ∧ Below w.heap.size w wr) (fun i _ _ _ _ _ => 4 - (intOf i).toNat)
  case atStart => exact ⟨0, by omega, rfl, by rw [Nat.zero_mul]; exact HK.out.1, HK.out.2⟩
  case round =>
    obtain ⟨c, hc, rfl, hk, hb⟩ := hrel
    have cB := hk.bv.cell 0 _ rfl
    obtain ⟨Wr, hWr⟩ : ∃ Wr, Wr = wr := ⟨_, rfl⟩
    have HR := Lib.hid (And.intro hk hb)
    by_cases hlt : c < 4
    · have hc4 : (c : Int) < 4 := by omega
      clear hk hb
      go_wp2_with fail
      go_loopw [7, 15] (fun y j w2 => ∃ q : Nat, q ≤ B ∧ j = .int .i64 q ∧ KeptAt (w.heap.size + 1 + 1) w.heap.size (w.heap.size + 1) Z B (c * B + q) w2 ∧ Below w.heap.size w w2) (fun _ j _ => B - (intOf j).toNat)
      case atStart => exact ⟨0, Nat.zero_le _, rfl, HR.out.1, HR.out.2⟩
      case round =>
        obtain ⟨q, hq, rfl, hk, hb⟩ := hrel
        by_cases hlt2 : q < B
        · have hq2 : (q : Int) < B := by omega
          have hkB : c * B + q < 4 * B := by have := Nat.mul_le_mul_right B (show c ≤ 3 by omega); omega
          obtain ⟨k, hkq⟩ : ∃ k, k = c * B + q := ⟨_, rfl⟩
          have hc0 := hk.tv.cell 0 _ rfl
          rw [← hkq] at hc0
          obtain ⟨z, hz⟩ : ∃ z, z = Z c q := ⟨_, rfl⟩
          have HZ := Lib.hid (And.intro hz (And.intro hkq hkB))
          have HR2 := Lib.hid (And.intro hk hb)
          clear hz hkq hkB hk hb
          go_wp2_with fail
          refine wp_region_list [18, 19, 20, 21, 22, 23] [.is (.slice (some ⟨w.heap.size + 1, 0, none⟩) k (4 * B)), .is (.func (.func H) #[] #[d1, d2]), .is (.int .i64 c), .is (.int .i64 q), .is (.int .i64 (z : Int)), .one z] (by kernel_rfl) (by kernel_rfl) ?_ ?_
          · intro i hi b w' hb' hd hx o ho
            match i, hi with
            | 0, _ =>
              obtain rfl := Option.some.inj ho
              have e5 : b.tmps.getD 5 undef = .pointer (some ⟨w.heap.size + 1 + 1, 0, none⟩) := hx 5 rfl
              have hc1 := (HR2.out.1.tv.below hb' HR2.out.1.tv.lt).cell 0 _ rfl
              rw [← HZ.out.2.1] at hc1
              refine runs_value (X := Instr.loadAt 22 (b.tmps.getD 5 undef)) (by unfold execOp; simp [Act.eval]) ?_ ⟨rfl, Below.refl _ _⟩
              rw [e5]
              go_simp
            | 1, _ =>
              obtain rfl := Option.some.inj ho
              exact ⟨hx 1 rfl, Below.refl _ _⟩
            | 2, _ =>
              obtain rfl := Option.some.inj ho
              exact ⟨hx 6 rfl, Below.refl _ _⟩
            | 3, _ =>
              obtain rfl := Option.some.inj ho
              exact ⟨hx 7 rfl, Below.refl _ _⟩
            | 4, _ =>
              obtain rfl := Option.some.inj ho
              have e1 : b.tmps.getD 19 undef = .func (.func H) #[] #[d1, d2] := hd 1 (by kernel_rfl) (by decide)
              have e2 : b.tmps.getD 20 undef = .int .i64 c := hd 2 (by kernel_rfl) (by decide)
              have e3 : b.tmps.getD 21 undef = .int .i64 q := hd 3 (by kernel_rfl) (by decide)
              refine runs_callv rfl e1 HW.out.2 ?_
              show Calls _ _ #[b.tmps.getD 20 undef, b.tmps.getD 21 undef, d1, d2] w' _
              rw [e2, e3]
              refine (HW.out.1 w' c q (HR2.out.2.trans (hb'.mono HR2.out.2.size)) hlt hlt2).mono ?_
              rintro e w3 ⟨rfl, hb3⟩
              rw [← HZ.out.1]
              exact ⟨_, rfl, rfl, hb3⟩
            | 5, _ =>
              obtain rfl := Option.some.inj ho
              have e4 : b.tmps.getD 22 undef = .int .i64 (z : Int) := hd 4 (by kernel_rfl) (by decide)
              have hbs := build1 w' (z : Int)
              rw [← e4] at hbs
              refine runs_value (X := Instr.buildSlice 22 1 #[(0, b.tmps.getD 22 undef)]) (by unfold execOp; simp [Act.eval]) hbs ⟨⟨w'.heap.size, rfl, ?_⟩, (Below.refl _ _).alloc (Nat.le_refl _) _⟩
              rw [e4]
              exact Blk.new w' [iv (z : Int)] 3
          · intro vals w' hb' hf
            have e0 : vals 0 = .slice (some ⟨w.heap.size + 1, 0, none⟩) k (4 * B) := hf 0 (by decide)
            obtain ⟨V, e5, hV⟩ := hf 5 (by decide)
            simp only [puts, List.length_cons, List.length_nil, Nat.zero_add, Nat.reduceAdd, List.drop_succ_cons, List.drop_zero, e0, show vals 5 = _ from e5]
            have hk3 := HR2.out.1.below hb'
            have hb3 := HR2.out.2.trans (hb'.mono HR2.out.2.size)
            have hp := hk3.push hlt2 HZ.out.2.2 (by omega) (by omega) (by omega)
            rw [← HZ.out.2.1, ← HZ.out.1] at hp
            rw [← HZ.out.2.1] at hk3
            have hcT := ((hk3.tv.other ⟨w.heap.size + 1, k, none⟩ (iv (z : Int)) (by show w.heap.size + 1 + 1 ≠ w.heap.size + 1; omega))).cell 0 _ rfl
            have hfT := ((hk3.tv.other ⟨w.heap.size + 1, k, none⟩ (iv (z : Int)) (by show w.heap.size + 1 + 1 ≠ w.heap.size + 1; omega))).frozen 0
            have HP := Lib.hid (And.intro hp (And.intro hb3 (And.intro hk3 (hV.cell 0 _ rfl))))
            clear hp hb3 hk3 hV
            refine wpList_append_room1 w' rfl (.tmp 18) (.tmp 23) rfl (w.heap.size + 1) (4 * B) (tabL Z B k) (z : Int) V k (tabL_len _ _ _).symm rfl rfl HP.out.2.2.1.row (by rw [tabL_len]; have := HZ.out.2.1; have := HZ.out.2.2; omega) HP.out.2.2.2 ?_
            go_wp2_with fail
            have e : c * B + (q + 1) = k + 1 := by have := HZ.out.2.1; omega
            exact ⟨⟨q + 1, by omega, by go_num, by rw [e]; exact HP.out.1, (HP.out.2.1.setCell (by show w.heap.size ≤ w.heap.size + 1; omega) _).setCell (by show w.heap.size ≤ w.heap.size + 1 + 1; omega) _⟩, by simp [intOf]; omega⟩
        · obtain rfl : q = B := by omega
          go_wp2_with fail
          go_roundw
          case rel => exact ⟨c + 1, by omega, by go_num, by rw [Nat.succ_mul]; exact hk, hb⟩
          case measure => simp [intOf]; omega
    · obtain rfl : c = 4 := by omega
      clear HR
      go_wp2_with fail
      go_ret
      exact ⟨w.heap.size + 1 + 1, w.heap.size, w.heap.size + 1, rfl, hk, hb, by omega, by omega, by omega⟩
end Go.Proofs.YtcmepgjbplpnbaaDoor
end

