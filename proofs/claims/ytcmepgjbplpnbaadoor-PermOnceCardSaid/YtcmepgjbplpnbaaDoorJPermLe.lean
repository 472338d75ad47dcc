import Derived.Laws.OwnMore
import Derived.Laws.MakeOwn
import Derived.Test.YtcmepgjbplpnbaaDoorJPermQ

section
/- The law PermOnce. -/



namespace Go.Proofs.YtcmepgjbplpnbaaDoor
open Go.RowKit
set_option linter.unusedVariables false
set_option maxRecDepth 100000

/-- Which numbers were met. -/
def metB (z : Nat → Nat) (i j : Nat) : Bool := (List.range i).any fun x => z x == j
def metL (z : Nat → Nat) (K i : Nat) : List Value := (List.range K).map fun j => .bool (metB z i j)
theorem metL_zero (z : Nat → Nat) (K : Nat) : metL z K 0 = List.replicate K (.bool false) := by
  apply List.ext_getElem
  · simp [metL]
  · intro i h1 h2
    simp [metL, metB]
theorem metB_succ (z : Nat → Nat) (i j : Nat) : metB z (i + 1) j = (metB z i j || (z i == j)) := by
  unfold metB
  rw [List.range_succ, List.any_append]
  simp
theorem metL_set (z : Nat → Nat) (K i : Nat) (h : z i < K) : (metL z K i).set (z i) (.bool true) = metL z K (i + 1) := by
  apply List.ext_getElem
  · simp [metL]
  · intro j h1 h2
    rw [List.getElem_set]
    simp only [metL, List.getElem_map, List.getElem_range, metB_succ]
    split
    · rename_i e; simp [e]
    · rename_i e; simp [e]
theorem metL_at (z : Nat → Nat) (K i j : Nat) (h : j < K) : (metL z K i)[j]? = some (.bool (metB z i j)) := by
  unfold metL
  rw [List.getElem?_map, List.getElem?_range h]
  rfl
theorem metB_new (z : Nat → Nat) (i : Nat) (h : ∀ x, x < i → z x ≠ z i) : metB z i (z i) = false := by
  unfold metB
  rw [List.any_eq_false]
  intro x hx
  have := h x (List.mem_range.1 hx)
  simpa using this
theorem info_bool : (Tryd.prog.info? 4).map (fun i => (i.zero, i.size, i.bytes)) = some (some (.bool false), 1, 1) := by kernel_rfl

set_option maxHeartbeats 4000000 in
theorem once_walk (s : ByteArray) (A : Option Addr) (cap : Nat) (l : List Int) (n : Int) (w : World) (hr : Rd w w.heap.size A (l.map iv)) (hI : ∀ n ∈ l, M.I64 n) (hl : l.length ≤ 9223372036854775807) (hn : M.I64 n) (hT : PTab w) :
    Calls Tryd.prog 5 #[.string s, .slice A l.length cap, .int .i64 n] w (Tells true w) := by
  have cP := refPath_any A cap l w hr hI hl
  have hpl := pathOf_len l
  have hpn := pathOf_nums l
  obtain ⟨p, hp⟩ : ∃ p, p = pathOf l := ⟨_, rfl⟩
  obtain ⟨N, hN⟩ : ∃ N, N = l.length := ⟨_, rfl⟩
  rw [← hp] at cP hpl hpn
  rw [← hN] at cP ⊢
  have cS := fun W => refSeed_any s W
  have hqs := shortAt_size 12 s
  obtain ⟨q, hq⟩ : ∃ q, q = shortAt 12 s := ⟨_, rfl⟩
  rw [← hq] at cS hqs
  have ck := fun W => around_any n 200 W hn (by constructor <;> decide)
  have hk := around_lt n 200 (by decide)
  obtain ⟨K, hK⟩ := Int.eq_ofNat_of_zero_le hk.1
  rw [hK] at hk ck
  have hK2 : K < 200 := by omega
  obtain ⟨z, hz⟩ : ∃ z, z = placeS q p K := ⟨_, rfl⟩
  have hzK : ∀ i, i < K → z i < K := fun i hi => by rw [hz]; exact placeS_lt q p (by omega) hi
  have hzi : ∀ x i, i < K → x < i → z x ≠ z i := fun x i hi hx h => by
    rw [hz] at h
    have := place_inj q p (n := K) (by omega) (by omega) hi h
    omega
  have hback : ∀ i, i < K → backS q p K (z i) = i := fun i hi => by rw [hz]; exact back_place q p (by omega) hi
  have CP := Lib.hid cP
  have CS := Lib.hid cS
  have CK := Lib.hid ck
  have HZ := Lib.hid (And.intro hzK (And.intro hzi (And.intro hback hz)))
  have HP := Lib.hid (And.intro hpl (And.intro hpn (And.intro hqs hT)))
  clear cP hpl hpn hp hN cS hqs hq ck hk hK hT hr hI hl hn hzK hzi hback hz
  go_enter Tryd.func5, Tryd.ntmps5
  go_wp2_with fail
  refine (CS.out _).mono ?_
  rintro e w0 ⟨rfl, rfl⟩
  go_wp2_with fail
  refine CP.out.mono ?_
  rintro e w1 ⟨v, rfl, hown, hb1⟩
  obtain ⟨A1, c1, rfl, -, -, -⟩ := own_rd (B := 0) hown
  have P1 := psrc_of (s := q) hown (by have := HP.out.2.2.1; omega) (by have := HP.out.1; omega) HP.out.2.1 (HP.out.2.2.2.below hb1)
  have hs32 : q.size ≤ 32 := by have := HP.out.2.2.1; omega
  have hp8 : p.length ≤ 8 := by have := HP.out.1; omega
  have cL := P1.all hs32 hp8 K (by omega)
  have cB : ∀ (W : World) (i : Nat), Below w1.heap.size w1 W → i < K → Calls Tryd.prog 14 #[.string q, .slice A1 p.length c1, .int .i64 K, .int .i64 (z i : Int)] W fun e w' => e = .returned (.tuple #[.int .i64 (i : Int), .int .i64 0]) ∧ Below W.heap.size W w' := fun W i hb hi => by
    have := (P1.below hb).back hs32 hp8 K (z i) (by omega) (HZ.out.1 i hi)
    rw [HZ.out.2.2.1 i hi] at this
    exact this
  have cA : ∀ (W : World) (i : Nat), Below w1.heap.size w1 W → i < K → Calls Tryd.prog 12 #[.string q, .slice A1 p.length c1, .int .i64 K, .int .i64 (i : Int)] W fun e w' => e = .returned (.tuple #[.int .i64 (z i : Int), .int .i64 0]) ∧ Below W.heap.size W w' := fun W i hb hi => by
    have := (P1.below hb).at hs32 hp8 K i (by omega) hi
    rw [← HZ.out.2.2.2] at this
    exact this
  rw [← HZ.out.2.2.2] at cL
  obtain ⟨Np, hNp⟩ : ∃ N, N = p.length := ⟨_, rfl⟩
  rw [← hNp] at cL cB cA ⊢
  have CL := Lib.hid cL
  have CA := Lib.hid cA
  have CB := Lib.hid cB
  have B1 := Lib.hid (And.intro hb1 P1.tab)
  clear hown P1 cL cA cB hNp hb1 CP CS hs32 hp8
  go_wp2_with fail
  refine (CK.out _).mono ?_
  rintro e w' ⟨rfl, rfl⟩
  go_wp2_with fail
  refine CL.out.mono ?_
  rintro e w2 ⟨A2, c2, rfl, hrow, hK3, hc2, b2⟩
  have HR := Lib.hid hrow
  have B2 := Lib.hid b2
  obtain ⟨i0, hi, hz0, hz1, hz2⟩ := info_parts info_bool
  have hmk := run_makeSlice (P := Tryd.prog) w2 36 4 i0 (.bool false) Tryd.underlying36 hi hz0 .i64 .i64 (K : Int) (K : Int) (by omega) (by omega) (by rw [hz1]; omega) (by rw [hz2]; omega) (by omega)
  rw [hz1, Int.toNat_natCast, Nat.mul_one] at hmk
  have hmc : madeCells (Value.bool false).cells K = (metL z K 0).toArray := by
    apply Array.toList_inj.1
    rw [show (Value.bool false).cells = #[Value.bool false] from rfl, toList_madeCells_one, metL_zero]
  rw [hmc] at hmk
  have hKK : ((K : Int) != (K : Int)) = false := by simp
  clear hrow b2 hi hz0 hz1 hz2 hmc CL CK hc2 hK3
  go_wp2_with fail
  have hk3 := Blk.new w2 (metL z K 0) 4
  have hb3 : Below w2.heap.size w2 (w2.alloc (.cells (metL z K 0).toArray 4)) := (Below.refl _ _).alloc (Nat.le_refl _) _
  obtain ⟨W3, hW3⟩ : ∃ W3, W3 = w2.alloc (.cells (metL z K 0).toArray 4) := ⟨_, rfl⟩
  rw [← hW3] at hk3 hb3 ⊢
  clear hmk hW3
  go_loopw [13, 14, 15, 16, 17] (fun i a b c d wr => ∃ k : Nat, k ≤ K ∧ i = .int .i64 k ∧ Blk wr w2.heap.size (metL z K k) 4 ∧ Below w2.heap.size w2 wr) (fun i _ _ _ _ _ => K - (intOf i).toNat)
  case atStart => exact ⟨0, Nat.zero_le _, rfl, hk3, hb3⟩
  case round =>
    clear hk3 hb3
    obtain ⟨k, hk, rfl, hm, hb⟩ := hrel
    by_cases hlt : k < K
    · obtain ⟨b, rfl, hg1, hg2, hcell⟩ := HR.out (by omega)
      have hc := (hb.cell (p := ⟨b, k, none⟩) hg2).trans (hcell k hlt)
      have hzk := HZ.out.1 k hlt
      have hnew := metB_new z k (fun x hx => HZ.out.2.1 x k hlt hx)
      have hmc := hm.cell (z k) _ (metL_at z K k (z k) hzk)
      rw [hnew] at hmc
      have hmf := hm.frozen (z k)
      have hms := hm.set (z k) (.bool true)
      rw [metL_set z K k hzk] at hms
      have hbs : Below w2.heap.size w2 (wr.setCell ⟨w2.heap.size, z k, none⟩ (.bool true)) := hb.setCell (Nat.le_refl _) _
      have hcs : (wr.setCell ⟨w2.heap.size, z k, none⟩ (.bool true)).cell? ⟨b, k, none⟩ = wr.cell? ⟨b, k, none⟩ := World.cell?_of_block (a := ⟨b, k, none⟩) (heap_setCell_other wr ⟨w2.heap.size, z k, none⟩ b _ (by show b ≠ w2.heap.size; omega))
      have hcs2 := hcs.trans hc
      have cB := CB.out (wr.setCell ⟨w2.heap.size, z k, none⟩ (.bool true)) k (B2.out.trans (hbs.mono B2.out.size)) hlt
      obtain ⟨y, hy⟩ : ∃ y, y = z k := ⟨_, rfl⟩
      rw [← hy] at hc hzk hmc hmf hms hbs cB hcs2
      have hne : ¬ b = w2.heap.size := by omega
      have hne2 : ¬ w2.heap.size = b := by omega
      have hkK : (k : Int) < K := by omega
      have hyK : (y : Int) < K := by omega
      have HY := Lib.hid hy
      have HM := Lib.hid (And.intro hms (And.intro hbs (And.intro hg2 hcs2)))
      have C1 := Lib.hid cB
      clear hcell hnew hm hb hms hbs cB hcs hcs2 hy hg1 hg2
      go_wp2_with fail
      refine C1.out.mono ?_
      rintro e w4 ⟨rfl, hb4⟩
      have hm4 := HM.out.1.below hb4 HM.out.1.lt
      have hb4' := HM.out.2.1.trans (hb4.mono HM.out.2.1.size)
      have hc4 := (hb4.cell (p := ⟨b, k, none⟩) (Nat.lt_of_lt_of_le HM.out.2.2.1 HM.out.2.1.size)).trans HM.out.2.2.2
      have cA := CA.out w4 k (B2.out.trans (hb4'.mono B2.out.size)) hlt
      rw [← HY.out] at cA
      have C2 := Lib.hid cA
      have H4 := Lib.hid (And.intro hm4 (And.intro hb4' hc4))
      have hb4s := hb4.size
      have HS := Lib.hid (Nat.lt_of_lt_of_le (Nat.lt_of_lt_of_le HM.out.2.2.1 HM.out.2.1.size) hb4.size)
      clear hm4 hb4' hb4 hb4s hc4 cA C1 hc hmc hmf HM
      go_wp2_with fail
      refine C2.out.mono ?_
      rintro e w5 ⟨rfl, hb5⟩
      have hm5 := H4.out.1.below hb5 H4.out.1.lt
      have hb5' := H4.out.2.1.trans (hb5.mono H4.out.2.1.size)
      have hc5 := (hb5.cell (p := ⟨b, k, none⟩) HS.out).trans H4.out.2.2
      have H5 := Lib.hid (And.intro hm5 hb5')
      have hkk : ((k : Int) != (k : Int)) = false := by simp
      have hyy : ((y : Int) != (y : Int)) = false := by simp
      clear hm5 hb5' hb5 C2 H4 HS
      go_wp2_with fail
      exact ⟨⟨k + 1, by omega, by go_num, H5.out.1, H5.out.2⟩, by simp [intOf]; omega⟩
    · obtain rfl : k = K := by omega
      have hb2 := B2.out.trans (hb.mono B2.out.size)
      have cL := lives_any wr (B1.out.2.below hb2)
      have BF := Lib.hid (B1.out.1.trans (hb2.mono B1.out.1.size))
      have CLv := Lib.hid cL
      clear cL hb2 hm
      go_wp2_with fail
      refine CLv.out.mono ?_
      rintro e w10 ⟨rfl, b10⟩
      go_wp2_with fail
      go_ret
      exact ⟨rfl, BF.out.trans (b10.mono BF.out.size)⟩
end Go.Proofs.YtcmepgjbplpnbaaDoor
end

