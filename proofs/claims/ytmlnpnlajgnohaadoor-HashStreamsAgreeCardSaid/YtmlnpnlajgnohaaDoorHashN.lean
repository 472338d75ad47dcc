/- The contracts of hash.Equal, of the reference's Bytes32 and Text, of hex. -/
import Derived.Test.YtmlnpnlajgnohaaDoorHashM
import Derived.Test.YtmlnpnlajgnohaaDoorWireRc0
namespace Go.Proofs.YtmlnpnlajgnohaaDoor
open Go.RowKit
set_option linter.unusedVariables false

theorem index_sb (s : ByteArray) (kd : IntKind) (n : Nat) (h : n < s.size) (w : World) : (Instr.index 9 (.string s) (.int kd (n : Int))).run Tryd.prog w = .ok (.int .u8 (((sb s).getD n 0).toNat : Int)) w := by
  rw [run_index_string w 9 s kd n Tryd.underlying9, dif_pos ⟨by omega, by omega⟩]
  have e : (sb s).getD n 0 = s[n]'h := by
    unfold sb
    rw [List.getD_eq_getElem?_getD, List.getElem?_eq_getElem (by simpa using h)]
    rfl
  rw [e]
  rfl
theorem bor8 (x y : UInt8) : bits .or .u8 (x.toNat : Int) (y.toNat : Int) = ((x ||| y).toNat : Int) := by
  rw [u8_or_nat _ _ x.toNat_lt y.toNat_lt, UInt8.toNat_or]
theorem diff_zero (d x y : UInt8) : d ||| (x ^^^ y) = 0 ↔ d = 0 ∧ x = y := by
  have : ∀ a b : UInt8, a ||| b = 0 ↔ a = 0 ∧ b = 0 := by
    intro a b
    constructor
    · intro h
      have h1 : a.toBitVec ||| b.toBitVec = 0 := congrArg UInt8.toBitVec h
      have h2 := BitVec.or_eq_zero_iff.1 h1
      exact ⟨UInt8.eq_of_toBitVec_eq h2.1, UInt8.eq_of_toBitVec_eq h2.2⟩
    · rintro ⟨rfl, rfl⟩; rfl
  rw [this]
  refine and_congr_right fun _ => ?_
  constructor
  · intro h
    have h1 : x.toBitVec ^^^ y.toBitVec = 0 := congrArg UInt8.toBitVec h
    exact UInt8.eq_of_toBitVec_eq (BitVec.xor_eq_zero_iff.1 h1)
  · rintro rfl
    exact UInt8.eq_of_toBitVec_eq (by show x.toBitVec ^^^ x.toBitVec = 0; exact BitVec.xor_self)
theorem take_eq_succ (l m : List UInt8) (k : Nat) (h : k < l.length) (h' : k < m.length) : l.take (k + 1) = m.take (k + 1) ↔ l.take k = m.take k ∧ l.getD k 0 = m.getD k 0 := by
  rw [List.take_add_one, List.take_add_one, List.getElem?_eq_getElem h, List.getElem?_eq_getElem h', show l.getD k 0 = l[k] from by simp [h], show m.getD k 0 = m[k] from by simp [h']]
  constructor
  · intro e
    have := List.append_inj e (by simp; omega)
    simpa using this
  · rintro ⟨h1, h2⟩
    rw [h1, h2]

set_option maxRecDepth 100000 in
set_option maxHeartbeats 2000000 in
theorem equal_any (a b : ByteArray) (w : World) (ha : a.size ≤ 1000000000) (hb : b.size ≤ 1000000000) :
    Calls Tryd.prog 24 #[.string a, .string b] w (Tells (decide (sb a = sb b)) w) := by
  have la := sb_len a
  have lb := sb_len b
  by_cases hl : a.size = b.size
  · have hne : ((a.size : Int) != (b.size : Int)) = false := by rw [hl]; simp
    have HL := Lib.hid (And.intro hl (And.intro la lb))
    have hle : (a.size : Int) ≤ b.size := by omega
    clear hl la lb
    go_enter Tryd.func24, Tryd.ntmps24
    go_wp2_with fail
    go_loopw [14, 5] (fun i d wr => ∃ (k : Nat) (x : UInt8), k ≤ a.size ∧ i = .int .i64 k ∧ d = .int .u8 (x.toNat : Int) ∧ Hid (x = 0 ↔ (sb a).take k = (sb b).take k) ∧ Below w.heap.size w wr) (fun i _ _ => a.size - (intOf i).toNat)
    case atStart => exact ⟨0, 0, by omega, rfl, rfl, Lib.hid (by simp), Below.refl _ _⟩
    case round =>
      obtain ⟨k, x, hk, rfl, rfl, Hx, hbel⟩ := hrel
      by_cases hlt : k < a.size
      · obtain ⟨p, hp⟩ : ∃ p, p = (sb a).getD k 0 := ⟨_, rfl⟩
        obtain ⟨q, hq⟩ : ∃ q, q = (sb b).getD k 0 := ⟨_, rfl⟩
        have ip := fun W => index_sb a .i64 k hlt W
        have iq := fun W => index_sb b .i64 k (by omega) W
        rw [← hp] at ip
        rw [← hq] at iq
        have hnext : x ||| (p ^^^ q) = 0 ↔ (sb a).take (k + 1) = (sb b).take (k + 1) := by
          rw [diff_zero, take_eq_succ _ _ k (by rw [HL.out.2.1]; omega) (by rw [HL.out.2.2]; omega), Hx.out, hp, hq]
        have Hn := Lib.hid hnext
        have ik : (k : Int) < a.size := by omega
        have ik2 : (k : Int) < b.size := by omega
        have ik0 : (0 : Int) ≤ k := by omega
        clear hp hq hnext
        go_wp2_with fail
        have r1 := bxor8
        have r2 := bor8
        go_quiet (fail)
        clear r1 r2 ip iq
        go_wp2_with fail
        exact ⟨⟨k + 1, x ||| (p ^^^ q), by omega, by go_num, congrArg (Value.int IntKind.u8) (by rw [← UInt8.toNat_xor, bor8]), Hn, drewN_below hbel _⟩, by simp [intOf]; omega⟩
      · have hka : k = a.size := by omega
        have hx := Hx.out
        rw [hka, List.take_of_length_le (by rw [HL.out.2.1]; omega), List.take_of_length_le (by have := HL.out.1; rw [HL.out.2.2]; omega)] at hx
        have hge : (a.size : Int) ≤ k := by omega
        by_cases h0 : x = 0
        · have hz : ((x.toNat : Int) == 0) = true := by rw [h0]; rfl
          have hd : decide (sb a = sb b) = true := by simpa using hx.1 h0
          have Hd := Lib.hid hd
          clear hka hx h0 Hx hd
          go_wp2_with fail
          go_ret
          exact ⟨by rw [Hd.out]; rfl, hbel⟩
        · have hz : ((x.toNat : Int) == 0) = false := by
            simp only [beq_eq_false_iff_ne, ne_eq]
            intro h
            exact h0 (UInt8.toNat_inj.1 (by simpa using h))
          have hd : decide (sb a = sb b) = false := by simpa using fun e => h0 (hx.2 e)
          have Hd := Lib.hid hd
          clear hka hx h0 Hx hd
          go_wp2_with fail
          go_ret
          exact ⟨by rw [Hd.out]; rfl, hbel⟩
  · have hne : ((a.size : Int) != (b.size : Int)) = true := by simp; omega
    have hd : decide (sb a = sb b) = false := by
      simp
      intro e
      exact hl (by rw [← la, ← lb, e])
    have Hd := Lib.hid hd
    clear hl hd la lb
    go_enter Tryd.func24, Tryd.ntmps24
    go_wp2_with fail
    go_ret
    exact ⟨by rw [Hd.out]; rfl, Below.refl _ _⟩

/-- Bytes one by one out of a variable, onto a slice of the call's own. -/
def digits : ByteArray := ⟨#[48, 49, 50, 51, 52, 53, 54, 55, 56, 57, 97, 98, 99, 100, 101, 102]⟩
def hexD (n : Nat) : UInt8 := (sb digits).getD n 0
def hexS (l : List UInt8) : List UInt8 := l.flatMap fun c => [hexD (c.toNat / 16), hexD (c.toNat % 16)]
theorem hexS_len (l : List UInt8) : (hexS l).length = 2 * l.length := by
  unfold hexS
  induction l with
  | nil => rfl
  | cons c l ih => rw [List.flatMap_cons, List.length_append, ih]; simp; omega

set_option maxRecDepth 100000 in
set_option maxHeartbeats 2000000 in
theorem bytes32_any (l : List UInt8) (w : World) (hl : l.length = 32) :
    Calls Tryd.prog 20 #[.agg (l.map bv).toArray] w fun e w' => e = .returned (.string (bs l)) ∧ Below w.heap.size w w' := by
  obtain ⟨i0, hi, hz0, hz1, hz2⟩ := info_parts info_u8
  obtain ⟨X, hX⟩ : ∃ X, X = l.map bv := ⟨_, rfl⟩
  have hXl : X.length = 32 := by rw [hX, List.length_map, hl]
  rw [← hX]
  have hb0 : Blk (w.alloc (.cells X.toArray 24)) w.heap.size X 24 := Blk.new w _ _
  have HB0 := Lib.hid hb0
  have HX := Lib.hid hX
  have HL := Lib.hid hl
  clear hX hXl hb0 hl
  go_enter Tryd.func20, Tryd.ntmps20
  go_wp2_with fail
  go_loopw [4, 3] (fun i v wr => ∃ k : Nat, k ≤ 32 ∧ i = .int .i64 k ∧ wr.ownsRow (w.heap.size + 1) 5 1 v k ((l.take k).map bv) ∧ Blk wr w.heap.size X 24 ∧ Below w.heap.size w wr ∧ w.heap.size + 1 ≤ wr.heap.size) (fun i _ _ => 32 - (intOf i).toNat)
  case atStart => exact ⟨0, by omega, rfl, own_nil _ _ _ _, HB0.out, (Below.refl _ _).alloc (Nat.le_refl _) _, by simp⟩
  case round =>
    clear HB0
    obtain ⟨k, hk, rfl, hown, hB, hbel, hsz⟩ := hrel
    by_cases hlt : k < 32
    · have hl := HL.out
      obtain ⟨x, hx⟩ : ∃ x, x = l.getD k 0 := ⟨_, rfl⟩
      have g1 : wr.cell? ⟨w.heap.size, k, none⟩ = some (.int .u8 (x.toNat : Int)) := hB.cell k (bv x) (by rw [HX.out, List.getElem?_map, getD_at l k 0 (by omega), hx]; rfl)
      have hnext : (l.take (k + 1)).map bv = (l.take k).map bv ++ [.int .u8 (x.toNat : Int)] := by
        rw [List.take_add_one, List.getElem?_eq_getElem (by omega), hx, show l.getD k 0 = l[k]'(by omega) from by simp [hl, hlt]]
        simp only [Option.toList, List.map_append, List.map_cons, List.map_nil]
        rfl
      have Hn := Lib.hid hnext
      have HB := Lib.hid hB
      have ik : (k : Int) < 32 := by omega
      have hmx : k + 1 ≤ maxLen := by unfold maxLen; omega
      clear hx hnext hB hl
      go_wp2_with (at_builtin; refine wpList_append_own _ rfl (.tmp 9) (.tmp 13) 22 rfl (w.heap.size + 1) 5 i0 (.int .u8 0) 1 1 Tryd.underlying22 hi hz0 hz1 hz2 rfl (by decide) _ k ((l.take k).map bv) rfl (hown.alloc _) ⟨wr.heap.size, 0, none⟩ 1 1 [.int .u8 (x.toNat : Int)] rfl rfl (cell_one _ _ _) (by intro u hu; simp at hu; subst hu; rfl) hmx (by omega) (by simp only [World.size_alloc]; omega) ?_; intro v' w1 hown' hgrow _; have hblk1 := (HB.out.alloc (.cells #[.int .u8 (x.toNat : Int)] 5)); have hown0 := hown.alloc (.cells #[.int .u8 (x.toNat : Int)] 5))
      refine ⟨⟨k + 1, by omega, by go_num, by rw [Hn.out]; exact hown', ?_, (hbel.alloc (by omega) _).grown hgrow (by simp only [World.size_alloc]; omega) (fun j hj => by have := (hown.lt j hj).1; omega), by have := hgrow.size; simp only [World.size_alloc] at this; omega⟩, by simp [intOf]; omega⟩
      exact (hgrow.block w.heap.size (by simp only [World.size_alloc]; omega) (fun e => by have := (hown.lt _ e.symm).1; omega)).trans hblk1
    · have hk32 : k = 32 := by omega
      have hge : (32 : Int) ≤ k := by omega
      rw [hk32, List.take_of_length_le (by rw [HL.out]; omega)] at hown
      obtain ⟨A, c, rfl, hr, -, -⟩ := own_rd (B := 0) hown
      have hcv := conv_bytes wr _ A l c hr
      rw [HL.out] at hcv
      clear hk32 hown hr hB
      go_wp2_with fail
      go_ret
      exact ⟨rfl, hbel⟩

set_option maxRecDepth 100000 in
set_option maxHeartbeats 2000000 in
theorem text_any (l : List UInt8) (w : World) (hl : l.length = 16) :
    Calls Tryd.prog 26 #[.agg (l.map bv).toArray] w fun e w' => e = .returned (.string (bs l)) ∧ Below w.heap.size w w' := by
  obtain ⟨i0, hi, hz0, hz1, hz2⟩ := info_parts info_u8
  obtain ⟨X, hX⟩ : ∃ X, X = l.map bv := ⟨_, rfl⟩
  have hXl : X.length = 16 := by rw [hX, List.length_map, hl]
  rw [← hX]
  have hb0 : Blk (w.alloc (.cells X.toArray 44)) w.heap.size X 44 := Blk.new w _ _
  have HB0 := Lib.hid hb0
  have HX := Lib.hid hX
  have HL := Lib.hid hl
  clear hX hXl hb0 hl
  go_enter Tryd.func26, Tryd.ntmps26
  go_wp2_with fail
  go_loopw [4, 3] (fun i v wr => ∃ k : Nat, k ≤ 16 ∧ i = .int .i64 k ∧ wr.ownsRow (w.heap.size + 1) 5 1 v k ((l.take k).map bv) ∧ Blk wr w.heap.size X 44 ∧ Below w.heap.size w wr ∧ w.heap.size + 1 ≤ wr.heap.size) (fun i _ _ => 16 - (intOf i).toNat)
  case atStart => exact ⟨0, by omega, rfl, own_nil _ _ _ _, HB0.out, (Below.refl _ _).alloc (Nat.le_refl _) _, by simp⟩
  case round =>
    clear HB0
    obtain ⟨k, hk, rfl, hown, hB, hbel, hsz⟩ := hrel
    by_cases hlt : k < 16
    · have hl := HL.out
      obtain ⟨x, hx⟩ : ∃ x, x = l.getD k 0 := ⟨_, rfl⟩
      have g1 : wr.cell? ⟨w.heap.size, k, none⟩ = some (.int .u8 (x.toNat : Int)) := hB.cell k (bv x) (by rw [HX.out, List.getElem?_map, getD_at l k 0 (by omega), hx]; rfl)
      have hnext : (l.take (k + 1)).map bv = (l.take k).map bv ++ [.int .u8 (x.toNat : Int)] := by
        rw [List.take_add_one, List.getElem?_eq_getElem (by omega), hx, show l.getD k 0 = l[k]'(by omega) from by simp [hl, hlt]]
        simp only [Option.toList, List.map_append, List.map_cons, List.map_nil]
        rfl
      have Hn := Lib.hid hnext
      have HB := Lib.hid hB
      have ik : (k : Int) < 16 := by omega
      have hmx : k + 1 ≤ maxLen := by unfold maxLen; omega
      clear hx hnext hB hl
      go_wp2_with (at_builtin; refine wpList_append_own _ rfl (.tmp 9) (.tmp 13) 22 rfl (w.heap.size + 1) 5 i0 (.int .u8 0) 1 1 Tryd.underlying22 hi hz0 hz1 hz2 rfl (by decide) _ k ((l.take k).map bv) rfl (hown.alloc _) ⟨wr.heap.size, 0, none⟩ 1 1 [.int .u8 (x.toNat : Int)] rfl rfl (cell_one _ _ _) (by intro u hu; simp at hu; subst hu; rfl) hmx (by omega) (by simp only [World.size_alloc]; omega) ?_; intro v' w1 hown' hgrow _; have hblk1 := (HB.out.alloc (.cells #[.int .u8 (x.toNat : Int)] 5)); have hown0 := hown.alloc (.cells #[.int .u8 (x.toNat : Int)] 5))
      refine ⟨⟨k + 1, by omega, by go_num, by rw [Hn.out]; exact hown', ?_, (hbel.alloc (by omega) _).grown hgrow (by simp only [World.size_alloc]; omega) (fun j hj => by have := (hown.lt j hj).1; omega), by have := hgrow.size; simp only [World.size_alloc] at this; omega⟩, by simp [intOf]; omega⟩
      exact (hgrow.block w.heap.size (by simp only [World.size_alloc]; omega) (fun e => by have := (hown.lt _ e.symm).1; omega)).trans hblk1
    · have hk16 : k = 16 := by omega
      have hge : (16 : Int) ≤ k := by omega
      rw [hk16, List.take_of_length_le (by rw [HL.out]; omega)] at hown
      obtain ⟨A, c, rfl, hr, -, -⟩ := own_rd (B := 0) hown
      have hcv := conv_bytes wr _ A l c hr
      rw [HL.out] at hcv
      clear hk16 hown hr hB
      go_wp2_with fail
      go_ret
      exact ⟨rfl, hbel⟩
end Go.Proofs.YtmlnpnlajgnohaaDoor
