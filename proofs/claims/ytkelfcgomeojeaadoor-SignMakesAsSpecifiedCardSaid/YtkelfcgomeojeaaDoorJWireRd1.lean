import Derived.ArgAppend
import Derived.Lib.ConvBytes
import Derived.Test.YtkelfcgomeojeaaDoorJHashI
import Derived.Test.YtkelfcgomeojeaaDoorJHashM
import Derived.Test.YtkelfcgomeojeaaDoorJWireD
import Derived.Test.YtkelfcgomeojeaaDoorJWireK0
import Derived.Test.YtkelfcgomeojeaaDoorJWireRc0

section
/- Appends of bytes: onto a slice of the call's own, and onto one without spare room. -/


namespace Go.Proofs.YtkelfcgomeojeaaDoor
open Go.RowKit
set_option linter.unusedVariables false
set_option maxRecDepth 100000

theorem own_new (w : World) (base n : Nat) (e : TypeId) (xs : List Value) (hn : xs.length = n) (hb : base ≤ w.heap.size) (hm : n ≤ maxLen) :
    (w.alloc (.cells xs.toArray e)).ownsRow base e 1 (.slice (some ⟨w.heap.size, 0, none⟩) n n) n xs :=
  ⟨by omega, .inr ⟨w.heap.size, n, xs.toArray, rfl, hb, heap_alloc_new w _, Nat.le_refl _, hm, by simp [hn], by simp [← hn]⟩⟩
theorem run_append_ownB (w : World) (ty : TypeId) (base : Nat) (v : Value) (l l' : List UInt8) (A' : Option Addr) (c' : Nat) (hown : w.ownsRow base 5 1 v l.length (l.map bv)) (hr' : RdB w w.heap.size A' l')
    (hb : l.length + l'.length ≤ 1000000000) (hbase : base ≤ w.heap.size) :
    ∃ v' w', (Builtin.append_ #[51, 51] ty #[v, .slice A' l'.length c']).run Tryd.prog w = .ok v' w' ∧ w'.ownsRow base 5 1 v' (l ++ l').length ((l ++ l').map bv) ∧ w.grownBy w' v.ownBlock := by
  obtain ⟨i0, hi, hz0, hz1, hz2⟩ := info_parts info_u8
  rw [List.length_append, List.map_append]
  cases A' with
  | some a =>
    have hnews : ∀ (j : Nat) (u : Value), (l'.map bv)[j]? = some u → w.cell? (a.add j) = some u := by
      intro j u hu
      have hp : 0 < (l'.map bv).length := by have := (List.getElem?_eq_some_iff.1 hu).1; omega
      obtain ⟨b, off, e, hlt, hcell⟩ := hr' hp
      injection e with e
      subst e
      rw [Addr.add_mid]
      exact hcell j u hu
    obtain ⟨v', w', h1, h2, h3, -⟩ := run_append_own (P := Tryd.prog) w base 51 ty 5 i0 (.int .u8 0) 1 1 Tryd.underlying51 hi hz0 hz1 hz2 rfl (by decide) v l.length (l.map bv) hown a l'.length c' (l'.map bv) (by simp) hnews (one_cells _) (by unfold maxLen; omega) (by omega) hbase
    exact ⟨v', w', h1, h2, h3⟩
  | none =>
    have h0 : l' = [] := by
      cases l' with
      | nil => rfl
      | cons x t => obtain ⟨b, off, e, _⟩ := hr' (by simp); cases e
    subst h0
    refine ⟨v, w, ?_, by simpa using hown, ⟨rfl, rfl, rfl, Nat.le_refl _, fun _ _ _ => rfl⟩⟩
    rcases hown.2 with ⟨rfl, h0⟩ | ⟨g, cap, cur, rfl, _, _, hnc, _⟩
    · simp [Builtin.append_, run_underlying Tryd.underlying51, sizeOf, typeInfo, hi, Builtin.lenOf, Builtin.firstCells]
    · simp [Builtin.append_, run_underlying Tryd.underlying51, sizeOf, typeInfo, hi, Builtin.lenOf, Builtin.firstCells, hnc, storeCells]

theorem wpList_append_ownB {ops : Array Oper} {rest : List Oper} {o : Oper} {a : Act} {Q : Exit → Act → World → Prop} (w : World) (hgd : o.guard = none) (s x : Operand)
    (ho : o.op = .call { callee := .builtin .append, args := #[s, x], argTypes := #[51, 51] }) (base : Nat) (v : Value) (l l' : List UInt8) (A' : Option Addr) (c' : Nat)
    (hs : a.eval s = v) (hx : a.eval x = .slice A' l'.length c') (hown : w.ownsRow base 5 1 v l.length (l.map bv)) (hr' : RdB w w.heap.size A' l') (hb : l.length + l'.length ≤ 1000000000) (hbase : base ≤ w.heap.size)
    (h : ∀ v' w', w'.ownsRow base 5 1 v' (l ++ l').length ((l ++ l').map bv) → w.grownBy w' v.ownBlock → wpList Tryd.prog ops Q rest (a.put o.dst v') w') : wpList Tryd.prog ops Q (o :: rest) a w := by
  obtain ⟨v', w', hrun, h1, h2⟩ := run_append_ownB w o.type base v l l' A' c' hown hr' hb hbase
  refine wpList_plain hgd fun K hK => ?_
  unfold Oper.wp execOp
  simp only [ho, resolve, invoke, builtin, Sem.run_bind, Sem.run_pure, Result.andThen_ok, List.map_toArray, List.map_cons, List.map_nil, hs, hx, hrun]
  exact hK _ _ (h v' w' h1 h2)

/-- Bytes in a slice value. -/
def IsB (v : Value) (l : List UInt8) (w : World) : Prop := ∃ A c, v = .slice A l.length c ∧ RdB w w.heap.size A l ∧ l.length ≤ c ∧ c ≤ maxLen

theorem run_append_full (w : World) (ty : TypeId) (A A' : Option Addr) (l l' : List UInt8) (c' : Nat) (hr : RdB w w.heap.size A l) (hr' : RdB w w.heap.size A' l') (hpos : 0 < l.length) (hb : l.length + l'.length ≤ 1000000000) :
    ∃ v w', (Builtin.append_ #[51, 51] ty #[.slice A l.length l.length, .slice A' l'.length c']).run Tryd.prog w = .ok v w' ∧ IsB v (l ++ l') w' ∧ Below w.heap.size w w' := by
  obtain ⟨i0, hi, hz0, hz1, hz2⟩ := info_parts info_u8
  obtain ⟨b, off, rfl, hlt, hcell⟩ := hr (by simpa using hpos)
  cases hl' : l' with
  | nil =>
    refine ⟨.slice (some ⟨b, off, none⟩) l.length l.length, w, ?_, ⟨some ⟨b, off, none⟩, l.length, by simp, by simpa using hr, by simp, by unfold maxLen; omega⟩, Below.refl _ _⟩
    cases A' with
    | none => simp [Builtin.append_, run_underlying Tryd.underlying51, sizeOf, typeInfo, hi, Builtin.lenOf, Builtin.firstCells, storeCells]
    | some a =>
      have h := run_append_room_cells (P := Tryd.prog) w 51 ty 5 i0 Tryd.underlying51 hi b off l.length l.length a 0 c' [] (by simp) (by simp) (by simp) (by omega) (by simp) (by simp)
      simpa [World.setCells] using h
  | cons x t =>
    rw [← hl']
    have hp' : 0 < l'.length := by rw [hl']; simp
    obtain ⟨b', off', rfl, hlt', hcell'⟩ := hr' (by simpa using hp')
    obtain ⟨v, w', h1, h2, h3⟩ := run_append_arg_grows (P := Tryd.prog) w 51 ty 5 i0 (.int .u8 0) 1 1 Tryd.underlying51 hi hz0 hz1 hz2 rfl (by decide) ⟨b, off, none⟩ l.length l.length (l.map bv) (by simp)
      (fun j u hu => by rw [Addr.add_mid]; exact hcell j u hu) ⟨b', off', none⟩ l'.length c' (l'.map bv) (by simp) (fun j u hu => by rw [Addr.add_mid]; exact hcell' j u hu) (by omega) (by unfold maxLen; omega) (by omega)
    obtain ⟨A, c, rfl, r1, r2, r3⟩ := own_rd (B := 0) h2
    refine ⟨_, w', h1, ⟨A, c, by rw [List.length_append], ?_, by rw [List.length_append]; exact r2, r3⟩, ⟨h3.os, h3.tape, h3.output, h3.size, fun k hk => h3.block k hk (by simp)⟩⟩
    unfold RdB
    rw [List.map_append]
    exact r1

theorem wpList_append_full {ops : Array Oper} {rest : List Oper} {o : Oper} {a : Act} {Q : Exit → Act → World → Prop} (w : World) (hgd : o.guard = none) (s x : Operand)
    (ho : o.op = .call { callee := .builtin .append, args := #[s, x], argTypes := #[51, 51] }) (A A' : Option Addr) (l l' : List UInt8) (c' : Nat)
    (hs : a.eval s = .slice A l.length l.length) (hx : a.eval x = .slice A' l'.length c') (hr : RdB w w.heap.size A l) (hr' : RdB w w.heap.size A' l') (hpos : 0 < l.length) (hb : l.length + l'.length ≤ 1000000000)
    (h : ∀ v w', IsB v (l ++ l') w' → Below w.heap.size w w' → wpList Tryd.prog ops Q rest (a.put o.dst v) w') : wpList Tryd.prog ops Q (o :: rest) a w := by
  obtain ⟨v, w', hrun, h1, h2⟩ := run_append_full w o.type A A' l l' c' hr hr' hpos hb
  refine wpList_plain hgd fun K hK => ?_
  unfold Oper.wp execOp
  simp only [ho, resolve, invoke, builtin, Sem.run_bind, Sem.run_pure, Result.andThen_ok, List.map_toArray, List.map_cons, List.map_nil, hs, hx, hrun]
  exact hK _ _ (h v w' h1 h2)
end Go.Proofs.YtkelfcgomeojeaaDoor
end

section
/- The contract of the reference's padded. -/



namespace Go.Proofs.YtkelfcgomeojeaaDoor
open Go.RowKit
set_option linter.unusedVariables false
set_option maxRecDepth 100000

def lenV : Value → Nat
  | .slice _ n _ => n
  | _ => 0
def padA (l : List UInt8) (k : Nat) : List UInt8 := l ++ ([128] ++ H.zeros k)
theorem padA_len (l : List UInt8) (k : Nat) : (padA l k).length = l.length + 1 + k := by simp [padA, H.zeros_len]; omega
theorem padA_succ (l : List UInt8) (k : Nat) : padA l (k + 1) = padA l k ++ [0] := by
  unfold padA H.zeros
  rw [List.replicate_succ']
  simp
def padB (l : List UInt8) (k : Nat) : List UInt8 := padA l ((119 - l.length % 64) % 64) ++ (H.be64 (8 * l.length)).take k
theorem padB_len (l : List UInt8) (k : Nat) (hk : k ≤ 8) : (padB l k).length = l.length + 1 + (119 - l.length % 64) % 64 + k := by
  simp [padB, padA_len, H.be64_len]; omega
theorem padB_succ (l : List UInt8) (k : Nat) (hk : k < 8) : padB l (k + 1) = padB l k ++ [UInt8.ofNat (8 * l.length / 2 ^ (56 - 8 * k))] := by
  unfold padB
  rw [List.take_add_one, be64_at _ k hk, List.append_assoc]
  rfl
theorem padB_full (l : List UInt8) : padB l 8 = H.pad l := by
  unfold padB padA H.pad
  rw [List.take_of_length_le (by rw [H.be64_len]; omega)]
  simp

theorem own_lenV {w : World} {base n size : Nat} {e : TypeId} {v : Value} {xs : List Value} (h : w.ownsRow base e size v n xs) : lenV v = n := by
  rcases h.2 with ⟨rfl, h0⟩ | ⟨g, cap, cur, rfl, _⟩
  · exact h0.symm
  · rfl

set_option maxHeartbeats 2000000 in
theorem refPadded_any (A : Option Addr) (cap : Nat) (l : List UInt8) (w : World) (hr : RdB w w.heap.size A l) (hl : l.length ≤ 100000000) :
    Calls Tryd.prog 74 #[.slice A l.length cap] w (Makes (H.pad l) w) := by
  obtain ⟨i0, hi, hz0, hz1, hz2⟩ := info_parts info_u8
  obtain ⟨n, hn⟩ : ∃ n, n = l.length := ⟨_, rfl⟩
  obtain ⟨w1, hw1⟩ : ∃ w1, w1 = w.alloc (.cells #[] 5) := ⟨_, rfl⟩
  have hb1 : Below w.heap.size w w1 := by rw [hw1]; exact (Below.refl _ _).alloc (Nat.le_refl _) _
  have ho1 : w1.ownsRow w.heap.size 5 1 (.slice (some ⟨w.heap.size, 0, none⟩) 0 0) ([] : List UInt8).length (([] : List UInt8).map bv) := by rw [hw1]; exact own_new w w.heap.size 0 5 [] rfl (Nat.le_refl _) (by decide)
  have hr1 : RdB w1 w1.heap.size A l := (hr.below hb1).more hb1.size
  have HW1 := Lib.hid hw1
  have K1 := Lib.hid (And.intro hb1 (And.intro ho1 hr1))
  have Hn := Lib.hid hn
  rw [← hn] at hl ⊢
  clear hw1 hb1 ho1 hr hr1 hn
  go_enter Tryd.func74, Tryd.ntmps74
  go_wp2_with (first
    | (at_builtin; rw [← HW1.out]; refine wpList_append_ownB w1 rfl (.tmp 6) (.tmp 7) rfl w.heap.size (.slice (some ⟨w.heap.size, 0, none⟩) 0 0) [] l A cap rfl (by rw [← Hn.out]; rfl) K1.out.2.1 K1.out.2.2 (by rw [← Hn.out]; simp; omega) K1.out.1.size ?_; intro v2 w2 hown2 hgrow2; have hb2 := Lib.hid (K1.out.1.grown hgrow2 K1.out.1.size (fun j hj => (K1.out.2.1.lt j hj).1)); rw [List.nil_append] at hown2; clear hgrow2)
    | (at_builtin; refine wpList_append_ownB _ rfl (.tmp 9) (.tmp 10) rfl w.heap.size _ l [128] (some ⟨w2.heap.size, 0, none⟩) 1 rfl rfl (hown2.alloc _) (rd_new w2 [bv 128] 5) (by rw [← Hn.out]; simp; omega) (by have := hb2.out.size; simp; omega) ?_; intro v3 w3 hown3 hgrow3; have hb3 := Lib.hid ((hb2.out.alloc hb2.out.size (.cells #[.int .u8 128] 5)).grown hgrow3 (by have := hb2.out.size; simp; omega) (fun j hj => (hown2.lt j hj).1)); clear hgrow3 hown2 hb2))
  obtain ⟨Z, hZ⟩ : ∃ Z, Z = (119 - n % 64) % 64 := ⟨_, rfl⟩
  have HZ := Lib.hid hZ
  clear hZ
  rw [show l ++ [128] = padA l 0 by simp [padA, H.zeros]] at hown3
  go_loopw [3] (fun v wr => ∃ k, k ≤ Z ∧ wr.ownsRow w.heap.size 5 1 v (padA l k).length ((padA l k).map bv) ∧ Below w.heap.size w wr) (fun v _ => n + 1 + Z - lenV v)
  case atStart => exact ⟨0, Nat.zero_le _, hown3, hb3.out⟩
  case round =>
    clear hown3 hb3
    obtain ⟨k, hk, hown, hbel⟩ := hrel
    have hN := padA_len l k
    rw [← Hn.out] at hN
    have hsucc := padA_succ l k
    obtain ⟨N, hNN⟩ : ∃ N, N = (padA l k).length := ⟨_, rfl⟩
    have hown' := hown
    rw [← hNN] at hN hown'
    obtain ⟨g, cap2, rfl, hg1, hg2, hg3, hg4, hcl⟩ := own_form hown' (by omega)
    have HN := Lib.hid hNN
    have Hs := Lib.hid hsucc
    have Hc := Lib.hid hcl
    clear hNN hsucc hcl hown'
    by_cases hlt : k < Z
    · have hz := HZ.out
      have hm : ((N : Int) % 64 != 56) = true := by simp; omega
      have hm2 : ((N : Int) % 64 == 56) = false := by simp; omega
      have hm3 : (N : Int).tmod 64 = (N : Int) % 64 := Int.tmod_eq_emod_of_nonneg (by omega)
      have hpos : 0 < N := by omega
      have hbig : N ≤ 200000000 := by omega
      have HN1 := Lib.hid hN
      clear hz hN
      go_wp2_with (at_builtin; refine wpList_append_ownB _ rfl (.tmp 16) (.tmp 17) rfl w.heap.size _ (padA l k) [0] (some ⟨wr.heap.size, 0, none⟩) 1 rfl rfl (hown.alloc _) (rd_new wr [bv 0] 5) (by rw [← HN.out]; simp; omega) (by have := hbel.size; simp; omega) ?_; intro v4 w4 hown4 hgrow4; have hb4 := Lib.hid ((hbel.alloc hbel.size (.cells #[.int .u8 0] 5)).grown hgrow4 (by have := hbel.size; simp; omega) (fun j hj => (hown.lt j hj).1)); rw [← Hs.out] at hown4; clear hgrow4 hown hbel)
      refine ⟨⟨k + 1, by omega, hown4, hb4.out⟩, ?_⟩
      rw [own_lenV hown4, padA_len, ← Hn.out]
      show _ < n + 1 + Z - N
      have := HN1.out
      omega
    · have hkz : k = Z := by omega
      have hz := HZ.out
      have hm : ((N : Int) % 64 != 56) = false := by simp; omega
      have hm2 : ((N : Int) % 64 == 56) = true := by simp; omega
      have hm3 : (N : Int).tmod 64 = (N : Int) % 64 := Int.tmod_eq_emod_of_nonneg (by omega)
      have HN1 := Lib.hid hN
      clear hz hN
      have e0 : padA l k = padB l 0 := by rw [hkz, HZ.out, Hn.out]; simp [padB]
      rw [e0] at hown
      clear e0 hkz
      go_wp2_with fail
      go_loopw [3, 5] (fun v i wr => ∃ k : Nat, k ≤ 8 ∧ i = .int .i64 k ∧ wr.ownsRow w.heap.size 5 1 v (padB l k).length ((padB l k).map bv) ∧ Below w.heap.size w wr) (fun _ i _ => 8 - (intOf i).toNat)
      case atStart => exact ⟨0, Nat.zero_le _, rfl, hown, hbel⟩
      case round =>
        clear hown hbel
        obtain ⟨k, hk, rfl, hown, hbel⟩ := hrel
        by_cases hlt : k < 8
        · have ik : (k : Int) < 8 := by omega
          have hsucc := padB_succ l k hlt
          have hN := padB_len l k (by omega)
          rw [← Hn.out] at hN
          have hbig : (padB l k).length ≤ 200000000 := by omega
          have Hs := Lib.hid hsucc
          clear hsucc hN
          obtain ⟨c, hc⟩ : ∃ c, c = UInt8.ofNat (8 * l.length / 2 ^ (56 - 8 * k)) := ⟨_, rfl⟩
          have hbc : Value.int .u8 (8 * (n : Int) / 2 ^ (56 - 8 * k) % 256) = bv c := by
            rw [hc, bv_ofNat, ← div_cast, Hn.out]
            congr 3
          have hrd : RdB (wr.alloc (.cells #[.int .u8 (8 * (n : Int) / 2 ^ (56 - 8 * k) % 256)] 5)) (wr.alloc (.cells #[.int .u8 (8 * (n : Int) / 2 ^ (56 - 8 * k) % 256)] 5)).heap.size (some ⟨wr.heap.size, 0, none⟩) [c] := by
            have := rd_new wr [bv c] 5
            rw [hbc]
            exact this
          have Hrd := Lib.hid hrd
          rw [← hc] at Hs
          clear hrd hbc hc
          go_wp2_with (at_builtin; refine wpList_append_ownB _ rfl (.tmp 27) (.tmp 34) rfl w.heap.size _ (padB l k) [c] (some ⟨wr.heap.size, 0, none⟩) 1 rfl rfl (hown.alloc _) Hrd.out (by simp; omega) (by have := hbel.size; simp; omega) ?_; intro v4 w4 hown4 hgrow4; have hb4 := Lib.hid ((hbel.alloc hbel.size (.cells #[.int .u8 (8 * (n : Int) / 2 ^ (56 - 8 * k) % 256)] 5)).grown hgrow4 (by have := hbel.size; simp; omega) (fun j hj => (hown.lt j hj).1)); rw [← Hs.out] at hown4; clear hgrow4 hown hbel)
          exact ⟨⟨k + 1, by omega, by go_num, hown4, hb4.out⟩, by simp [intOf]; omega⟩
        · have hk8 : k = 8 := by omega
          have ik : (8 : Int) ≤ k := by omega
          rw [hk8, padB_full] at hown
          have Ho := Lib.hid hown
          clear hk8 hown
          go_wp2_with fail
          go_ret
          exact ⟨_, rfl, Ho.out, hbel⟩
end Go.Proofs.YtkelfcgomeojeaaDoor
end

section
/- The reference's Bytes. -/

namespace Go.Proofs.YtkelfcgomeojeaaDoor
open Go.RowKit
set_option linter.unusedVariables false
set_option maxRecDepth 100000

set_option maxHeartbeats 1000000 in
theorem refBytes_any (s : ByteArray) (w : World) (hs : s.size ≤ 1000000000) : Calls Tryd.prog 70 #[.string s] w (Makes (M.encB (sb s)) w) := by
  obtain ⟨i0, hi, hz0, hz1, hz2⟩ := info_parts info_u8
  have hI := M.I64_nat s.size (by omega)
  have hlen := M.encI_len_le s.size hI
  have hf : M.encB (sb s) = M.encI s.size ++ sb s := by unfold M.encB; rw [sb_len]
  have hl := sb_len s
  have Hf := Lib.hid hf
  have Hl := Lib.hid hl
  clear hf hl
  go_enter Tryd.func70, Tryd.ntmps70
  go_wp2_with fail
  refine (refInt_any s.size _ hI).mono ?_
  rintro e w' ⟨v, rfl, hown, hbel⟩
  have hB := hbel.size
  have hmx : (M.encI s.size).length + s.size ≤ maxLen := by unfold maxLen; omega
  obtain ⟨W2, c2, hcv, hcell, hb2⟩ := conv_str w' s
  have hB2 := hb2.size
  have hown2 := own_below hown hb2 (Nat.le_refl _)
  have Hcell := Lib.hid hcell
  clear hcell hown
  go_wp2_with (at_builtin; refine wpList_append_own _ rfl (.tmp 5) (.tmp 7) 51 rfl w.heap.size 5 i0 (.int .u8 0) 1 1 Tryd.underlying51 hi hz0 hz1 hz2 rfl (by decide) _ _ _ rfl hown2 ⟨w'.heap.size, 0, none⟩ s.size c2 ((sb s).map bv) rfl (by rw [List.length_map, Hl.out, Nat.mul_one]) Hcell.out (one_cells _) hmx (by omega) (by omega) ?_; intro v' w1 hown' hgrow _)
  go_ret
  refine ⟨v', rfl, ?_, (hbel.trans (hb2.mono hB)).grown hgrow (by omega) (fun k hk => (hown2.lt k hk).1)⟩
  rw [Hf.out, List.length_append, Hl.out, List.map_append]
  exact hown'

end Go.Proofs.YtkelfcgomeojeaaDoor
end

section
/- The contract of the reference's Input. -/



namespace Go.Proofs.YtkelfcgomeojeaaDoor
open Go.RowKit
set_option linter.unusedVariables false
set_option maxRecDepth 100000

theorem inp_len (tag : Int) (parts : List ByteArray) (hn : parts.length ≤ 12) (hs : ∀ s ∈ parts, s.size ≤ 400) (k : Nat) : (pre tag parts k).length ≤ 6000 := by
  have h : ∀ l : List ByteArray, (∀ s ∈ l, s.size ≤ 400) → (l.flatMap encP).length ≤ 409 * l.length := by
    intro l
    induction l with
    | nil => intro _; simp
    | cons s l ih =>
      intro h
      have h1 := h s (by simp)
      have h2 := ih fun t ht => h t (by simp [ht])
      have h3 := M.encI_len_le s.size (M.I64_nat s.size (by omega))
      rw [List.flatMap_cons, List.length_append, List.length_cons]
      have h4 : (encP s).length ≤ 409 := by
        unfold encP M.encB
        rw [List.length_append, sb_len]
        omega
      omega
  have h1 := h (parts.take k) fun s hm => hs s (List.mem_of_mem_take hm)
  have h2 : (parts.take k).length ≤ 12 := by rw [List.length_take]; omega
  unfold pre
  rw [List.length_cons]
  omega

theorem inp_len_upto (tag : Int) (parts : List ByteArray) (hn : parts.length ≤ 12) (hs : ∀ s ∈ parts, s.size ≤ 2000) (k : Nat) : (pre tag parts k).length ≤ 26000 := by
  have h : ∀ l : List ByteArray, (∀ s ∈ l, s.size ≤ 2000) → (l.flatMap encP).length ≤ 2009 * l.length := by
    intro l
    induction l with
    | nil => intro _; simp
    | cons s l ih =>
      intro h
      have h1 := h s (by simp)
      have h2 := ih fun t ht => h t (by simp [ht])
      have h3 := M.encI_len_le s.size (M.I64_nat s.size (by omega))
      rw [List.flatMap_cons, List.length_append, List.length_cons]
      have h4 : (encP s).length ≤ 2009 := by
        unfold encP M.encB
        rw [List.length_append, sb_len]
        omega
      omega
  have h1 := h (parts.take k) fun s hm => hs s (List.mem_of_mem_take hm)
  have h2 : (parts.take k).length ≤ 12 := by rw [List.length_take]; omega
  unfold pre
  rw [List.length_cons]
  omega

set_option maxHeartbeats 2000000 in
theorem input_upto (tag : Int) (A : Option Addr) (cap : Nat) (parts : List ByteArray) (w : World) (hr : Rd w w.heap.size A (parts.map sv)) (hn : parts.length ≤ 12) (hs : ∀ s ∈ parts, s.size ≤ 2000) :
    Calls Tryd.prog 58 #[.int .i64 tag, .slice A parts.length cap] w (Makes (inp tag parts) w) := by
  obtain ⟨i0, hi, hz0, hz1, hz2⟩ := info_parts info_u8
  obtain ⟨z, hz8⟩ : ∃ z, z = tag % 256 := ⟨_, rfl⟩
  have htb : bv (tagB tag) = .int .u8 z := by rw [bv_tag, hz8]
  have hwr : IntKind.u8.wrap tag = z := by rw [IntKind.wrap_u8', hz8]
  obtain ⟨W0, hW0⟩ : ∃ W0, W0 = w.alloc (.cells #[.int .u8 z] 5) := ⟨_, rfl⟩
  have hown0 : W0.ownsRow w.heap.size 5 1 (.slice (some ⟨w.heap.size, 0, none⟩) 1 1) (pre tag parts 0).length ((pre tag parts 0).map bv) := by
    rw [hW0]
    have h := own_new w w.heap.size 1 5 [.int .u8 z] rfl (Nat.le_refl _) (by decide)
    have e1 : (pre tag parts 0).map bv = [.int .u8 z] := by rw [← htb]; rfl
    rw [e1]
    exact h
  have hbel0 : Below w.heap.size w W0 := by rw [hW0]; exact (Below.refl _ _).alloc (Nat.le_refl _) _
  have hlen := inp_len_upto tag parts hn hs
  have hfull := pre_full tag parts
  have Hr := Lib.hid hr
  have Hs := Lib.hid hs
  have HW0 := Lib.hid hW0
  have K0 := Lib.hid (And.intro hown0 hbel0)
  have Hlen := Lib.hid hlen
  have Hfull := Lib.hid hfull
  clear hr hs hz8 htb hW0 hown0 hbel0 hlen hfull
  go_enter Tryd.func58, Tryd.ntmps58
  go_wp2_with fail
  rw [← HW0.out]
  go_loopw [5, 6] (fun x i wr => ∃ k : Nat, k ≤ parts.length ∧ i = .int .i64 k ∧ wr.ownsRow w.heap.size 5 1 x (pre tag parts k).length ((pre tag parts k).map bv) ∧ Below w.heap.size w wr) (fun _ i _ => parts.length - (intOf i).toNat)
  case atStart => exact ⟨0, Nat.zero_le _, rfl, K0.out.1, K0.out.2⟩
  case round =>
    obtain ⟨k, hk, rfl, hown1, hbel1⟩ := hrel
    by_cases hlt : k < parts.length
    · obtain ⟨b, off, rfl, hb, hcell⟩ := Hr.out (by simp; omega)
      have hc1 : wr.cell? ⟨b, off + k, none⟩ = some (.string parts[k]) := (hbel1.cell hb).trans (hcell k (sv parts[k]) (by simp [hlt]))
      have hnext := pre_succ tag parts k hlt
      have hl1 := Hlen.out k
      have hl2 := Hlen.out (k + 1)
      have hsz := Hs.out parts[k] (List.getElem_mem _)
      obtain ⟨s, hse⟩ : ∃ s, s = parts[k] := ⟨_, rfl⟩
      rw [← hse] at hc1 hnext hsz
      have ik0 : (0 : Int) ≤ k := by omega
      have ik1 : (k : Int) < parts.length := by omega
      rw [hnext, List.length_append] at hl2
      have Hnx := Lib.hid hnext
      have HL := Lib.hid (And.intro hl1 hl2)
      clear hcell hse hnext hl1 hl2
      have hBw := hbel1.size
      go_wp2_with fail
      refine (refBytes_any s _ (by omega)).mono ?_
      rintro e w2 ⟨v2, rfl, hown2, hbel2⟩
      have hBw2 := hbel2.size
      obtain ⟨g, cap2, rfl, hg1, hg2, hg3, hg4, hcl⟩ := own_form hown2 (by have := M.encI_pos s.size; unfold M.encB; rw [List.length_append, sb_len]; omega)
      have hown1' := own_below hown1 hbel2 (Nat.le_refl _)
      have hmx : (pre tag parts k).length + (M.encB (sb s)).length ≤ maxLen := by have := HL.out.2; unfold maxLen; unfold encP at this; omega
      have hq6 : (pre tag parts k).length + (M.encB (sb s)).length ≤ 26000 := by have := HL.out.2; unfold encP at this; omega
      have Hcl := Lib.hid hcl
      have hll := own_len hown2
      have Hll := Lib.hid hll
      clear hcl hown2 hll
      go_wp2_with (at_builtin; refine wpList_append_own _ rfl (.tmp 16) (.tmp 21) 51 rfl w.heap.size 5 i0 (.int .u8 0) 1 1 Tryd.underlying51 hi hz0 hz1 hz2 rfl (by decide) _ _ _ rfl hown1' ⟨g, 0, none⟩ (M.encB (sb s)).length cap2 ((M.encB (sb s)).map bv) rfl Hll.out Hcl.out (one_cells _) hmx (by omega) (by omega) ?_; intro v' w3 hown' hgrow _)
      go_roundw
      case rel =>
        refine ⟨k + 1, by omega, by go_num, ?_, (hbel1.trans (hbel2.mono hBw)).grown hgrow (by omega) (fun j hj => (hown1.lt j hj).1)⟩
        rw [Hnx.out, List.length_append, List.map_append]
        exact hown'
      case measure => simp [intOf]; omega
    · obtain rfl : k = parts.length := by omega
      rw [Hfull.out] at hown1
      go_wp2_with fail
      go_ret
      exact ⟨_, rfl, hown1, hbel1⟩
theorem input_any (tag : Int) (A : Option Addr) (cap : Nat) (parts : List ByteArray) (w : World) (hr : Rd w w.heap.size A (parts.map sv)) (hn : parts.length ≤ 12) (hs : ∀ s ∈ parts, s.size ≤ 400) :
    Calls Tryd.prog 58 #[.int .i64 tag, .slice A parts.length cap] w (Makes (inp tag parts) w) :=
  input_upto tag A cap parts w hr hn fun s h => Nat.le_trans (hs s h) (by omega)
end Go.Proofs.YtkelfcgomeojeaaDoor
end

section
/- The reference's Ints. -/



namespace Go.Proofs.YtkelfcgomeojeaaDoor
open Go.RowKit
set_option linter.unusedVariables false
set_option maxRecDepth 100000

set_option maxHeartbeats 2000000 in
theorem refInts_any (A : Option Addr) (cap : Nat) (l : List Int) (w : World) (hr : Rd w w.heap.size A (l.map iv)) (hc : l.length ≤ cap) (hm : cap ≤ maxLen) (hs : l.length ≤ 100000000) (hI : ∀ n ∈ l, M.I64 n) :
    Calls Tryd.prog 64 #[.slice A l.length cap] w (Makes (M.encL M.encI l) w) := by
  obtain ⟨i0, hi, hz0, hz1, hz2⟩ := info_parts info_u8
  have hI0 := M.I64_nat l.length (by omega)
  have hlen := M.encI_len_le l.length hI0
  have hpos := M.encI_pos l.length
  unfold maxLen at hm
  go_enter Tryd.func64, Tryd.ntmps64
  go_wp2_with fail
  refine (refInt_any l.length _ hI0).mono ?_
  rintro e w0 ⟨v, rfl, hown, hbel⟩
  go_wp2_with fail
  go_loopw [3, 4] (fun x i wr => ∃ k : Nat, k ≤ l.length ∧ i = .int .i64 k ∧
      wr.ownsRow w.heap.size 5 1 x (M.encI l.length ++ (l.take k).flatMap M.encI).length ((M.encI l.length ++ (l.take k).flatMap M.encI).map bv) ∧ Below w.heap.size w wr) (fun _ i _ => l.length - (intOf i).toNat)
  case atStart => exact ⟨0, Nat.zero_le _, rfl, by simpa using hown, hbel⟩
  case round =>
    obtain ⟨k, hk, rfl, hown1, hbel1⟩ := hrel
    by_cases hlt : k < l.length
    · obtain ⟨b, off, rfl, hb, hcell⟩ := hr (by simp; omega)
      obtain ⟨n, hn⟩ : ∃ n, n = l.getD k 0 := ⟨_, rfl⟩
      have hIn : M.I64 n := hI n (by rw [hn]; simp [List.getElem?_eq_getElem hlt])
      have hck : wr.cell? ⟨b, off + k, none⟩ = some (.int .i64 n) := (hbel1.cell hb).trans (hcell k (iv n) (by rw [hn]; simp [List.getElem?_eq_getElem hlt]))
      have hnext : (l.take (k + 1)).flatMap M.encI = (l.take k).flatMap M.encI ++ M.encI n := by
        rw [M.flat_take M.encI l k hlt, hn]; simp [List.getElem?_eq_getElem hlt]
      have hfl := M.flat_ints (l.take k) (fun n hn => hI n (List.mem_of_mem_take hn))
      have hfl2 : (l.take k).length ≤ 100000000 := by simp; omega
      obtain ⟨L, hL⟩ : ∃ L, L = M.encI l.length ++ (l.take k).flatMap M.encI := ⟨_, rfl⟩
      have hLl : L.length ≤ 900000009 := by rw [hL, List.length_append]; omega
      have hpos' := M.encI_pos n
      have hlen' := M.encI_len_le n hIn
      rw [← hL] at hown1
      have hnx : M.encI l.length ++ (l.take (k + 1)).flatMap M.encI = L ++ M.encI n := by rw [hnext, hL, List.append_assoc]
      have Hnx := Lib.hid hnx
      clear hcell hn hnext hfl hfl2 hL hnx
      have hBw := hbel1.size
      go_wp2_with fail
      refine (refInt_any n _ hIn).mono ?_
      rintro e w2 ⟨v2, rfl, hown2, hbel2⟩
      have hBw2 := hbel2.size
      obtain ⟨g, cap2, rfl, hg1, hg2, hg3, hg4, hcl⟩ := own_form hown2 (by omega)
      have hown1' := own_below hown1 hbel2 (Nat.le_refl _)
      have hmx : L.length + (M.encI n).length ≤ maxLen := by unfold maxLen; omega
      have Hcl := Lib.hid hcl
      have hll := own_len hown2
      have Hll := Lib.hid hll
      clear hcl hown2 hll
      go_wp2_with (at_builtin; refine wpList_append_own _ rfl (.tmp 14) (.tmp 19) 51 rfl w.heap.size 5 i0 (.int .u8 0) 1 1 Tryd.underlying51 hi hz0 hz1 hz2 rfl (by decide) _ _ _ rfl hown1' ⟨g, 0, none⟩ (M.encI n).length cap2 ((M.encI n).map bv) rfl Hll.out Hcl.out (one_cells _) hmx (by omega) (by omega) ?_; intro v' w3 hown' hgrow _)
      go_roundw
      case rel =>
        refine ⟨k + 1, by omega, by go_num, ?_, (hbel1.trans (hbel2.mono hBw)).grown hgrow (by omega) (fun j hj => (hown1.lt j hj).1)⟩
        rw [Hnx.out, List.length_append, List.map_append]
        exact hown'
      case measure => simp [intOf]; omega
    · obtain rfl : k = l.length := by omega
      go_wp2_with fail
      go_ret
      refine ⟨_, rfl, ?_, hbel1⟩
      rw [List.take_length] at hown1
      exact hown1
end Go.Proofs.YtkelfcgomeojeaaDoor
end

