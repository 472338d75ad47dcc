import Derived.ArgAppend
import Derived.Lib.AppendZerosOnto
import Derived.Lib.Walk
import Derived.Test.YtcmepgjbplpnbaaDoorJWireK1
import Derived.Test.YtcmepgjbplpnbaaDoorJWireW

section
/- Appends of ints onto a slice of the call's own. -/



namespace Go.Proofs.YtcmepgjbplpnbaaDoor
open Go.RowKit
set_option linter.unusedVariables false
set_option maxRecDepth 100000

theorem info_i64 : (Tryd.prog.info? 3).map (fun i => (i.zero, i.size, i.bytes)) = some (some (.int .i64 0), 1, 8) := by kernel_rfl
theorem ints_one (l : List Int) : ∀ u ∈ l.map iv, u.oneCell' = true := by
  intro u hu
  obtain ⟨n, -, rfl⟩ := List.mem_map.1 hu
  rfl
theorem run_append_ownI (w : World) (ty : TypeId) (base : Nat) (v : Value) (l l' : List Int) (A' : Option Addr) (c' : Nat) (hown : w.ownsRow base 3 1 v l.length (l.map iv)) (hr' : Rd w w.heap.size A' (l'.map iv))
    (hb : l.length + l'.length ≤ 1000000000) (hbase : base ≤ w.heap.size) :
    ∃ v' w', (Builtin.append_ #[22, 22] ty #[v, .slice A' l'.length c']).run Tryd.prog w = .ok v' w' ∧ w'.ownsRow base 3 1 v' (l ++ l').length ((l ++ l').map iv) ∧ w.grownBy w' v.ownBlock := by
  obtain ⟨i0, hi, hz0, hz1, hz2⟩ := info_parts info_i64
  rw [List.length_append, List.map_append]
  cases A' with
  | some a =>
    have hnews : ∀ (j : Nat) (u : Value), (l'.map iv)[j]? = some u → w.cell? (a.add j) = some u := by
      intro j u hu
      have hp : 0 < (l'.map iv).length := by have := (List.getElem?_eq_some_iff.1 hu).1; omega
      obtain ⟨b, off, e, hlt, hcell⟩ := hr' hp
      injection e with e
      subst e
      rw [Addr.add_mid]
      exact hcell j u hu
    obtain ⟨v', w', h1, h2, h3, -⟩ := run_append_own (P := Tryd.prog) w base 22 ty 3 i0 (.int .i64 0) 1 8 Tryd.underlying22 hi hz0 hz1 hz2 rfl (by decide) v l.length (l.map iv) hown a l'.length c' (l'.map iv) (by simp) hnews (ints_one _) (by unfold maxLen; omega) (by omega) hbase
    exact ⟨v', w', h1, h2, h3⟩
  | none =>
    have h0 : l' = [] := by
      cases l' with
      | nil => rfl
      | cons x t => obtain ⟨b, off, e, _⟩ := hr' (by simp); cases e
    subst h0
    refine ⟨v, w, ?_, by simpa using hown, ⟨rfl, rfl, rfl, Nat.le_refl _, fun _ _ _ => rfl⟩⟩
    rcases hown.2 with ⟨rfl, h0⟩ | ⟨g, cap, cur, rfl, _, _, hnc, _⟩
    · simp [Builtin.append_, run_underlying Tryd.underlying22, sizeOf, typeInfo, hi, Builtin.lenOf, Builtin.firstCells]
    · simp [Builtin.append_, run_underlying Tryd.underlying22, sizeOf, typeInfo, hi, Builtin.lenOf, Builtin.firstCells, hnc, storeCells]

theorem wpList_append_ownI {ops : Array Oper} {rest : List Oper} {o : Oper} {a : Act} {Q : Exit → Act → World → Prop} (w : World) (hgd : o.guard = none) (s x : Operand)
    (ho : o.op = .call { callee := .builtin .append, args := #[s, x], argTypes := #[22, 22] }) (base : Nat) (v : Value) (l l' : List Int) (A' : Option Addr) (c' : Nat)
    (hs : a.eval s = v) (hx : a.eval x = .slice A' l'.length c') (hown : w.ownsRow base 3 1 v l.length (l.map iv)) (hr' : Rd w w.heap.size A' (l'.map iv)) (hb : l.length + l'.length ≤ 1000000000) (hbase : base ≤ w.heap.size)
    (h : ∀ v' w', w'.ownsRow base 3 1 v' (l ++ l').length ((l ++ l').map iv) → w.grownBy w' v.ownBlock → wpList Tryd.prog ops Q rest (a.put o.dst v') w') : wpList Tryd.prog ops Q (o :: rest) a w := by
  obtain ⟨v', w', hrun, h1, h2⟩ := run_append_ownI w o.type base v l l' A' c' hown hr' hb hbase
  refine wpList_plain hgd fun K hK => ?_
  unfold Oper.wp execOp
  simp only [ho, resolve, invoke, builtin, Sem.run_bind, Sem.run_pure, Result.andThen_ok, List.map_toArray, List.map_cons, List.map_nil, hs, hx, hrun]
  exact hK _ _ (h v' w' h1 h2)
end Go.Proofs.YtcmepgjbplpnbaaDoor
end

section
/- The contracts of slices.Grow and slices.Concat at ints. -/



namespace Go.Proofs.YtcmepgjbplpnbaaDoor
open Go.RowKit
set_option linter.unusedVariables false
set_option maxRecDepth 100000

/-- A new row of ints; nothing that was there has changed. -/
def MakesI (l : List Int) (w : World) (e : Ending) (w' : World) : Prop := ∃ v, e = .returned v ∧ w'.ownsRow w.heap.size 3 1 v l.length (l.map iv) ∧ Below w.heap.size w w'

set_option maxHeartbeats 2000000 in
theorem grow_ints (n : Nat) (w : World) (hn : n ≤ 100000000) :
    Calls Tryd.prog 48 #[.slice none 0 0, .int .i64 n] w (MakesI [] w) := by
  obtain ⟨i0, hi, hz0, hz1, hz2⟩ := info_parts info_i64
  by_cases h0 : n = 0
  · subst h0
    go_enter Tryd.func48, Tryd.ntmps48
    go_wp2
    go_ret
    exact ⟨_, rfl, World.ownsRow_nil _ _ _ _, Below.refl _ _⟩
  · have hrz : ∀ ty, (Builtin.append_ #[22, 3] ty #[.slice none 0 0, .int .i64 (n : Int)]).run Tryd.prog w =
        .ok (.slice (some ⟨w.heap.size, 0, none⟩) n (grownCap w n 0 3)) (w.drew.alloc (.cells (([] : List Value).toArray ++ Builtin.zeroCells (Value.int .i64 0).cells n ++ Builtin.zeroCells (Value.int .i64 0).cells (grownCap w n 0 3 - n)) 3)) := fun ty => by
      have h := Lib.run_append_grow_zeros w 22 3 ty 3 i0 (.int .i64 0) .i64 .i64 Tryd.underlying22 Tryd.underlying3 hi hz0 none 0 0 [] (run_firstCells_none w.drew i0.size 0 0 0) n (by omega) (by rw [hz1]; decide) (by omega) (by omega)
        (by rw [hz2]; omega) (by rw [hz2]; exact growslice_fits (by omega) (by omega))
      simpa using h
    have hGn : n ≤ grownCap w n 0 3 := grownCap_ge w _ _ _
    have hGm : grownCap w n 0 3 ≤ maxLen := grownCap_le_maxLen w n 0 3 (by unfold maxLen; omega)
    obtain ⟨G, hG⟩ : ∃ G, G = grownCap w n 0 3 := ⟨_, rfl⟩
    rw [← hG] at hrz hGn hGm
    obtain ⟨Z, hZ⟩ : ∃ Z, Z = ([] : List Value).toArray ++ Builtin.zeroCells (Value.int .i64 0).cells n ++ Builtin.zeroCells (Value.int .i64 0).cells (G - n) := ⟨_, rfl⟩
    rw [← hZ] at hrz
    have hZs : Z.size = G := by rw [hZ]; simp [size_zeroCells, Value.cells]; omega
    have hown : (w.drew.alloc (.cells Z 3)).ownsRow w.heap.size 3 1 (.slice (some ⟨w.heap.size, 0, none⟩) 0 G) 0 [] :=
      ⟨rfl, .inr ⟨w.heap.size, G, Z, rfl, Nat.le_refl _, heap_alloc_new w.drew _, by omega, hGm, by rw [hZs]; omega, by simp⟩⟩
    have hb : Below w.heap.size w (w.drew.alloc (.cells Z 3)) := ((Below.refl _ w).drew).alloc (Nat.le_refl _) _
    have h4 : (0 : Int) < n := by omega
    have h5 : (n : Int) ≤ 100000000 := by omega
    have K := Lib.hid (And.intro hown hb)
    have HZ := Lib.hid hZs
    have HG := Lib.hid (And.intro hG (And.intro hGn hGm))
    unfold maxLen at hGm
    have hG9 : (G : Int) ≤ 9223372036854775807 := by omega
    clear hG hZ hZs hown hb hGn hGm h0
    go_enter Tryd.func48, Tryd.ntmps48
    go_wp2_with (at_builtin; refine Lib.wpList_append_run _ rfl _ _ _ _ rfl _ _ rfl rfl _ _ (hrz _) ?_)
    all_goals (go_ret; exact ⟨_, rfl, K.out.1, K.out.2⟩)

/-- A part: where it begins, its capacity, its ints. -/
structure Part where
  A : Option Addr
  c : Nat
  l : List Int
def Part.v (p : Part) : Value := .slice p.A p.l.length p.c
def joined (ps : List Part) : List Int := ps.flatMap (·.l)
theorem joined_succ (ps : List Part) (k : Nat) (h : k < ps.length) : joined (ps.take (k + 1)) = joined (ps.take k) ++ ps[k].l := by
  unfold joined
  rw [List.take_add_one, List.getElem?_eq_getElem h]
  simp only [List.flatMap_append, Option.toList, List.flatMap_cons, List.flatMap_nil, List.append_nil]
theorem joined_take (ps : List Part) (k : Nat) : (joined (ps.take k)).length ≤ (joined ps).length := by
  have e : joined ps = joined (ps.take k) ++ joined (ps.drop k) := by unfold joined; rw [← List.flatMap_append, List.take_append_drop]
  rw [e, List.length_append]
  omega

set_option maxHeartbeats 4000000 in
theorem concat_any (A : Option Addr) (cap : Nat) (ps : List Part) (w : World) (hr : Rd w w.heap.size A (ps.map Part.v)) (hn : ps.length ≤ 1000000) (hp : ∀ p ∈ ps, Rd w w.heap.size p.A (p.l.map iv)) (hl : (joined ps).length ≤ 100000000) :
    Calls Tryd.prog 37 #[.slice A ps.length cap] w (MakesI (joined ps) w) := by
  have HP := Lib.hid hp
  have hlt0 := joined_take ps
  have HT := Lib.hid hlt0
  have HS := Lib.hid (joined_succ ps)
  clear hp hlt0
  go_enter Tryd.func37, Tryd.ntmps37
  go_wp2_with fail
  go_loopw [3, 11] (fun s i wr => ∃ k : Nat, k ≤ ps.length ∧ i = .int .i64 k ∧ s = .int .i64 ((joined (ps.take k)).length : Int) ∧ w = wr) (fun _ i _ => ps.length - (intOf i).toNat)
  case atStart => exact ⟨0, Nat.zero_le _, rfl, rfl, rfl⟩
  case round =>
    obtain ⟨k, hk, rfl, rfl, rfl⟩ := hrel
    by_cases hlt : k < ps.length
    · obtain ⟨b, off, rfl, hb, hcell⟩ := hr (by simp; omega)
      have hck : w.cell? ⟨b, off + k, none⟩ = some (ps[k].v) := hcell k _ (by rw [List.getElem?_map, List.getElem?_eq_getElem hlt]; rfl)
      unfold Part.v at hck
      have hs1 := HS.out k hlt
      have ht1 := HT.out (k + 1)
      rw [hs1, List.length_append] at ht1
      obtain ⟨N, hN⟩ : ∃ N, N = (joined (ps.take k)).length := ⟨_, rfl⟩
      obtain ⟨M, hM⟩ : ∃ M, M = ps[k].l.length := ⟨_, rfl⟩
      rw [← hN, ← hM] at ht1
      rw [← hM] at hck
      have hN1 : (joined (ps.take (k + 1))).length = N + M := by rw [hs1, List.length_append, hN, hM]
      have HN := Lib.hid hN1
      rw [← hN]
      clear hs1 hN hM hN1 hcell hr
      go_wp2_with fail
      go_roundw
      case rel => exact ⟨k + 1, by omega, by go_num, by rw [HN.out]; go_num, trivial⟩
      case measure => simp [intOf]; omega
    · obtain rfl : k = ps.length := by omega
      rw [List.take_length]
      obtain ⟨N, hN⟩ : ∃ N, N = (joined ps).length := ⟨_, rfl⟩
      rw [← hN] at hl ⊢
      have HN := Lib.hid hN
      clear hN
      go_wp2_with fail
      refine (grow_ints N _ hl).mono ?_
      rintro e w1 ⟨v, rfl, hown, hb1⟩
      go_wp2_with fail
      rw [HN.out] at hl
      clear HN
      go_loopw [6, 27] (fun s i wx => ∃ j : Nat, j ≤ ps.length ∧ i = .int .i64 j ∧ wx.ownsRow w.heap.size 3 1 s (joined (ps.take j)).length ((joined (ps.take j)).map iv) ∧ Below w.heap.size w wx) (fun _ i _ => ps.length - (intOf i).toNat)
      case atStart => exact ⟨0, Nat.zero_le _, rfl, hown, hb1⟩
      case round =>
        clear hown hb1
        obtain ⟨j, hj, rfl, hown, hb1⟩ := hrel
        by_cases hlt2 : j < ps.length
        · obtain ⟨b, off, rfl, hb, hcell⟩ := hr (by simp; omega)
          have hck := (hb1.cell hb).trans (hcell j ps[j].v (by rw [List.getElem?_map, List.getElem?_eq_getElem hlt2]; rfl))
          have hrd := HP.out ps[j] (List.getElem_mem hlt2)
          have hrd1 := (hrd.below hb1).more hb1.size
          have hs1 := HS.out j hlt2
          have ht1 := HT.out (j + 1)
          rw [hs1, List.length_append] at ht1
          unfold Part.v at hck
          obtain ⟨P, hP⟩ : ∃ P, P = ps[j] := ⟨_, rfl⟩
          obtain ⟨L, hL⟩ : ∃ L, L = joined (ps.take j) := ⟨_, rfl⟩
          rw [← hP] at hck hrd1 hs1 ht1
          rw [← hL] at ht1 hown hs1
          have Hs := Lib.hid hs1
          have hB1 := hb1.size
          clear hrd hs1 hP hL hcell hr
          go_wp2_with (at_builtin; refine wpList_append_ownI _ rfl (.tmp 31) (.tmp 32) rfl w.heap.size _ L P.l P.A P.c rfl rfl hown hrd1 (by omega) hB1 ?_; intro v' w3 hown' hgrow)
          go_roundw
          case rel =>
            refine ⟨j + 1, by omega, by go_num, ?_, hb1.grown hgrow hB1 (fun j hj => (hown.lt j hj).1)⟩
            rw [Hs.out]
            exact hown'
          case measure => simp [intOf]; omega
        · obtain rfl : j = ps.length := by omega
          go_wp2_with fail
          go_ret
          refine ⟨_, rfl, ?_, hb1⟩
          rw [List.take_length] at hown
          exact hown
end Go.Proofs.YtcmepgjbplpnbaaDoor
end

section
/- The contract of dioramaref01.Take. -/

namespace Go.Proofs.YtcmepgjbplpnbaaDoor
open Go.RowKit
set_option linter.unusedVariables false
set_option maxRecDepth 100000

theorem elem_intsT : Tryd.prog.underlying 22 = some (.slice (Tryd.prog.elem 22)) := by kernel_rfl
theorem size_intsT (W : World) : (sizeOf (Tryd.prog.elem 22)).run Tryd.prog W = .ok 1 W := by kernel_rfl
theorem cutI_h (W : World) (A : Option Addr) (len cap hi : Nat) (b : Int) (hb : b = hi) (h2 : hi ≤ cap) :
    (Instr.slice 22 (.slice A len cap) none (some (.int .i64 b)) none).run Tryd.prog W = .ok (.slice (cutA A 0 cap) hi cap) W := by
  subst hb
  rw [run_slice_h (P := Tryd.prog) (w := W) (t := 22) (a := A) (len := len) (cap := cap) elem_intsT .i64 _ (by omega) (by omega), size_intsT]
  simp [sliced, cutA]

set_option maxHeartbeats 1000000 in
theorem take_any (A : Option Addr) (cap : Nat) (l : List Int) (n : Nat) (w : World) (hr : Rd w w.heap.size A (l.map iv)) (hc : l.length ≤ cap) (hm : cap ≤ maxLen) (hn : n ≤ 1000000) :
    Calls Tryd.prog 24 #[.slice A l.length cap, .int .i64 n] w (fun e w' => ∃ v, e = .returned v ∧ w'.ownsRow w.heap.size 3 1 v (l.take n).length ((l.take n).map iv) ∧ Below w.heap.size w w') := by
  obtain ⟨m, hmm⟩ : ∃ m, m = min l.length n := ⟨_, rfl⟩
  have hcut := fun W => cutI_h W A l.length cap m (min (l.length : Int) (n : Int)) (by omega) (by omega)
  have hrd := hr.cut (lo := 0) (hi := m) (cap := cap) (by rw [List.length_map]; omega) (by omega)
  rw [List.drop_zero, ← List.map_take] at hrd
  have hlm : (l.take m).length = m := by rw [List.length_take]; omega
  have htm : l.take n = l.take m := by rw [hmm]; exact (List.take_eq_take_min).trans (by rw [Nat.min_comm])
  rw [htm]
  obtain ⟨L, hL⟩ : ∃ L, L = l.take m := ⟨_, rfl⟩
  obtain ⟨N, hN⟩ : ∃ N, N = l.length := ⟨_, rfl⟩
  rw [← hL] at hrd hlm ⊢
  rw [← hN] at hcut ⊢
  have hLb : L.length ≤ 1000000 := by omega
  rw [← hlm] at hcut
  clear htm hr hmm hL hlm hN
  go_enter Tryd.func24, Tryd.ntmps24
  go_wp2_with (at_builtin; refine wpList_append_ownI _ rfl (.tmp 6) (.tmp 12) rfl w.heap.size (.slice none 0 0) [] L _ cap rfl rfl (World.ownsRow_nil _ _ _ _) hrd (by simp; omega) (Nat.le_refl _) ?_; intro v' w3 hown' hgrow)
  go_ret
  exact ⟨_, rfl, hown', (Below.refl _ _).grown hgrow (Nat.le_refl _) (fun j hj => by cases hj)⟩
end Go.Proofs.YtcmepgjbplpnbaaDoor
end

