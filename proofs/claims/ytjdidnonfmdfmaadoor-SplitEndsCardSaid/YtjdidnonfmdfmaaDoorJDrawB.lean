import Derived.Lib.AppendZerosOnto
import Derived.Lib.Walk
import Derived.Test.YtjdidnonfmdfmaaDoorJDrawA

section
/- The contracts of slices.Grow and slices.Concat at ints. -/



namespace Go.Proofs.YtjdidnonfmdfmaaDoor
open Go.RowKit
set_option linter.unusedVariables false
set_option maxRecDepth 100000

/-- A new row of ints; nothing that was there has changed. -/
def MakesI (l : List Int) (w : World) (e : Ending) (w' : World) : Prop := ∃ v, e = .returned v ∧ w'.ownsRow w.heap.size 3 1 v l.length (l.map iv) ∧ Below w.heap.size w w'

set_option maxHeartbeats 2000000 in
theorem grow_ints (n : Nat) (w : World) (hn : n ≤ 100000000) :
    Calls Tryd.prog 52 #[.slice none 0 0, .int .i64 n] w (MakesI [] w) := by
  obtain ⟨i0, hi, hz0, hz1, hz2⟩ := info_parts info_i64
  by_cases h0 : n = 0
  · subst h0
    go_enter Tryd.func52, Tryd.ntmps52
    go_wp2
    go_ret
    exact ⟨_, rfl, World.ownsRow_nil _ _ _ _, Below.refl _ _⟩
  · have hrz : ∀ ty, (Builtin.append_ #[22, 3] ty #[.slice none 0 0, .int .i64 (n : Int)]).run Tryd.prog w =
        .ok (.slice (some ⟨w.heap.size, 0, none⟩) n (grownCap w n 0 3)) (w.drew.alloc (.cells (([] : List Value).toArray ++ Builtin.zeroCells (Value.int .i64 0).cells n ++ Builtin.zeroCells (Value.int .i64 0).cells (grownCap w n 0 3 - n)) 3)) := fun ty => by
      have h := Lib.run_append_grow_zeros w 22 3 ty 3 i0 (.int .i64 0) .i64 .i64 Tryd.underlying22 Tryd.underlying3 hi hz0 none 0 0 [] (run_firstCells_none w.drew i0.size 0 0 0) n (by omega) (by rw [hz1]; decide) (by omega) (by omega)
        (by rw [hz2]; omega) (by rw [hz2]; exact growslice_fits (by omega) (by omega))
      simpa using h
    have hGn : n ≤ grownCap w n 0 3 := grownCap_ge w _ _ _
    have hGm : grownCap w n 0 3 ≤ maxLen := grownCap_le_maxLen w n 0 3 (by unfold maxLen; omega)
    obtain ⟨G, hG⟩ : ∃ G, G = grownCap w n 0 3 := ⟨_, rfl⟩
    rw [← hG] at hrz hGn hGm
    obtain ⟨Z, hZ⟩ : ∃ Z, Z = ([] : List Value).toArray ++ Builtin.zeroCells (Value.int .i64 0).cells n ++ Builtin.zeroCells (Value.int .i64 0).cells (G - n) := ⟨_, rfl⟩
    rw [← hZ] at hrz
    have hZs : Z.size = G := by rw [hZ]; simp [size_zeroCells, Value.cells]; omega
    have hown : (w.drew.alloc (.cells Z 3)).ownsRow w.heap.size 3 1 (.slice (some ⟨w.heap.size, 0, none⟩) 0 G) 0 [] :=
      ⟨rfl, .inr ⟨w.heap.size, G, Z, rfl, Nat.le_refl _, heap_alloc_new w.drew _, by omega, hGm, by rw [hZs]; omega, by simp⟩⟩
    have hb : Below w.heap.size w (w.drew.alloc (.cells Z 3)) := ((Below.refl _ w).drew).alloc (Nat.le_refl _) _
    have h4 : (0 : Int) < n := by omega
    have h5 : (n : Int) ≤ 100000000 := by omega
    have K := Lib.hid (And.intro hown hb)
    have HZ := Lib.hid hZs
    have HG := Lib.hid (And.intro hG (And.intro hGn hGm))
    unfold maxLen at hGm
    have hG9 : (G : Int) ≤ 9223372036854775807 := by omega
    clear hG hZ hZs hown hb hGn hGm h0
    go_enter Tryd.func52, Tryd.ntmps52
    go_wp2_with (at_builtin; refine Lib.wpList_append_run _ rfl _ _ _ _ rfl _ _ rfl rfl _ _ (hrz _) ?_)
    all_goals (go_ret; exact ⟨_, rfl, K.out.1, K.out.2⟩)

/-- A part: where it begins, its capacity, its ints. -/
structure Part where
  A : Option Addr
  c : Nat
  l : List Int
def Part.v (p : Part) : Value := .slice p.A p.l.length p.c
def joined (ps : List Part) : List Int := ps.flatMap (·.l)
theorem joined_succ (ps : List Part) (k : Nat) (h : k < ps.length) : joined (ps.take (k + 1)) = joined (ps.take k) ++ ps[k].l := by
  unfold joined
  rw [List.take_add_one, List.getElem?_eq_getElem h]
  simp only [List.flatMap_append, Option.toList, List.flatMap_cons, List.flatMap_nil, List.append_nil]
theorem joined_take (ps : List Part) (k : Nat) : (joined (ps.take k)).length ≤ (joined ps).length := by
  have e : joined ps = joined (ps.take k) ++ joined (ps.drop k) := by unfold joined; rw [← List.flatMap_append, List.take_append_drop]
  rw [e, List.length_append]
  omega

set_option maxHeartbeats 4000000 in
theorem concat_any (A : Option Addr) (cap : Nat) (ps : List Part) (w : World) (hr : Rd w w.heap.size A (ps.map Part.v)) (hn : ps.length ≤ 1000000) (hp : ∀ p ∈ ps, Rd w w.heap.size p.A (p.l.map iv)) (hl : (joined ps).length ≤ 100000000) :
    Calls Tryd.prog 47 #[.slice A ps.length cap] w (MakesI (joined ps) w) := by
  have HP := Lib.hid hp
  have hlt0 := joined_take ps
  have HT := Lib.hid hlt0
  have HS := Lib.hid (joined_succ ps)
  clear hp hlt0
  go_enter Tryd.func47, Tryd.ntmps47
  go_wp2_with fail
  go_loopw [3, 11] (fun s i wr => ∃ k : Nat, k ≤ ps.length ∧ i = .int .i64 k ∧ s = .int .i64 ((joined (ps.take k)).length : Int) ∧ w = wr) (fun _ i _ => ps.length - (intOf i).toNat)
  case atStart => exact ⟨0, Nat.zero_le _, rfl, rfl, rfl⟩
  case round =>
    obtain ⟨k, hk, rfl, rfl, rfl⟩ := hrel
    by_cases hlt : k < ps.length
    · obtain ⟨b, off, rfl, hb, hcell⟩ := hr (by simp; omega)
      have hck : w.cell? ⟨b, off + k, none⟩ = some (ps[k].v) := hcell k _ (by rw [List.getElem?_map, List.getElem?_eq_getElem hlt]; rfl)
      unfold Part.v at hck
      have hs1 := HS.out k hlt
      have ht1 := HT.out (k + 1)
      rw [hs1, List.length_append] at ht1
      obtain ⟨N, hN⟩ : ∃ N, N = (joined (ps.take k)).length := ⟨_, rfl⟩
      obtain ⟨M, hM⟩ : ∃ M, M = ps[k].l.length := ⟨_, rfl⟩
      rw [← hN, ← hM] at ht1
      rw [← hM] at hck
      have hN1 : (joined (ps.take (k + 1))).length = N + M := by rw [hs1, List.length_append, hN, hM]
      have HN := Lib.hid hN1
      rw [← hN]
      clear hs1 hN hM hN1 hcell hr
      go_wp2_with fail
      go_roundw
      case rel => exact ⟨k + 1, by omega, by go_num, by rw [HN.out]; go_num, trivial⟩
      case measure => simp [intOf]; omega
    · obtain rfl : k = ps.length := by omega
      rw [List.take_length]
      obtain ⟨N, hN⟩ : ∃ N, N = (joined ps).length := ⟨_, rfl⟩
      rw [← hN] at hl ⊢
      have HN := Lib.hid hN
      clear hN
      go_wp2_with fail
      refine (grow_ints N _ hl).mono ?_
      rintro e w1 ⟨v, rfl, hown, hb1⟩
      go_wp2_with fail
      rw [HN.out] at hl
      clear HN
      go_loopw [6, 27] (fun s i wx => ∃ j : Nat, j ≤ ps.length ∧ i = .int .i64 j ∧ wx.ownsRow w.heap.size 3 1 s (joined (ps.take j)).length ((joined (ps.take j)).map iv) ∧ Below w.heap.size w wx) (fun _ i _ => ps.length - (intOf i).toNat)
      case atStart => exact ⟨0, Nat.zero_le _, rfl, hown, hb1⟩
      case round =>
        clear hown hb1
        obtain ⟨j, hj, rfl, hown, hb1⟩ := hrel
        by_cases hlt2 : j < ps.length
        · obtain ⟨b, off, rfl, hb, hcell⟩ := hr (by simp; omega)
          have hck := (hb1.cell hb).trans (hcell j ps[j].v (by rw [List.getElem?_map, List.getElem?_eq_getElem hlt2]; rfl))
          have hrd := HP.out ps[j] (List.getElem_mem hlt2)
          have hrd1 := (hrd.below hb1).more hb1.size
          have hs1 := HS.out j hlt2
          have ht1 := HT.out (j + 1)
          rw [hs1, List.length_append] at ht1
          unfold Part.v at hck
          obtain ⟨P, hP⟩ : ∃ P, P = ps[j] := ⟨_, rfl⟩
          obtain ⟨L, hL⟩ : ∃ L, L = joined (ps.take j) := ⟨_, rfl⟩
          rw [← hP] at hck hrd1 hs1 ht1
          rw [← hL] at ht1 hown hs1
          have Hs := Lib.hid hs1
          have hB1 := hb1.size
          clear hrd hs1 hP hL hcell hr
          go_wp2_with (at_builtin; refine wpList_append_ownI _ rfl (.tmp 31) (.tmp 32) rfl w.heap.size _ L P.l P.A P.c rfl rfl hown hrd1 (by omega) hB1 ?_; intro v' w3 hown' hgrow)
          go_roundw
          case rel =>
            refine ⟨j + 1, by omega, by go_num, ?_, hb1.grown hgrow hB1 (fun j hj => (hown.lt j hj).1)⟩
            rw [Hs.out]
            exact hown'
          case measure => simp [intOf]; omega
        · obtain rfl : j = ps.length := by omega
          go_wp2_with fail
          go_ret
          refine ⟨_, rfl, ?_, hb1⟩
          rw [List.take_length] at hown
          exact hown
end Go.Proofs.YtjdidnonfmdfmaaDoor
end

