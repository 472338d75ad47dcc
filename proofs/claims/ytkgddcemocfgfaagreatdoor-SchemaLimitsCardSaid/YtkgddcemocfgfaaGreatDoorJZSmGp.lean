import Derived.Test.YtkgddcemocfgfaaGreatDoorJZSmGc
import Derived.Test.YtkgddcemocfgfaaGreatDoorJZSmGd
import Derived.Test.YtkgddcemocfgfaaGreatDoorJZSmGo
import Derived.Test.YtkgddcemocfgfaaGreatDoorJZSmSb

section
/- The reference's parser: what it is in memory; look. -/



namespace Go.Proofs.YtkgddcemocfgfaaGreatDoor
open Go.RowKit
set_option linter.unusedVariables false
set_option linter.unusedSimpArgs false
set_option maxRecDepth 100000

/-- The tokens' cells; their texts. -/
def tokC (ts : List (Nat × Nat)) : List Value := ts.flatMap fun t => [.int .i64 t.1, .int .i64 t.2]
def tokT (s : ByteArray) (ts : List (Nat × Nat)) : List ByteArray := ts.map fun t => s.extract t.1 t.2
theorem tokC_at : ∀ (ts : List (Nat × Nat)) (k : Nat) (t : Nat × Nat), ts[k]? = some t → (tokC ts)[k * 2]? = some (.int .i64 t.1) ∧ (tokC ts)[k * 2 + 1]? = some (.int .i64 t.2) := by
 intro ts
 induction ts with
 | nil => intro k t h; simp at h
 | cons x ts ih =>
  intro k t h
  match k, h with
  | 0, h => obtain rfl := Option.some.inj h; exact ⟨rfl, rfl⟩
  | k + 1, h =>
   have := ih k t h
   rw [show (k + 1) * 2 = k * 2 + 1 + 1 by omega]
   exact this
theorem tokC_len (ts : List (Nat × Nat)) : (tokC ts).length = 2 * ts.length := by
 induction ts with
 | nil => rfl
 | cons x ts ih =>
  have e : (tokC (x :: ts)).length = 2 + (tokC ts).length := by unfold tokC; rw [List.flatMap_cons, List.length_append]; rfl
  rw [e, ih, List.length_cons]; omega
/-- A parser's variable. -/
structure PaAt (pb : Nat) (s : ByteArray) (A : Option Addr) (cap : Nat) (ts : List (Nat × Nat)) (p : Sm.PS) (W : World) : Prop where
 blk : Blk W pb [.string s, .slice A ts.length cap, .int .i64 p.i, .bool p.f] 106
 rd : Rd W pb A (tokC ts)
 ok : ∀ t ∈ ts, t.1 < t.2 ∧ t.2 ≤ s.size
 sz : s.size ≤ 8192 ∧ ts.length ≤ 8192 ∧ ts.length ≤ cap ∧ cap ≤ maxLen
section
variable {pb : Nat} {s : ByteArray} {A : Option Addr} {cap : Nat} {ts : List (Nat × Nat)} {p : Sm.PS} {W W' : World}
theorem PaAt.below (h : PaAt pb s A cap ts p W) (hb : Below W.heap.size W W') : PaAt pb s A cap ts p W' :=
 ⟨h.blk.below hb h.blk.lt, h.rd.below (hb.mono (Nat.le_of_lt h.blk.lt)), h.ok, h.sz⟩
theorem PaAt.at (h : PaAt pb s A cap ts p W) (k : Nat) (t : Nat × Nat) (hk : ts[k]? = some t) : ∃ b off, A = some ⟨b, off, none⟩ ∧ b < pb ∧ W.cell? ⟨b, off + k * 2, none⟩ = some (.int .i64 t.1) ∧ W.cell? ⟨b, off + k * 2 + 1, none⟩ = some (.int .i64 t.2) := by
 have hlt := (List.getElem?_eq_some_iff.1 hk).1
 obtain ⟨b, off, hA, hb, hc⟩ := h.rd (by rw [tokC_len]; omega)
 obtain ⟨h1, h2⟩ := tokC_at ts k t hk
 exact ⟨b, off, hA, hb, hc _ _ h1, by have := hc _ _ h2; rwa [← Nat.add_assoc] at this⟩
theorem look_at (hf : p.f = false) (t : Nat × Nat) (hk : ts[p.i]? = some t) : Sm.look (tokT s ts) p = s.extract t.1 t.2 := by
 unfold Sm.look tokT
 rw [if_neg (by rw [hf]; decide), List.getD_eq_getElem?_getD, List.getElem?_map, hk]
 rfl
theorem look_out (h : p.f = true ∨ ts.length ≤ p.i) : Sm.look (tokT s ts) p = ⟨#[]⟩ := by
 unfold Sm.look tokT Sm.nil
 split
 ·rfl
 ·rename_i hf
  have h2 : ts.length ≤ p.i := h.resolve_left hf
  rw [List.getD_eq_getElem?_getD, List.getElem?_eq_none (by simpa using h2)]
  rfl
end

set_option maxHeartbeats 4000000 in
theorem paLook_any (pb : Nat) (s : ByteArray) (A : Option Addr) (cap : Nat) (ts : List (Nat × Nat)) (p : Sm.PS) (W : World) (h : PaAt pb s A cap ts p W) (hi : p.i ≤ 1000000) :
  Calls Tryz.prog 65 #[.pointer (some ⟨pb, 0, none⟩)] W fun e w' => e = .returned (.string (Sm.look (tokT s ts) p)) ∧ Below W.heap.size W w' := by
 obtain ⟨i, f⟩ := p
 obtain ⟨N, hN⟩ : ∃ N, N = ts.length := ⟨_, rfl⟩
 have hk := h.blk
 dsimp only at hk hi
 rw [← hN] at hk
 have c0 := hk.cell 0 _ rfl
 have c1 := hk.cell 1 _ rfl
 have c2 := hk.cell 2 _ rfl
 have c3 := hk.cell 3 _ rfl
 have HH := Lib.hid h
 have HN := Lib.hid hN
 cases f with
 | true =>
  rw [look_out (.inl rfl)]
  clear h hk hN c0 c1 c2
  go_enter Tryz.func65, Tryz.ntmps65
  go_wp2_with fail
  go_quiet (fail)
  go_wp2_with fail
  go_ret
  exact ⟨rfl, drewN_below (Below.refl _ _) _⟩
 | false =>
  by_cases hlt : i < N
  ·have hk' : ts[i]? = some ts[i] := List.getElem?_eq_getElem (by rw [← hN]; exact hlt)
   obtain ⟨t, ht⟩ : ∃ t, t = ts[i]'(by rw [← hN]; exact hlt) := ⟨_, rfl⟩
   rw [← ht] at hk'
   rw [look_at rfl t hk']
   obtain ⟨b, off, rfl, hb, d0, d1⟩ := h.at i t hk'
   have hto := h.ok t (by rw [ht]; exact List.getElem_mem _)
   have hsz := h.sz.1
   obtain ⟨a, z⟩ := t
   dsimp only at hto d0 d1 ⊢
   have hli : (i : Int) < N := by omega
   have q1 : (a : Int) ≤ z := by omega
   have q2 : (z : Int) ≤ s.size := by omega
   have q3 : (0 : Int) ≤ a := by omega
   have n1 : a ≤ z := by omega
   have n2 : z ≤ s.size := by omega
   clear h hk hN ht hk' hto hb hi
   go_enter Tryz.func65, Tryz.ntmps65
   go_wp2_with fail
   go_quiet (fail)
   go_wp2_with fail
   go_quiet (fail)
   go_wp2_with fail
   go_ret
   exact ⟨rfl, drewN_below (drewN_below (Below.refl _ _) _) _⟩
  ·rw [look_out (.inr (by rw [← hN]; exact Nat.le_of_not_lt hlt))]
   have hge : N ≤ i := by omega
   have hgi : (N : Int) ≤ i := by omega
   clear h hk hN hlt
   go_enter Tryz.func65, Tryz.ntmps65
   go_wp2_with fail
   go_quiet (fail)
   go_wp2_with fail
   go_ret
   exact ⟨rfl, drewN_below (Below.refl _ _) _⟩
end Go.Proofs.YtkgddcemocfgfaaGreatDoor
end

section
/- The reference's parser: take, want; value. -/

namespace Go.Proofs.YtkgddcemocfgfaaGreatDoor
open Go.RowKit
set_option linter.unusedVariables false
set_option linter.unusedSimpArgs false
set_option maxRecDepth 100000

/-- A parser's call: what it answers; how the parser stands then. -/
def Pas (pb : Nat) (s : ByteArray) (A : Option Addr) (cap : Nat) (ts : List (Nat × Nat)) (v : Value) (p : Sm.PS) (W : World) (e : Ending) (w' : World) : Prop :=
 e = .returned v ∧ PaAt pb s A cap ts p w' ∧ But pb W w'
theorem empty_list (l : ByteArray) : l.toList = [] ↔ l.size = 0 := by
 rw [Lib.toList_data]
 constructor
 ·intro h
  show l.data.size = 0
  rw [← Array.length_toList, h]
  rfl
 ·intro h
  exact List.eq_nil_of_length_eq_zero (by rw [Array.length_toList]; exact h)

set_option maxHeartbeats 4000000 in
theorem paTake_any (pb : Nat) (s : ByteArray) (A : Option Addr) (cap : Nat) (ts : List (Nat × Nat)) (p : Sm.PS) (r : Bool) (W : World) (h : PaAt pb s A cap ts p W) (hi : p.i ≤ 1000000) :
  Calls Tryz.prog 119 #[.pointer (some ⟨pb, 0, none⟩), .bool r] W (Pas pb s A cap ts (.string (Sm.takeW (tokT s ts) r p)) (Sm.takeP (tokT s ts) r p) W) := by
 have cL := paLook_any pb s A cap ts p W h hi
 obtain ⟨w, hw⟩ : ∃ w, w = Sm.look (tokT s ts) p := ⟨_, rfl⟩
 have hW : Sm.takeW (tokT s ts) r p = if r = true then w else ⟨#[]⟩ := by unfold Sm.takeW Sm.nil; rw [← hw]
 have hP : Sm.takeP (tokT s ts) r p = if r = true ∧ w.size ≠ 0 then ⟨p.i + 1, p.f⟩ else ⟨p.i, true⟩ := by unfold Sm.takeP; rw [← hw]
 rw [← hw] at cL
 rw [hW, hP]
 have CL := Lib.hid cL
 have HH := Lib.hid h
 obtain ⟨i, f⟩ := p
 dsimp only at hi ⊢
 clear h cL hw hW hP
 by_cases hr : r = true
 ·subst hr
  by_cases he : w.size = 0
  ·have e0 : w = ⟨#[]⟩ := by
    apply ByteArray.ext
    exact Array.eq_empty_of_size_eq_zero he
   rw [if_pos rfl, if_neg (fun x => x.2 he)]
   subst e0
   clear he
   go_enter Tryz.func119, Tryz.ntmps119
   go_wp2_with fail
   refine CL.out.mono ?_
   rintro e w2 ⟨rfl, hb⟩
   have h2 := HH.out.below hb
   have c3 := h2.blk.cell 3 _ rfl
   have f3 := h2.blk.frozen 3
   have H2 := Lib.hid (And.intro h2 hb)
   clear h2 hb CL
   go_wp2_with fail
   go_ret
   exact ⟨rfl, ⟨H2.out.1.blk.set 3 (.bool true), (H2.out.1.rd.keep fun q hq => World.cell?_setCell_other _ _ _ _ (fun x => by rw [← x] at hq; exact absurd hq (Nat.lt_irrefl _))), H2.out.1.ok, H2.out.1.sz⟩, (But.of H2.out.2).setCell _ _ rfl⟩
  ·rw [if_pos rfl, if_pos ⟨rfl, he⟩]
   have hne : ¬ w.toList = [] := fun x => he ((empty_list w).1 x)
   have hne2 : (w.toList == []) = false := by simpa using hne
   have hne3 : (!w.toList.isEmpty) = true := by simpa using hne
   have hw1 : wrap64 ((i : Int) + 1) = ((i + 1 : Nat) : Int) := by unfold wrap64; omega
   have hi1 : (i : Int) ≤ 1000000 := by omega
   have HW := Lib.hid hw1
   clear he hw1
   go_enter Tryz.func119, Tryz.ntmps119
   go_wp2_with fail
   refine CL.out.mono ?_
   rintro e w2 ⟨rfl, hb⟩
   have h2 := HH.out.below hb
   have c2 := h2.blk.cell 2 _ rfl
   have f2 := h2.blk.frozen 2
   have H2 := Lib.hid (And.intro h2 hb)
   clear h2 hb CL
   go_wp2_with fail
   go_ret
   refine ⟨rfl, ⟨?_, ?_, H2.out.1.ok, H2.out.1.sz⟩, (But.of H2.out.2).setCell _ _ rfl⟩
   ·have := H2.out.1.blk.set 2 (.int .i64 ((i : Int) + 1))
    rwa [show ((i + 1 : Nat) : Int) = (i : Int) + 1 by omega]
   ·exact H2.out.1.rd.keep fun q hq => World.cell?_setCell_other _ _ _ _ (fun x => by rw [← x] at hq; exact absurd hq (Nat.lt_irrefl _))
 ·have hr2 : r = false := by simpa using hr
  subst hr2
  rw [if_neg (by decide), if_neg (fun x => absurd x.1 (by decide))]
  clear hr
  go_enter Tryz.func119, Tryz.ntmps119
  go_wp2_with fail
  refine CL.out.mono ?_
  rintro e w2 ⟨rfl, hb⟩
  have h2 := HH.out.below hb
  have c3 := h2.blk.cell 3 _ rfl
  have f3 := h2.blk.frozen 3
  have H2 := Lib.hid (And.intro h2 hb)
  clear h2 hb CL
  go_wp2_with fail
  go_ret
  exact ⟨rfl, ⟨H2.out.1.blk.set 3 (.bool true), (H2.out.1.rd.keep fun q hq => World.cell?_setCell_other _ _ _ _ (fun x => by rw [← x] at hq; exact absurd hq (Nat.lt_irrefl _))), H2.out.1.ok, H2.out.1.sz⟩, (But.of H2.out.2).setCell _ _ rfl⟩
end Go.Proofs.YtkgddcemocfgfaaGreatDoor
end

section
/- The reference's parser: value. -/


namespace Go.Proofs.YtkgddcemocfgfaaGreatDoor
open Go.RowKit
set_option linter.unusedVariables false
set_option linter.unusedSimpArgs false
set_option maxRecDepth 100000

theorem dig_iff (c : UInt8) : Sm.digit c = true ↔ Rt.Dig c := by unfold Sm.digit Rt.Dig; exact decide_eq_true_iff
theorem all_dig {l : List UInt8} : l.all Sm.digit = true ↔ ∀ c ∈ l, Rt.Dig c := by
 rw [List.all_eq_true]
 exact ⟨fun h c hc => (dig_iff c).1 (h c hc), fun h c hc => (dig_iff c).2 (h c hc)⟩
theorem paNext {l : List UInt8} {i : Nat} (hi : i < l.length) : l.take (i + 1) = l.take i ++ [l.getD i 0] := by
 rw [List.take_add_one, List.getD_eq_getElem?_getD, List.getElem?_eq_getElem hi]; simp

set_option maxHeartbeats 4000000 in
theorem valueN (w : ByteArray) (W : World) (h1 : 2 ≤ w.size) (h2 : w.size ≤ 10) (h0 : (w[0]'(by omega)).toNat = 45) :
  Calls Tryz.prog 120 #[.string w] W (Ans (.tuple #[.int .i64 (if ((sb w).drop 1).all Sm.digit then -Sm.digitsV ((sb w).drop 1) else 0), .bool (((sb w).drop 1).all Sm.digit)]) W) := by
 obtain ⟨z, hz⟩ : ∃ z, z = ((sb w).drop 1).all Sm.digit := ⟨_, rfl⟩
 obtain ⟨u, hu⟩ : ∃ u, u = if ((sb w).drop 1).all Sm.digit then -Sm.digitsV ((sb w).drop 1) else 0 := ⟨_, rfl⟩
 rw [← hu, ← hz]
 rw [← hz] at hu
 have hl : (sb w).length = w.size := sb_len w
 have hRl : ((sb w).drop 1).length = w.size - 1 := by rw [List.length_drop, hl]
 have HU := Lib.hid (And.intro hu (And.intro hz hRl))
 have CD := Lib.hid (fun c V => smDigit_any c V)
 have q1 : (0 : Int) < w.size := by omega
 have q2 : ¬ (w.size : Int) = 1 := by omega
 have q2b : ((w.size : Int) == 1) = false := by simpa using q2
 have q3 : ¬ (10 : Int) < w.size := by omega
 have q4 : ¬ w.size = 1 := by omega
 have q5 : ¬ 10 < w.size := by omega
 have q6 : 0 < w.size := by omega
 have e0 : ((w[0]'(by omega)).toNat : Int) = 45 := by omega
 clear hu hz hl hRl
 unfold Ans
 go_enter Tryz.func120, Tryz.ntmps120
 go_wp2_with fail
 clear q2 q2b q3 q4 q5
 go_loopw [5, 6] (fun n i wr => ∃ k v : Nat, k ≤ w.size - 1 ∧ i = .int .i64 ((k : Int) + 1) ∧ n = .int .i64 v ∧ v = Rt.val10 (((sb w).drop 1).take k) ∧ (∀ c ∈ ((sb w).drop 1).take k, Rt.Dig c) ∧ W = wr) (fun _ i _ => w.size - (intOf i).toNat)
 case atStart => exact ⟨0, 0, by omega, rfl, rfl, rfl, by simp, rfl⟩
 case round =>
  obtain ⟨k, v, hk, rfl, rfl, hv, hd, rfl⟩ := hrel
  have hvb : v < 1000000000 := by
   rw [hv]
   have a1 := Rt.val10_lt _ hd
   have a2 : (((sb w).drop 1).take k).length ≤ 9 := by rw [List.length_take]; omega
   have a3 : 10 ^ (((sb w).drop 1).take k).length ≤ 10 ^ 9 := Nat.pow_le_pow_right (by decide) a2
   omega
  by_cases hlt : k < w.size - 1
  ·have HV := Lib.hid (And.intro hv hd)
   clear hv hd
   have hlt2 : (k + 1) < w.size := by omega
   have i1 : (k : Int) + 1 < w.size := by omega
   have i0 : (0 : Int) ≤ (k : Int) + 1 := by omega
   have hat := sbGet w (k + 1) hlt2
   obtain ⟨c, hc⟩ : ∃ c, c = w[(k + 1)]'hlt2 := ⟨_, rfl⟩
   have hll : k < ((sb w).drop 1).length := by rw [HU.out.2.2]; exact hlt
   have hRk : ((sb w).drop 1).getD k 0 = c := by
    rw [List.getD_eq_getElem?_getD, List.getElem?_drop, Nat.add_comm, hat, hc]; rfl
   have bad : Sm.digit c = false → z = false := fun h => by
    rw [HU.out.2.1]
    refine all_false _ _ k c ?_ h
    rw [List.getElem?_eq_getElem hll, ← hRk, List.getD_eq_getElem?_getD, List.getElem?_eq_getElem hll]; rfl
   have cd := CD.out c W
   have hcI : ((w[(k + 1)]'hlt2).toNat : Int) = (c.toNat : Int) := by rw [hc]
   have hidx : ((k : Int) + 1).toNat = (k + 1) := by omega
   have HB := Lib.hid (And.intro bad (And.intro hRk hll))
   obtain ⟨dg, hdg⟩ : ∃ d, d = Sm.digit c := ⟨_, rfl⟩
   rw [← hdg] at cd
   have CD2 := Lib.hid cd
   have HDG := Lib.hid hdg
   cases dg with
   | false =>
    have HZ := Lib.hid (bad hdg.symm)
    clear cd bad hat hRk hdg hll
    go_wp2_with fail
    refine CD2.out.mono ?_
    rintro e w' ⟨rfl, hw'⟩
    obtain rfl := hw'.symm
    have hu := HU.out.1
    rw [if_neg (by rw [HZ.out]; decide)] at hu
    have HUU := Lib.hid hu
    clear hu hw'
    go_wp2_with fail
    go_ret2
    exact ⟨by rw [HUU.out, HZ.out]; rfl, rfl⟩
   | true =>
    have hcd := (dig_iff c).1 hdg.symm
    unfold Rt.Dig at hcd
    have c1 : (48 : Int) ≤ c.toNat := by omega
    have c2 : (c.toNat : Int) ≤ 57 := by omega
    have hvI : (v : Int) < 1000000000 := by omega
    have HCD := Lib.hid hcd
    clear cd bad hat hRk hdg hll hcd
    go_wp2_with fail
    refine CD2.out.mono ?_
    rintro e w' ⟨rfl, hw'⟩
    obtain rfl := hw'.symm
    clear hw'
    go_wp2_with fail
    refine ⟨⟨k + 1, 10 * v + (c.toNat - 48), by omega, by rw [show ((k + 1 : Nat) : Int) = (k : Int) + 1 by omega], ?_, ?_, ?_, by first | rfl | trivial⟩, by simp [intOf]; omega⟩
    ·congr 1
     have := HCD.out
     omega
    ·rw [paNext HB.out.2.2, Rt.val10_snoc, HB.out.2.1, ← HV.out.1]
    ·rw [paNext HB.out.2.2]
     intro x hx
     rcases List.mem_append.1 hx with hx | hx
     ·exact HV.out.2 x hx
     ·rw [List.mem_singleton.1 hx, HB.out.2.1]
      exact (dig_iff c).1 HDG.out.symm
  ·have hke : k = w.size - 1 := by omega
   have hli : ¬ (k : Int) + 1 < w.size := by omega
   have hke2 : k = ((sb w).drop 1).length := by rw [HU.out.2.2]; exact hke
   rw [hke2, List.take_length] at hv hd
   have hz : z = true := by rw [HU.out.2.1]; exact all_dig.2 hd
   clear hke hke2 hlt
   have hvI : (v : Int) < 1000000000 := by omega
   have hu : u = -(v : Int) := by
    rw [HU.out.1, if_pos hz]
    unfold Sm.digitsV
    rw [hv]
   have HUU := Lib.hid hu
   subst hz
   clear hv hd HU CD hu
   go_wp2_with fail
   go_ret2
   exact ⟨by rw [HUU.out]; rfl, rfl⟩

set_option maxHeartbeats 4000000 in
theorem valueP (w : ByteArray) (W : World) (h1 : 1 ≤ w.size) (h2 : w.size ≤ 9) (h0 : (w[0]'(by omega)).toNat ≠ 45) :
  Calls Tryz.prog 120 #[.string w] W (Ans (.tuple #[.int .i64 (if (sb w).all Sm.digit then Sm.digitsV (sb w) else 0), .bool ((sb w).all Sm.digit)]) W) := by
 obtain ⟨z, hz⟩ : ∃ z, z = (sb w).all Sm.digit := ⟨_, rfl⟩
 obtain ⟨u, hu⟩ : ∃ u, u = if (sb w).all Sm.digit then Sm.digitsV (sb w) else 0 := ⟨_, rfl⟩
 rw [← hu, ← hz]
 rw [← hz] at hu
 have hl : (sb w).length = w.size := sb_len w
 have hRl : (sb w).length = w.size := by exact hl
 have HU := Lib.hid (And.intro hu (And.intro hz hRl))
 have CD := Lib.hid (fun c V => smDigit_any c V)
 have q1 : (0 : Int) < w.size := by omega
 have q2 : ¬ (w.size : Int) = 0 := by omega
 have q2b : ((w.size : Int) == 0) = false := by simpa using q2
 have q3 : ¬ (9 : Int) < w.size := by omega
 have q4 : ¬ w.size = 0 := by omega
 have q5 : ¬ 9 < w.size := by omega
 have q6 : 0 < w.size := by omega
 have e0 : ¬ ((w[0]'(by omega)).toNat : Int) = 45 := by omega
 have e1 : (((w[0]'(by omega)).toNat : Int) == 45) = false := by simpa using e0
 have e2 : ¬ (w[0]'(by omega)).toNat = 45 := by omega
 clear hu hz hl hRl
 unfold Ans
 go_enter Tryz.func120, Tryz.ntmps120
 go_wp2_with fail
 clear q2 q2b q3 q4 q5
 go_loopw [5, 6] (fun n i wr => ∃ k v : Nat, k ≤ w.size ∧ i = .int .i64 ((k : Int)) ∧ n = .int .i64 v ∧ v = Rt.val10 ((sb w).take k) ∧ (∀ c ∈ (sb w).take k, Rt.Dig c) ∧ W = wr) (fun _ i _ => w.size - (intOf i).toNat)
 case atStart => exact ⟨0, 0, by omega, rfl, rfl, rfl, by simp, rfl⟩
 case round =>
  obtain ⟨k, v, hk, rfl, rfl, hv, hd, rfl⟩ := hrel
  have hvb : v < 1000000000 := by
   rw [hv]
   have a1 := Rt.val10_lt _ hd
   have a2 : ((sb w).take k).length ≤ 9 := by rw [List.length_take]; omega
   have a3 : 10 ^ ((sb w).take k).length ≤ 10 ^ 9 := Nat.pow_le_pow_right (by decide) a2
   omega
  by_cases hlt : k < w.size
  ·have HV := Lib.hid (And.intro hv hd)
   clear hv hd
   have hlt2 : k < w.size := by omega
   have i1 : (k : Int) < w.size := by omega
   have i0 : (0 : Int) ≤ (k : Int) := by omega
   have hat := sbGet w k hlt2
   obtain ⟨c, hc⟩ : ∃ c, c = w[k]'hlt2 := ⟨_, rfl⟩
   have hll : k < (sb w).length := by rw [HU.out.2.2]; exact hlt
   have hRk : (sb w).getD k 0 = c := by
    rw [List.getD_eq_getElem?_getD, hat, hc]; rfl
   have bad : Sm.digit c = false → z = false := fun h => by
    rw [HU.out.2.1]
    refine all_false _ _ k c ?_ h
    rw [List.getElem?_eq_getElem hll, ← hRk, List.getD_eq_getElem?_getD, List.getElem?_eq_getElem hll]; rfl
   have cd := CD.out c W
   have hcI : ((w[k]'hlt2).toNat : Int) = (c.toNat : Int) := by rw [hc]
   have hidx : ((k : Int)).toNat = k := by omega
   have HB := Lib.hid (And.intro bad (And.intro hRk hll))
   obtain ⟨dg, hdg⟩ : ∃ d, d = Sm.digit c := ⟨_, rfl⟩
   rw [← hdg] at cd
   have CD2 := Lib.hid cd
   have HDG := Lib.hid hdg
   cases dg with
   | false =>
    have HZ := Lib.hid (bad hdg.symm)
    clear cd bad hat hRk hdg hll
    go_wp2_with fail
    refine CD2.out.mono ?_
    rintro e w' ⟨rfl, hw'⟩
    obtain rfl := hw'.symm
    have hu := HU.out.1
    rw [if_neg (by rw [HZ.out]; decide)] at hu
    have HUU := Lib.hid hu
    clear hu hw'
    go_wp2_with fail
    go_ret2
    exact ⟨by rw [HUU.out, HZ.out]; rfl, rfl⟩
   | true =>
    have hcd := (dig_iff c).1 hdg.symm
    unfold Rt.Dig at hcd
    have c1 : (48 : Int) ≤ c.toNat := by omega
    have c2 : (c.toNat : Int) ≤ 57 := by omega
    have hvI : (v : Int) < 1000000000 := by omega
    have HCD := Lib.hid hcd
    clear cd bad hat hRk hdg hll hcd
    go_wp2_with fail
    refine CD2.out.mono ?_
    rintro e w' ⟨rfl, hw'⟩
    obtain rfl := hw'.symm
    clear hw'
    go_wp2_with fail
    refine ⟨⟨k + 1, 10 * v + (c.toNat - 48), by omega, by go_num, ?_, ?_, ?_, by first | rfl | trivial⟩, by simp [intOf]; omega⟩
    ·congr 1
     have := HCD.out
     omega
    ·rw [paNext HB.out.2.2, Rt.val10_snoc, HB.out.2.1, ← HV.out.1]
    ·rw [paNext HB.out.2.2]
     intro x hx
     rcases List.mem_append.1 hx with hx | hx
     ·exact HV.out.2 x hx
     ·rw [List.mem_singleton.1 hx, HB.out.2.1]
      exact (dig_iff c).1 HDG.out.symm
  ·have hke : k = w.size := by omega
   have hli : ¬ (k : Int) < w.size := by omega
   have hke2 : k = (sb w).length := by rw [HU.out.2.2]; exact hke
   rw [hke2, List.take_length] at hv hd
   have hz : z = true := by rw [HU.out.2.1]; exact all_dig.2 hd
   clear hke hke2 hlt
   have hvI : (v : Int) < 1000000000 := by omega
   have hu : u = (v : Int) := by
    rw [HU.out.1, if_pos hz]
    unfold Sm.digitsV
    rw [hv]
   have HUU := Lib.hid hu
   subst hz
   clear hv hd HU CD hu
   go_wp2_with fail
   go_ret2
   exact ⟨by rw [HUU.out]; rfl, rfl⟩

theorem getD_zero (w : ByteArray) (h : 0 < w.size) : (sb w).getD 0 0 = w[0]'h := by rw [List.getD_eq_getElem?_getD, sbGet w 0 h]; rfl
set_option maxHeartbeats 4000000 in
theorem paValue_any (w : ByteArray) (W : World) :
  Calls Tryz.prog 120 #[.string w] W (Ans (.tuple #[.int .i64 (Sm.valW (sb w)).1, .bool (Sm.valW (sb w)).2]) W) := by
 have hl : (sb w).length = w.size := sb_len w
 by_cases h0 : w.size = 0
 ·have e : Sm.valW (sb w) = (0, false) := by
   have : sb w = [] := List.eq_nil_of_length_eq_zero (by omega)
   rw [this]; rfl
  rw [e]
  have q1 : ¬ (0 : Int) < w.size := by omega
  have q2 : ¬ 0 < w.size := by omega
  unfold Ans
  clear e hl
  go_enter Tryz.func120, Tryz.ntmps120
  go_wp2_with fail
  go_ret2
  exact ⟨rfl, rfl⟩
 ·have hp : 0 < w.size := by omega
  have hg := getD_zero w hp
  by_cases h45 : (w[0]'hp).toNat = 45
  ·have e45 : (sb w).getD 0 0 = 45 := by rw [hg]; exact UInt8.toNat_inj.1 h45
   by_cases hb : w.size = 1 ∨ 10 < w.size
   ·have e : Sm.valW (sb w) = (0, false) := by unfold Sm.valW; rw [if_pos e45, if_pos (by rw [hl]; exact hb)]
    rw [e]
    have q1 : (0 : Int) < w.size := by omega
    have e0 : ((w[0]'hp).toNat : Int) = 45 := by omega
    unfold Ans
    clear e hl hg e45
    rcases hb with hb | hb
    ·have q2 : (w.size : Int) = 1 := by omega
     go_enter Tryz.func120, Tryz.ntmps120
     go_wp2_with fail
     go_ret2
     exact ⟨rfl, rfl⟩
    ·have q2 : ¬ (w.size : Int) = 1 := by omega
     have q2b : ((w.size : Int) == 1) = false := by simpa using q2
     have q2c : ¬ w.size = 1 := by omega
     have q3 : (10 : Int) < w.size := by omega
     go_enter Tryz.func120, Tryz.ntmps120
     go_wp2_with fail
     go_ret2
     exact ⟨rfl, rfl⟩
   ·have e : Sm.valW (sb w) = (if ((sb w).drop 1).all Sm.digit then -Sm.digitsV ((sb w).drop 1) else 0, ((sb w).drop 1).all Sm.digit) := by
     unfold Sm.valW
     rw [if_pos e45, if_neg (by rw [hl]; exact hb)]
     split
     ·rename_i h; rw [h]
     ·rename_i h; rw [Bool.not_eq_true] at h; rw [h]
    rw [e]
    exact valueN w W (by omega) (by omega) h45
  ·have e45 : ¬ (sb w).getD 0 0 = 45 := by rw [hg]; exact fun h => h45 (by rw [h]; rfl)
   by_cases hb : 9 < w.size
   ·have e : Sm.valW (sb w) = (0, false) := by unfold Sm.valW; rw [if_neg e45, if_pos (by rw [hl]; exact .inr hb)]
    rw [e]
    have q1 : (0 : Int) < w.size := by omega
    have e0 : ¬ ((w[0]'hp).toNat : Int) = 45 := by omega
    have e1 : (((w[0]'hp).toNat : Int) == 45) = false := by simpa using e0
    have q2 : ¬ (w.size : Int) = 0 := by omega
    have q2b : ((w.size : Int) == 0) = false := by simpa using q2
    have q3 : (9 : Int) < w.size := by omega
    unfold Ans
    clear e hl hg e45
    go_enter Tryz.func120, Tryz.ntmps120
    go_wp2_with fail
    go_ret2
    exact ⟨rfl, rfl⟩
   ·have e : Sm.valW (sb w) = (if (sb w).all Sm.digit then Sm.digitsV (sb w) else 0, (sb w).all Sm.digit) := by
     unfold Sm.valW
     rw [if_neg e45, if_neg (by rw [hl]; omega)]
     split
     ·rename_i h; rw [h]
     ·rename_i h; rw [Bool.not_eq_true] at h; rw [h]
    rw [e]
    exact valueP w W (by omega) (by omega) h45
end Go.Proofs.YtkgddcemocfgfaaGreatDoor
end

section
/- The program: what is valid: uses, bounds, numbers. -/


namespace Go.Proofs.YtkgddcemocfgfaaGreatDoor
open Go.RowKit
set_option linter.unusedVariables false
set_option linter.unusedSimpArgs false
set_option maxRecDepth 100000

namespace Sm
def useOK (s : ByteArray) (u : Int) : Bool := (isName s && decide (u ≠ 0)) || (decide (s.size = 0) && decide (u ≠ 1))
end Sm
theorem nil_of_size {s : ByteArray} (h : s.size = 0) : s = ⟨#[]⟩ := by
 apply ByteArray.ext
 exact Array.eq_empty_of_size_eq_zero h

set_option maxHeartbeats 4000000 in
theorem gUse0_any (s : ByteArray) (w : World) : Calls Tryz.prog 145 #[.string s, .int .i64 0] w (Ans (.bool (Sm.useOK s 0)) w) := by
 unfold Ans
 have cI := gIsName_any s w
 obtain ⟨q, hq⟩ : ∃ q, q = Sm.isName s := ⟨_, rfl⟩
 obtain ⟨z, hz⟩ : ∃ z, z = Sm.useOK s 0 := ⟨_, rfl⟩
 rw [← hz]
 unfold Sm.useOK at hz
 rw [← hq] at cI hz
 have CI := Lib.hid cI
 by_cases he : s.size = 0
 ·rw [decide_eq_true he] at hz
  have HZ := Lib.hid hz
  obtain rfl := nil_of_size he
  clear cI hq hz he
  go_enter Tryz.func145, Tryz.ntmps145
  go_wp2_with fail
  refine CI.out.mono ?_
  rintro e w1 ⟨rfl, rfl⟩
  clear CI
  cases q with
  | true =>
   go_wp2_with fail
   go_ret
   exact ⟨by rw [HZ.out]; rfl, rfl⟩
  | false =>
   go_wp2_with fail
   go_ret
   exact ⟨by rw [HZ.out]; rfl, rfl⟩
 ·rw [decide_eq_false he] at hz
  have HZ := Lib.hid hz
  have hne : ¬ s.toList = [] := fun x => he ((empty_list s).1 x)
  have hne2 : (s.toList == []) = false := by simpa using hne
  have hne3 : (!s.toList.isEmpty) = true := by simpa using hne
  clear cI hq hz he
  go_enter Tryz.func145, Tryz.ntmps145
  go_wp2_with fail
  refine CI.out.mono ?_
  rintro e w1 ⟨rfl, rfl⟩
  clear CI
  cases q with
  | true =>
   go_wp2_with fail
   go_ret
   exact ⟨by rw [HZ.out]; rfl, rfl⟩
  | false =>
   go_wp2_with fail
   go_ret
   exact ⟨by rw [HZ.out]; rfl, rfl⟩

set_option maxHeartbeats 4000000 in
theorem gUse1_any (s : ByteArray) (w : World) : Calls Tryz.prog 145 #[.string s, .int .i64 1] w (Ans (.bool (Sm.useOK s 1)) w) := by
 unfold Ans
 have cI := gIsName_any s w
 obtain ⟨q, hq⟩ : ∃ q, q = Sm.isName s := ⟨_, rfl⟩
 obtain ⟨z, hz⟩ : ∃ z, z = Sm.useOK s 1 := ⟨_, rfl⟩
 rw [← hz]
 unfold Sm.useOK at hz
 rw [← hq] at cI hz
 have CI := Lib.hid cI
 by_cases he : s.size = 0
 ·rw [decide_eq_true he] at hz
  have HZ := Lib.hid hz
  obtain rfl := nil_of_size he
  clear cI hq hz he
  go_enter Tryz.func145, Tryz.ntmps145
  go_wp2_with fail
  refine CI.out.mono ?_
  rintro e w1 ⟨rfl, rfl⟩
  clear CI
  cases q with
  | true =>
   go_wp2_with fail
   go_ret
   exact ⟨by rw [HZ.out]; rfl, rfl⟩
  | false =>
   go_wp2_with fail
   go_ret
   exact ⟨by rw [HZ.out]; rfl, rfl⟩
 ·rw [decide_eq_false he] at hz
  have HZ := Lib.hid hz
  have hne : ¬ s.toList = [] := fun x => he ((empty_list s).1 x)
  have hne2 : (s.toList == []) = false := by simpa using hne
  have hne3 : (!s.toList.isEmpty) = true := by simpa using hne
  clear cI hq hz he
  go_enter Tryz.func145, Tryz.ntmps145
  go_wp2_with fail
  refine CI.out.mono ?_
  rintro e w1 ⟨rfl, rfl⟩
  clear CI
  cases q with
  | true =>
   go_wp2_with fail
   go_ret
   exact ⟨by rw [HZ.out]; rfl, rfl⟩
  | false =>
   go_wp2_with fail
   go_ret
   exact ⟨by rw [HZ.out]; rfl, rfl⟩

set_option maxHeartbeats 4000000 in
theorem gUse2_any (s : ByteArray) (w : World) : Calls Tryz.prog 145 #[.string s, .int .i64 2] w (Ans (.bool (Sm.useOK s 2)) w) := by
 unfold Ans
 have cI := gIsName_any s w
 obtain ⟨q, hq⟩ : ∃ q, q = Sm.isName s := ⟨_, rfl⟩
 obtain ⟨z, hz⟩ : ∃ z, z = Sm.useOK s 2 := ⟨_, rfl⟩
 rw [← hz]
 unfold Sm.useOK at hz
 rw [← hq] at cI hz
 have CI := Lib.hid cI
 by_cases he : s.size = 0
 ·rw [decide_eq_true he] at hz
  have HZ := Lib.hid hz
  obtain rfl := nil_of_size he
  clear cI hq hz he
  go_enter Tryz.func145, Tryz.ntmps145
  go_wp2_with fail
  refine CI.out.mono ?_
  rintro e w1 ⟨rfl, rfl⟩
  clear CI
  cases q with
  | true =>
   go_wp2_with fail
   go_ret
   exact ⟨by rw [HZ.out]; rfl, rfl⟩
  | false =>
   go_wp2_with fail
   go_ret
   exact ⟨by rw [HZ.out]; rfl, rfl⟩
 ·rw [decide_eq_false he] at hz
  have HZ := Lib.hid hz
  have hne : ¬ s.toList = [] := fun x => he ((empty_list s).1 x)
  have hne2 : (s.toList == []) = false := by simpa using hne
  have hne3 : (!s.toList.isEmpty) = true := by simpa using hne
  clear cI hq hz he
  go_enter Tryz.func145, Tryz.ntmps145
  go_wp2_with fail
  refine CI.out.mono ?_
  rintro e w1 ⟨rfl, rfl⟩
  clear CI
  cases q with
  | true =>
   go_wp2_with fail
   go_ret
   exact ⟨by rw [HZ.out]; rfl, rfl⟩
  | false =>
   go_wp2_with fail
   go_ret
   exact ⟨by rw [HZ.out]; rfl, rfl⟩
theorem gUse_any (s : ByteArray) (u : Int) (hu : u = 0 ∨ u = 1 ∨ u = 2) (w : World) : Calls Tryz.prog 145 #[.string s, .int .i64 u] w (Ans (.bool (Sm.useOK s u)) w) := by
 rcases hu with rfl | rfl | rfl
 ·exact gUse0_any s w
 ·exact gUse1_any s w
 ·exact gUse2_any s w

set_option maxHeartbeats 4000000 in
theorem gBounds_any (lo hi a b : Int) (w : World) : Calls Tryz.prog 135 #[.int .i64 lo, .int .i64 hi, .int .i64 a, .int .i64 b] w (Ans (.bool (Sm.span lo hi a b)) w) := by
 unfold Ans
 have c1 := fun V => gWithin_any lo a b V
 have c2 := fun V => gWithin_any hi a b V
 obtain ⟨q1, hq1⟩ : ∃ q, q = Sm.within lo a b := ⟨_, rfl⟩
 obtain ⟨q2, hq2⟩ : ∃ q, q = Sm.within hi a b := ⟨_, rfl⟩
 simp only [← hq1] at c1
 simp only [← hq2] at c2
 obtain ⟨z, hz⟩ : ∃ z, z = Sm.span lo hi a b := ⟨_, rfl⟩
 have hz2 : z = (q1 && (q2 && decide (lo ≤ hi))) := by
  rw [hz, hq1, hq2]
  unfold Sm.span Sm.within
  rw [Bool.eq_iff_iff]
  simp only [decide_eq_true_eq, Bool.and_eq_true]
  omega
 rw [← hz]
 have C1 := Lib.hid c1
 have C2 := Lib.hid c2
 have HZ := Lib.hid hz2
 clear c1 c2 hq1 hq2 hz hz2
 go_enter Tryz.func135, Tryz.ntmps135
 go_wp2_with fail
 refine (C1.out _).mono ?_
 rintro e w1 ⟨rfl, rfl⟩
 cases q1 with
 | false =>
  go_wp2_with fail
  go_ret
  exact ⟨by rw [HZ.out]; rfl, rfl⟩
 | true =>
  go_wp2_with fail
  refine (C2.out _).mono ?_
  rintro e w2 ⟨rfl, rfl⟩
  cases q2 with
  | false =>
   go_wp2_with fail
   go_ret
   exact ⟨by rw [HZ.out]; rfl, rfl⟩
  | true =>
   go_wp2_with fail
   go_ret
   exact ⟨by rw [HZ.out]; rfl, rfl⟩
set_option maxHeartbeats 4000000 in
theorem gWeight_any (n : Int) (w : World) : Calls Tryz.prog 191 #[.int .i64 n] w (Ans (.bool (Sm.within n 0 1048576)) w) := by
 unfold Ans
 have C := Lib.hid (fun V => gWithin_any n 0 1048576 V)
 obtain ⟨q, hq⟩ : ∃ q, q = Sm.within n 0 1048576 := ⟨_, rfl⟩
 rw [← hq] at C ⊢
 clear hq
 go_enter Tryz.func191, Tryz.ntmps191
 go_wp2_with fail
 refine (C.out _).mono ?_
 rintro e w1 ⟨rfl, rfl⟩
 go_wp2_with fail
 go_ret
 exact ⟨rfl, rfl⟩
end Go.Proofs.YtkgddcemocfgfaaGreatDoor
end

