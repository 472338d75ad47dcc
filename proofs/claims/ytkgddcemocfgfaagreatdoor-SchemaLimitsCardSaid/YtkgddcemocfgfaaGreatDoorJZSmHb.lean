import Derived.Test.YtkgddcemocfgfaaGreatDoorJZFacts
import Derived.Test.YtkgddcemocfgfaaGreatDoorJZRatioText
import Derived.Test.YtkgddcemocfgfaaGreatDoorJZSmEb
import Derived.Test.YtkgddcemocfgfaaGreatDoorJZSmGz
import Derived.Test.YtkgddcemocfgfaaGreatDoorJZSmPh
import Derived.Test.YtkgddcemocfgfaaGreatDoorJZSmRk

section
/- The program: the tokens of a field. -/




namespace Go.Proofs.YtkgddcemocfgfaaGreatDoor
open Go.RowKit
set_option linter.unusedVariables false
set_option linter.unusedSimpArgs false
set_option maxRecDepth 100000

theorem Sm.dec_itoa (n : Int) : Lib.itoa n = Sm.dec n := by
 unfold Sm.dec
 by_cases h : n < 0
 ·rw [if_pos h, Rt.itoa_below h]
 ·rw [if_neg h, Rt.itoa_pos (by omega)]
  congr 1
  omega
theorem below_grow (w : World) (k : Nat) (os : Array Obj) : Below w.heap.size w (Sort.grow (w.drewN k) os) := by
 refine ⟨rfl, rfl, rfl, ?_, fun j hj => ?_⟩
 ·simp [Sort.grow]
 ·simp [Sort.grow, Array.getElem?_append_left hj]
theorem gItoa_any (n : Int) (w : World) (h1 : -1099511627776 < n) (h2 : n < 1099511627776) (hD : SDoor w) : Calls Tryz.prog 92 #[.int .i64 n] w fun e w' => e = .returned (.string (Sm.itoaB n)) ∧ Below w.heap.size w w' :=
 (Tryz.strconv_Itoa n (by omega) (by omega) w hD.pow).mono fun e w' ⟨h1, k, os, h2⟩ => ⟨by rw [h1, Sm.dec_itoa]; rfl, by rw [h2]; exact below_grow w k os⟩

/-- The tokens so far: a row of the call's own; the boxes of the field and of its shape. -/
def TkSt (W : World) (fb : Nat) (fc sc : List Value) (v : Value) (l : List ByteArray) (w : World) : Prop :=
 w.ownsRow (fb + 2) 9 1 v l.length (l.map sv) ∧ Blk w fb fc 74 ∧ Blk w (fb + 1) sc 186 ∧ Below fb W w
section
variable {W w w' : World} {fb : Nat} {fc sc : List Value} {v v' : Value} {l news : List ByteArray}
theorem TkSt.new (h : TkSt W fb fc sc v l w) (hb : Below w.heap.size w w') : TkSt W fb fc sc v l w' :=
 ⟨own_below h.1 hb (Nat.le_refl _), h.2.1.below hb h.2.1.lt, h.2.2.1.below hb h.2.2.1.lt, h.2.2.2.trans (hb.mono (Nat.le_of_lt h.2.1.lt))⟩
theorem TkSt.app (h : TkSt W fb fc sc v l w) (n : Nat) (hn : n = news.length) (ho : w'.ownsRow (fb + 2) 9 1 v' (l.length + n) (l.map sv ++ news.map sv)) (hg : w.grownBy w' v.ownBlock) : TkSt W fb fc sc v' (l ++ news) w' := by
 have hk : ∀ k, v.ownBlock = some k → fb + 2 ≤ k := fun k hk => (h.1.lt k hk).1
 refine ⟨by rw [List.length_append, List.map_append, ← hn]; exact ho, h.2.1.grown hg (fun e => by have := hk _ e; omega), h.2.2.1.grown hg (fun e => by have := hk _ e; omega), h.2.2.2.grown hg (Nat.le_of_lt h.2.1.lt) fun k e => by have := hk _ e; omega⟩
theorem TkSt.big (h : TkSt W fb fc sc v l w) : fb + 2 ≤ w.heap.size := h.2.2.1.lt
end
theorem cell_two_new (w : World) (x y : Value) (t : TypeId) : ∀ (j : Nat) (u : Value), [x, y][j]? = some u → (w.alloc (.cells #[x, y] t)).cell? ((⟨w.heap.size, 0, none⟩ : Addr).add j) = some u := by
 intro j u hj
 have := (Blk.new w [x, y] t).cell j u hj
 have e : (⟨w.heap.size, 0, none⟩ : Addr).add j = ⟨w.heap.size, j, none⟩ := by simp [Addr.add]; omega
 rw [e]
 exact this
theorem alloc_belowS (w : World) (o : Obj) : Below w.heap.size w (w.alloc o) := (Below.refl _ _).alloc (Nat.le_refl _) _

set_option maxHeartbeats 16000000 in
theorem gTokens_any (f : Sm.Fd) (Aw Ag : Option Addr) (cw cg : Nat) (W : World) (hD : SDoor W) (hg : doorB ≤ W.heap.size) (hw : Rd W W.heap.size Aw (f.words.map sv)) (hgg : Rd W W.heap.size Ag (f.weights.map iv)) (hS : Sm.Small f) :
  Calls Tryz.prog 93 #[.agg #[.string f.name, .string f.of, .string f.up, .int .i64 f.kind, .int .i64 f.lo, .int .i64 f.hi, .slice Aw f.words.length cw, .slice Ag f.weights.length cg]] W
   fun e w' => ∃ A c, e = .returned (.slice A (Sm.fieldTok f).length c) ∧ Rd w' w'.heap.size A ((Sm.fieldTok f).map sv) ∧ (Sm.fieldTok f).length ≤ c ∧ c ≤ maxLen ∧ Below W.heap.size W w' := by
 obtain ⟨i0, hi, hz0, hz1, hz2⟩ := info_parts pa_info_str
 have HI := Lib.hid (And.intro hi (And.intro hz0 (And.intro hz1 hz2)))
 clear hi hz0 hz1 hz2
 obtain ⟨rt, rfr, hrow⟩ := hD.row
 have hgs : 0 < W.heap.size := (Array.getElem?_eq_some_iff.1 hrow).1
 obtain ⟨k, hk⟩ : ∃ k : Nat, f.kind = (k : Int) := Int.eq_ofNat_of_zero_le hS.kind0
 have hk9 : k < 9 := by have := hS.kind1; omega
 obtain ⟨x, hx⟩ : ∃ x, shpL[k]? = some x := ⟨_, List.getElem?_eq_getElem (by show k < 9; exact hk9)⟩
 have hsh : Sm.shpOf f.kind = x := by
  unfold Sm.shpOf
  rw [hk, show ((k : Int)).toNat = k by omega, List.getD_eq_getElem?_getD, hx]
  rfl
 have hall : ∀ (i : Nat) (u : Value), x.cells[i]? = some u → shpAll[k * 7 + i]? = some u := fun i u hu =>
  flatten_at (shpL.map Shp.cells) k i x.cells u (by intro y hy; obtain ⟨a, _, rfl⟩ := List.mem_map.1 hy; rfl) (by rw [List.getElem?_map, hx]; rfl) hu
 obtain ⟨s1, s2, s3⟩ := shp_small k x hx
 obtain ⟨L1, hL1⟩ : ∃ l, l = Sm.tokF1 f := ⟨_, rfl⟩
 obtain ⟨L2, hL2⟩ : ∃ l, l = Sm.tokF2 f := ⟨_, rfl⟩
 obtain ⟨L3, hL3⟩ : ∃ l, l = Sm.tokF3 f := ⟨_, rfl⟩
 obtain ⟨L4, hL4⟩ : ∃ l, l = Sm.tokF4 f := ⟨_, rfl⟩
 obtain ⟨L5, hL5⟩ : ∃ l, l = Sm.tokF5 f := ⟨_, rfl⟩
 obtain ⟨R, hR⟩ : ∃ l, l = Sm.fieldTok f := ⟨_, rfl⟩
 obtain ⟨P, hP⟩ : ∃ l, l = Sm.pairs f := ⟨_, rfl⟩
 have q1 : L1 = [x.word, f.name] := by rw [hL1, ← hsh]; rfl
 have q2 : L2 = if x.up ≠ 0 then L1 ++ [Sm.tok f.up] else L1 := by rw [hL2, hL1, ← hsh]; rfl
 have q3 : L3 = if x.of ≠ 0 then L2 ++ [Sm.tok f.of] else L2 := by rw [hL3, hL2, ← hsh]; rfl
 have q4 : L4 = L3 ++ ([f.lo, f.hi].take x.numbers.toNat).map Sm.itoaB := by rw [hL4, hL3, ← hsh]; rfl
 have q5 : L5 = if x.words = true then L4 ++ [Sm.itoaB f.words.length] else L4 := by rw [hL5, hL4, ← hsh]; rfl
 have q6 : R = L5 ++ P.flatMap Sm.wordTok := by rw [hR, hL5, hP]; rfl
 have n1 : L1.length = 2 := by rw [q1]; rfl
 have n2 : L2.length ≤ 3 := by rw [q2]; split <;> (try rw [List.length_append]) <;> (try simp only [List.length_cons, List.length_nil]) <;> omega
 have n3 : L3.length ≤ 4 := by rw [q3]; split <;> (try rw [List.length_append]) <;> (try simp only [List.length_cons, List.length_nil]) <;> omega
 have n4 : L4.length ≤ 6 := by
  have : (([f.lo, f.hi].take x.numbers.toNat).map Sm.itoaB).length ≤ 2 := by
   rw [List.length_map, List.length_take]
   exact Nat.min_le_right _ _
  rw [q4, List.length_append]
  omega
 have n5 : L5.length ≤ 7 := by rw [q5]; split <;> (try rw [List.length_append]) <;> (try simp only [List.length_cons, List.length_nil]) <;> omega
 have hP2 : P = f.words.zip f.weights := hP
 have hsm := hS.same
 have hfw := hS.few
 obtain ⟨nn, hnn, hn2⟩ : ∃ n : Nat, x.numbers = (n : Int) ∧ n ≤ 2 := by
  rcases s3 with e | e | e
  ·exact ⟨0, e, by omega⟩
  ·exact ⟨1, e, by omega⟩
  ·exact ⟨2, e, by omega⟩
 have b1 := hS.lo0
 have b2 := hS.lo1
 have b3 := hS.hi0
 have b4 := hS.hi1
 have b5 := hS.weights
 rw [← hR]
 obtain ⟨fn, fo, fu, fk, flo, fhi, fws, fgs⟩ := f
 obtain ⟨xw, xu, xo, xn, xl, xm, xb⟩ := x
 dsimp only at q1 q2 q3 q4 q5 q6 hP2 hsm hfw hnn s1 s2 hk hw hgg b1 b2 b3 b4 b5 ⊢
 subst hnn
 subst hk
 have hnum : ∀ (j : Nat) (m : Int), [flo, fhi][j]? = some m → -1099511627776 < m ∧ m < 1099511627776 := fun j m hm => by
  have := List.mem_of_getElem? hm
  simp only [List.mem_cons, List.not_mem_nil, or_false] at this
  rcases this with rfl | rfl
  ·exact ⟨b1, b2⟩
  ·exact ⟨b3, b4⟩
 rw [show ((nn : Int)).toNat = nn by omega] at q4
 obtain ⟨nw, hnw⟩ : ∃ n, n = fws.length := ⟨_, rfl⟩
 obtain ⟨ng, hng⟩ : ∃ n, n = fgs.length := ⟨_, rfl⟩
 rw [← hnw] at q5 hfw hsm
 rw [← hng] at hsm
 rw [← hnw, ← hng]
 obtain ⟨fb, hfb⟩ : ∃ n, n = W.heap.size := ⟨_, rfl⟩
 obtain ⟨fc, hfc⟩ : ∃ c : List Value, c = [.string fn, .string fo, .string fu, .int .i64 (k : Int), .int .i64 flo, .int .i64 fhi, .slice Aw nw cw, .slice Ag ng cg] := ⟨_, rfl⟩
 obtain ⟨sc, hsc⟩ : ∃ c : List Value, c = [.string xw, .int .i64 xu, .int .i64 xo, .int .i64 (nn : Int), .int .i64 xl, .int .i64 xm, .bool xb] := ⟨_, rfl⟩
 -- the boxes and the first row
 have hB1 : Below W.heap.size W (W.alloc (.cells #[.string fn, .string fo, .string fu, .int .i64 (k : Int), .int .i64 flo, .int .i64 fhi, .slice Aw nw cw, .slice Ag ng cg] 74)) := alloc_belowS _ _
 have hcell : ∀ (i : Nat) (u : Value), sc[i]? = some u → (W.alloc (.cells #[.string fn, .string fo, .string fu, .int .i64 (k : Int), .int .i64 flo, .int .i64 fhi, .slice Aw nw cw, .slice Ag ng cg] 74)).cell? ⟨0, k * 7 + i, none⟩ = some u := fun i u hu => by
  rw [cell_of_row _ _ _ _ _ _ ((hB1.block _ hgs).trans hrow)]
  rw [hsc] at hu
  simpa using hall i u hu
 have hst1 : TkSt W fb fc sc (.slice (some ⟨fb + 2, 0, none⟩) 2 2) L1 (((W.alloc (.cells #[.string fn, .string fo, .string fu, .int .i64 (k : Int), .int .i64 flo, .int .i64 fhi, .slice Aw nw cw, .slice Ag ng cg] 74)).alloc (.cells #[.string xw, .int .i64 xu, .int .i64 xo, .int .i64 (nn : Int), .int .i64 xl, .int .i64 xm, .bool xb] 186)).alloc (.cells #[.string xw, .string fn] 9)) := by
  obtain ⟨w1, hw1⟩ : ∃ w, w = W.alloc (.cells #[.string fn, .string fo, .string fu, .int .i64 (k : Int), .int .i64 flo, .int .i64 fhi, .slice Aw nw cw, .slice Ag ng cg] 74) := ⟨_, rfl⟩
  have k1 : Blk w1 fb fc 74 := by rw [hw1, hfb, hfc]; exact Blk.new W _ _
  have z1 : w1.heap.size = fb + 1 := by rw [hw1, World.size_alloc, hfb]
  have bb1 : Below fb W w1 := by rw [hw1, hfb]; exact hB1
  rw [← hw1]
  obtain ⟨w2, hw2⟩ : ∃ w, w = w1.alloc (.cells #[.string xw, .int .i64 xu, .int .i64 xo, .int .i64 (nn : Int), .int .i64 xl, .int .i64 xm, .bool xb] 186) := ⟨_, rfl⟩
  have k2 : Blk w2 (fb + 1) sc 186 := by rw [hw2, hsc, ← z1]; exact Blk.new w1 _ _
  have k3 : Blk w2 fb fc 74 := by rw [hw2]; exact k1.alloc _
  have z2 : w2.heap.size = fb + 2 := by rw [hw2, World.size_alloc, z1]
  have bb2 : Below fb W w2 := by rw [hw2]; exact bb1.alloc (by omega) _
  rw [← hw2]
  have ho := own_new w2 (fb + 2) 2 9 [.string xw, .string fn] rfl (by omega) (by decide)
  rw [z2] at ho
  refine ⟨by rw [q1]; exact ho, k3.alloc _, k2.alloc _, bb2.alloc (by omega) _⟩
 have hsz2 : ((W.alloc (.cells #[.string fn, .string fo, .string fu, .int .i64 (k : Int), .int .i64 flo, .int .i64 fhi, .slice Aw nw cw, .slice Ag ng cg] 74)).alloc (.cells #[.string xw, .int .i64 xu, .int .i64 xo, .int .i64 (nn : Int), .int .i64 xl, .int .i64 xm, .bool xb] 186)).heap.size = fb + 2 := by rw [World.size_alloc, World.size_alloc, hfb]
 have hfcell : ∀ (l : List ByteArray) (v : Value) (w : World), TkSt W fb fc sc v l w → ∀ (i : Nat) (u : Value), [.string fn, .string fo, .string fu, .int .i64 (k : Int), .int .i64 flo, .int .i64 fhi, .slice Aw nw cw, .slice Ag ng cg][i]? = some u → w.cell? ⟨fb, i, none⟩ = some u := fun l v w h i u hu => h.2.1.cell i u (by rw [hfc]; exact hu)
 have hscell : ∀ (l : List ByteArray) (v : Value) (w : World), TkSt W fb fc sc v l w → ∀ (i : Nat) (u : Value), [.string xw, .int .i64 xu, .int .i64 xo, .int .i64 (nn : Int), .int .i64 xl, .int .i64 xm, .bool xb][i]? = some u → w.cell? ⟨fb + 1, i, none⟩ = some u := fun l v w h i u hu => h.2.2.1.cell i u (by rw [hsc]; exact hu)
 have hDw : ∀ (l : List ByteArray) (v : Value) (w : World), TkSt W fb fc sc v l w → SDoor w := fun l v w h => hD.below (hfb ▸ h.2.2.2) hg
 have HF := Lib.hid hfcell
 have HS := Lib.hid hscell
 have HD := Lib.hid hDw
 have HSM := Lib.hid (And.intro hsm (And.intro hP2 (And.intro hnw hng)))
 have HR := Lib.hid (And.intro hw (And.intro hgg (And.intro hfb (And.intro hnum b5))))
 have H1 := Lib.hid hst1
 have Q2 := Lib.hid (And.intro q2 (And.intro n2 n1))
 have Q3 := Lib.hid (And.intro q3 n3)
 have Q4 := Lib.hid (And.intro q4 n4)
 have Q5 := Lib.hid (And.intro q5 n5)
 have Q6 := Lib.hid q6
 have S1 := Lib.hid s1
 have S2 := Lib.hid s2
 have HFB := Lib.hid (And.intro hfb hsz2)
 have e0 := hcell 0 (.string xw) (by rw [hsc]; rfl)
 have e1 := hcell 1 (.int .i64 xu) (by rw [hsc]; rfl)
 have e2 := hcell 2 (.int .i64 xo) (by rw [hsc]; rfl)
 have e3 := hcell 3 (.int .i64 (nn : Int)) (by rw [hsc]; rfl)
 have e4 := hcell 4 (.int .i64 xl) (by rw [hsc]; rfl)
 have e5 := hcell 5 (.int .i64 xm) (by rw [hsc]; rfl)
 have e6 := hcell 6 (.bool xb) (by rw [hsc]; rfl)
 rw [Nat.add_zero] at e0
 have j1 : (k : Int) < 9 := by omega
 have j0 : (0 : Int) ≤ k := by omega
 clear hD hg hw hgg hS hx hsh hall hrow hgs hL1 hL2 hL3 hL4 hL5 hR hP hP2 hsm hnw hng hnum b1 b2 b3 b4 b5 q1 q2 q3 q4 q5 q6 n1 n2 n3 n4 n5 s1 s2 s3 hcell hst1 hsz2 hfcell hscell hDw hfb hfc hsc hB1
 go_enter Tryz.func93, Tryz.ntmps93
 go_upto_if 20 with fail
 obtain ⟨w3, hw3⟩ : ∃ w, w = (((W.alloc (.cells #[.string fn, .string fo, .string fu, .int .i64 (k : Int), .int .i64 flo, .int .i64 fhi, .slice Aw nw cw, .slice Ag ng cg] 74)).alloc (.cells #[.string xw, .int .i64 xu, .int .i64 xo, .int .i64 (nn : Int), .int .i64 xl, .int .i64 xm, .bool xb] 186)).alloc (.cells #[.string xw, .string fn] 9)) := ⟨_, rfl⟩
 have hst1 := H1.out
 rw [← hw3] at hst1 ⊢
 clear hw3 e0 e1 e2 e3 e4 e5 e6 j0 j1 H1
 rw [← HFB.out.1, show fb + 1 + 1 = fb + 2 from rfl]
 obtain ⟨v1, hv1⟩ : ∃ v : Value, v = .slice (some ⟨fb + 2, 0, none⟩) 2 2 := ⟨_, rfl⟩
 rw [← hv1] at hst1 ⊢
 clear hv1
 have HT1 := Lib.hid hst1
 clear hst1
 go_cut [4] from 21 to 26 (fun u wx => ∃ v : Value, u = v ∧ TkSt W fb fc sc v L2 wx)
 case first =>
  have c := HF.out _ _ _ HT1.out 2 _ rfl
  rcases S1.out with rfl | rfl | rfl
  ·go_wp2_with fail
   go_meet
   case rel =>
    have e : L2 = L1 := by rw [Q2.out.1]; rfl
    rw [e]
    exact ⟨_, rfl, HT1.out⟩
  all_goals (
   go_wp2_with fail
   refine (gWritten_any fu _).mono ?_
   rintro e w3' ⟨rfl, hq⟩
   obtain rfl := hq.symm
   clear hq
   have hnx := HT1.out.new (alloc_belowS _ (.cells #[.string (Sm.tok fu)] 9))
   have HX := Lib.hid (And.intro hnx (cell_one_new w3 (.string (Sm.tok fu)) 9))
   clear hnx c
   go_wp2_with (at_builtin; refine wpList_append_own_at _ rfl (.tmp 21) (.tmp 25) 45 rfl (fb + 2) 9 i0 (.string ByteArray.empty) 1 16 Tryz.underlying45 HI.out.1 HI.out.2.1 HI.out.2.2.1 HI.out.2.2.2 rfl (by decide) v1 L1.length (L1.map sv) rfl HX.out.1.1 ⟨w3.heap.size, 0, none⟩ 1 1 [.string (Sm.tok fu)] rfl rfl HX.out.2 (by intro u hu; simp at hu; subst hu; rfl) (by have := Q2.out.2.2; unfold maxLen; omega) (by have := Q2.out.2.2; omega) HX.out.1.big ?_; intro v' w6 hown' hgrow _ hat; have HA := Lib.hid (And.intro hown' (And.intro hgrow hat)); clear hown' hgrow hat)
   go_meet
   case rel =>
    have e : L2 = L1 ++ [Sm.tok fu] := by rw [Q2.out.1]; rfl
    rw [e]
    exact ⟨_, rfl, HX.out.1.app 1 rfl HA.out.1 HA.out.2.1⟩)
 case rest =>
 obtain ⟨v2, hv, hst⟩ := hcut
 replace hv := hv.symm
 subst hv
 obtain ⟨w4, hw⟩ : ∃ w, w = wc := ⟨_, rfl⟩
 rw [← hw] at hst ⊢
 clear hw
 have HT2 := Lib.hid hst
 clear hst HT1
 have c := HS.out _ _ _ HT2.out 2 _ rfl
 go_upto_if 29 with fail
 clear c
 go_cut [4] from 30 to 35 (fun u wx => ∃ v : Value, u = v ∧ TkSt W fb fc sc v L3 wx)
 case first =>
  have c := HF.out _ _ _ HT2.out 1 _ rfl
  rcases S2.out with rfl | rfl | rfl
  ·go_wp2_with fail
   go_meet
   case rel =>
    have e : L3 = L2 := by rw [Q3.out.1]; rfl
    rw [e]
    exact ⟨_, rfl, HT2.out⟩
  all_goals (
   go_wp2_with fail
   refine (gWritten_any fo _).mono ?_
   rintro e w4' ⟨rfl, hq⟩
   obtain rfl := hq.symm
   clear hq
   have hnx := HT2.out.new (alloc_belowS _ (.cells #[.string (Sm.tok fo)] 9))
   have HX := Lib.hid (And.intro hnx (cell_one_new w4 (.string (Sm.tok fo)) 9))
   clear hnx c
   go_wp2_with (at_builtin; refine wpList_append_own_at _ rfl (.tmp 30) (.tmp 34) 45 rfl (fb + 2) 9 i0 (.string ByteArray.empty) 1 16 Tryz.underlying45 HI.out.1 HI.out.2.1 HI.out.2.2.1 HI.out.2.2.2 rfl (by decide) v2 L2.length (L2.map sv) rfl HX.out.1.1 ⟨w4.heap.size, 0, none⟩ 1 1 [.string (Sm.tok fo)] rfl rfl HX.out.2 (by intro u hu; simp at hu; subst hu; rfl) (by have := Q2.out.2.1; unfold maxLen; omega) (by have := Q2.out.2.1; omega) HX.out.1.big ?_; intro v' w6 hown' hgrow _ hat; have HA := Lib.hid (And.intro hown' (And.intro hgrow hat)); clear hown' hgrow hat)
   go_meet
   case rel =>
    have e : L3 = L2 ++ [Sm.tok fo] := by rw [Q3.out.1]; rfl
    rw [e]
    exact ⟨_, rfl, HX.out.1.app 1 rfl HA.out.1 HA.out.2.1⟩)
 case rest =>
 obtain ⟨v3, hv, hst⟩ := hcut
 replace hv := hv.symm
 subst hv
 obtain ⟨w5, hw⟩ : ∃ w, w = wc := ⟨_, rfl⟩
 rw [← hw] at hst ⊢
 clear hw
 have HT3 := Lib.hid hst
 clear hst HT2
 have c4 := HF.out _ _ _ HT3.out 4 _ rfl
 have c5 := HF.out _ _ _ HT3.out 5 _ rfl
 have i1 : (nn : Int) ≤ 2 := by omega
 obtain ⟨g, hg⟩ : ∃ n, n = w5.heap.size := ⟨_, rfl⟩
 have hgb : Blk (w5.alloc (.cells #[.int .i64 flo, .int .i64 fhi] 3)) g ([flo, fhi].map iv) 3 := by rw [hg]; exact Blk.new w5 _ _
 have hne : v3.ownBlock ≠ some g := fun e => by have := (HT3.out.1.lt g e).2; omega
 have HG := Lib.hid (And.intro hg (And.intro hgb (And.intro hne (HT3.out.new (alloc_belowS w5 (.cells #[.int .i64 flo, .int .i64 fhi] 3))))))
 clear hg hgb hne
 have d3 := HS.out _ _ _ HG.out.2.2.2 3 _ rfl
 go_wp2_with fail
 rw [← HG.out.1]
 obtain ⟨w6, hw6⟩ : ∃ w, w = w5.alloc (.cells #[.int .i64 flo, .int .i64 fhi] 3) := ⟨_, rfl⟩
 have hst := HG.out.2
 rw [← hw6] at hst ⊢
 clear hw6 c4 c5 d3
 have HG := Lib.hid hst
 clear hst
 go_loopw [4, 6, 45] (fun u n i wr => ∃ (v : Value) (j : Nat) (l : List ByteArray), u = v ∧ i = .int .i64 j ∧ j ≤ nn ∧ l.length = L3.length + j ∧ l = L3 ++ ([flo, fhi].take j).map Sm.itoaB ∧ TkSt W fb fc sc v l wr ∧ Blk wr g ([flo, fhi].map iv) 3 ∧ v.ownBlock ≠ some g) (fun _ _ i _ => nn - (intOf i).toNat)
 case atStart => exact ⟨_, 0, L3, rfl, rfl, Nat.zero_le _, rfl, (List.append_nil _).symm, HG.out.2.2, HG.out.1, HG.out.2.1⟩
 case round =>
 clear HG
 obtain ⟨v, j, l, hv, rfl, hj, hlen, hl, hst, hgb, hne⟩ := hrel
 replace hv := hv.symm
 subst hv
 by_cases hlt : j < nn
 ·obtain ⟨m, hm⟩ : ∃ m, [flo, fhi][j]? = some m := ⟨_, List.getElem?_eq_getElem (by show j < 2; omega)⟩
  have hs : ([flo, fhi].take (j + 1)).map Sm.itoaB = ([flo, fhi].take j).map Sm.itoaB ++ [Sm.itoaB m] := by
   rw [List.take_add_one, hm]; simp
  have hl2 : l ++ [Sm.itoaB m] = L3 ++ ([flo, fhi].take (j + 1)).map Sm.itoaB := by rw [hs, hl, List.append_assoc]
  have cg : wr.cell? ⟨g, j, none⟩ = some (.int .i64 m) := hgb.cell j (iv m) (by rw [List.getElem?_map, hm]; rfl)
  have hb := HR.out.2.2.2.1 j m hm
  have cI := gItoa_any m wr hb.1 hb.2 (HD.out _ _ _ hst)
  have CI := Lib.hid cI
  have HK := Lib.hid (And.intro hl2 (And.intro hst (And.intro hgb (And.intro hne hlen))))
  have j2 : (j : Int) < nn := by omega
  have j3 : (j : Int) < 2 := by omega
  clear hm hs hl2 hl hb cI hst hgb hne hlen
  go_wp2_with fail
  refine CI.out.mono ?_
  rintro e w7 ⟨rfl, hb7⟩
  have hgl := HK.out.2.2.1.lt
  have hn1 := HK.out.2.1.new hb7
  have hnx := hn1.new (alloc_belowS w7 (.cells #[.string (Sm.itoaB m)] 9))
  have hg2 := (HK.out.2.2.1.below hb7 hgl).alloc (.cells #[.string (Sm.itoaB m)] 9)
  have hz : g < w7.heap.size + 1 := by have := hb7.size; omega
  have HX := Lib.hid (And.intro hnx (And.intro (cell_one_new w7 (.string (Sm.itoaB m)) 9) (And.intro hg2 hz)))
  clear hnx hn1 hg2 hz hgl hb7 CI cg
  go_wp2_with (at_builtin; refine wpList_append_own_at _ rfl (.tmp 49) (.tmp 52) 45 rfl (fb + 2) 9 i0 (.string ByteArray.empty) 1 16 Tryz.underlying45 HI.out.1 HI.out.2.1 HI.out.2.2.1 HI.out.2.2.2 rfl (by decide) v l.length (l.map sv) rfl HX.out.1.1 ⟨w7.heap.size, 0, none⟩ 1 1 [.string (Sm.itoaB m)] rfl rfl HX.out.2.1 (by intro u hu; simp at hu; subst hu; rfl) (by have := HK.out.2.2.2.2; have := Q3.out.2; unfold maxLen; omega) (by have := HK.out.2.2.2.2; have := Q3.out.2; omega) HX.out.1.big ?_; intro v' w9 hown' hgrow _ hat; have HA := Lib.hid (And.intro hown' (And.intro hgrow hat)); clear hown' hgrow hat)
  go_roundw
  case rel =>
   refine ⟨_, j + 1, l ++ [Sm.itoaB m], rfl, by go_num, by omega, by rw [List.length_append, HK.out.2.2.2.2]; rfl, HK.out.1, HX.out.1.app 1 rfl HA.out.1 HA.out.2.1, HX.out.2.2.1.grown HA.out.2.1 HK.out.2.2.2.1, fun e => ?_⟩
   rcases HA.out.2.2 with hh | hh
   ·rw [hh] at e; exact HK.out.2.2.2.1 e
   ·rw [hh, World.size_alloc] at e
    injection e with e
    have := HX.out.2.2.2
    omega
  case measure => simp [intOf]; omega
 obtain rfl : j = nn := by omega
 have hL : l = L4 := by rw [hl, Q4.out.1]
 rw [hL] at hst
 have HT4 := Lib.hid hst
 clear hL hst hgb hne hlen hl hlt hj
 have c := HS.out _ _ _ HT4.out 6 _ rfl
 go_upto_if 56 with fail
 clear c
 go_cut [4] from 57 to 63 (fun u wx => ∃ v : Value, u = v ∧ TkSt W fb fc sc v L5 wx)
 case first =>
  have c := HF.out _ _ _ HT4.out 6 _ rfl
  cases xb with
  | false =>
   go_wp2_with fail
   go_meet
   case rel =>
    have e : L5 = L4 := by rw [Q5.out.1]; rfl
    rw [e]
    exact ⟨_, rfl, HT4.out⟩
  | true =>
   have cI := gItoa_any (nw : Int) wr (by omega) (by omega) (HD.out _ _ _ HT4.out)
   have CI := Lib.hid cI
   clear cI
   go_wp2_with fail
   refine CI.out.mono ?_
   rintro e w7 ⟨rfl, hb7⟩
   have hnx := (HT4.out.new hb7).new (alloc_belowS w7 (.cells #[.string (Sm.itoaB (nw : Int))] 9))
   have HX := Lib.hid (And.intro hnx (cell_one_new w7 (.string (Sm.itoaB (nw : Int))) 9))
   clear hnx c hb7 CI
   go_wp2_with (at_builtin; refine wpList_append_own_at _ rfl (.tmp 57) (.tmp 62) 45 rfl (fb + 2) 9 i0 (.string ByteArray.empty) 1 16 Tryz.underlying45 HI.out.1 HI.out.2.1 HI.out.2.2.1 HI.out.2.2.2 rfl (by decide) v L4.length (L4.map sv) rfl HX.out.1.1 ⟨w7.heap.size, 0, none⟩ 1 1 [.string (Sm.itoaB (nw : Int))] rfl rfl HX.out.2 (by intro u hu; simp at hu; subst hu; rfl) (by have := Q4.out.2; unfold maxLen; omega) (by have := Q4.out.2; omega) HX.out.1.big ?_; intro v' w9 hown' hgrow _ hat; have HA := Lib.hid (And.intro hown' (And.intro hgrow hat)); clear hown' hgrow hat)
   go_meet
   case rel =>
    have e : L5 = L4 ++ [Sm.itoaB (nw : Int)] := by rw [Q5.out.1]; rfl
    rw [e]
    exact ⟨_, rfl, HX.out.1.app 1 rfl HA.out.1 HA.out.2.1⟩
 case rest =>
 obtain ⟨v5, hv, hst⟩ := hcut
 replace hv := hv.symm
 subst hv
 obtain ⟨w8, hw⟩ : ∃ w, w = wc := ⟨_, rfl⟩
 rw [← hw] at hst ⊢
 clear hw
 have HT5 := Lib.hid hst
 clear hst HT4
 have c := HF.out _ _ _ HT5.out 6 _ rfl
 go_wp2_with fail
 clear c
 go_loopw [4, 7, 8, 67] (fun u a b i wr => ∃ (v : Value) (j : Nat) (l : List ByteArray), u = v ∧ i = .int .i64 j ∧ j ≤ nw ∧ l.length ≤ 7 + 2 * j ∧ l = L5 ++ (P.take j).flatMap Sm.wordTok ∧ TkSt W fb fc sc v l wr) (fun _ _ _ i _ => nw - (intOf i).toNat)
 case atStart => exact ⟨_, 0, L5, rfl, rfl, Nat.zero_le _, Q5.out.2, (List.append_nil _).symm, HT5.out⟩
 case round =>
 clear HT5
 obtain ⟨v, j, l, hv, rfl, hj, hlen, hl, hst⟩ := hrel
 replace hv := hv.symm
 subst hv
 by_cases hlt : j < nw
 ·have hj1 : j < fws.length := by have := HSM.out.2.2.1; omega
  have hj2 : j < fgs.length := by have := HSM.out.2.2.2; have := HSM.out.1; omega
  obtain ⟨s, hs⟩ : ∃ s, fws[j]? = some s := ⟨_, List.getElem?_eq_getElem hj1⟩
  obtain ⟨m, hm⟩ : ∃ m, fgs[j]? = some m := ⟨_, List.getElem?_eq_getElem hj2⟩
  have hz : P[j]? = some (s, m) := by rw [HSM.out.2.1, List.getElem?_zip_eq_some]; exact ⟨hs, hm⟩
  have ht : (P.take (j + 1)).flatMap Sm.wordTok = (P.take j).flatMap Sm.wordTok ++ [s, Sm.itoaB m] := by
   rw [List.take_add_one, hz]; simp [Sm.wordTok]
  have hl2 : l ++ [s, Sm.itoaB m] = L5 ++ (P.take (j + 1)).flatMap Sm.wordTok := by rw [ht, hl, List.append_assoc]
  obtain ⟨ba, oa, hAw, hbl, hca⟩ := HR.out.1 (by rw [List.length_map]; omega)
  obtain ⟨bg, og, hAg, hbg, hcg⟩ := HR.out.2.1 (by rw [List.length_map]; omega)
  have hfb := HR.out.2.2.1
  have ca : wr.cell? ⟨ba, oa + j, none⟩ = some (.string s) := (hst.2.2.2.cell (p := ⟨ba, oa + j, none⟩) (by show ba < fb; omega)).trans (hca j (sv s) (by rw [List.getElem?_map, hs]; rfl))
  have cg : wr.cell? ⟨bg, og + j, none⟩ = some (.int .i64 m) := (hst.2.2.2.cell (p := ⟨bg, og + j, none⟩) (by show bg < fb; omega)).trans (hcg j (iv m) (by rw [List.getElem?_map, hm]; rfl))
  have c7 := HF.out _ _ _ hst 7 _ rfl
  have hb := HR.out.2.2.2.2 m (List.mem_of_getElem? hm)
  have CI := Lib.hid (gItoa_any m wr hb.1 hb.2 (HD.out _ _ _ hst))
  have HK := Lib.hid (And.intro hl2 (And.intro hst hlen))
  have j2 : (j : Int) < nw := by omega
  have j3 : (j : Int) < ng := by have := HSM.out.1; omega
  rw [hAg] at c7
  subst hAw
  clear hs hm hz ht hl2 hl hca hcg hb hst hlen hfb hbl hbg hAg hj1 hj2
  go_wp2_with fail
  refine CI.out.mono ?_
  rintro e w7 ⟨rfl, hb7⟩
  have hnx := (HK.out.2.1.new hb7).new (alloc_belowS w7 (.cells #[.string s, .string (Sm.itoaB m)] 9))
  have HX := Lib.hid (And.intro hnx (cell_two_new w7 (.string s) (.string (Sm.itoaB m)) 9))
  clear hnx hb7 CI cg ca c7
  go_wp2_with (at_builtin; refine wpList_append_own_at _ rfl (.tmp 72) (.tmp 80) 45 rfl (fb + 2) 9 i0 (.string ByteArray.empty) 1 16 Tryz.underlying45 HI.out.1 HI.out.2.1 HI.out.2.2.1 HI.out.2.2.2 rfl (by decide) v l.length (l.map sv) rfl HX.out.1.1 ⟨w7.heap.size, 0, none⟩ 2 2 [.string s, .string (Sm.itoaB m)] rfl rfl HX.out.2 (by intro u hu; simp at hu; rcases hu with rfl | rfl <;> rfl) (by have := HK.out.2.2; unfold maxLen; omega) (by have := HK.out.2.2; omega) HX.out.1.big ?_; intro v' w9 hown' hgrow _ hat; have HA := Lib.hid (And.intro hown' (And.intro hgrow hat)); clear hown' hgrow hat)
  go_roundw
  case rel => exact ⟨_, j + 1, l ++ [s, Sm.itoaB m], rfl, by go_num, by omega, by rw [List.length_append]; have := HK.out.2.2; simp only [List.length_cons, List.length_nil]; omega, HK.out.1, HX.out.1.app 2 rfl HA.out.1 HA.out.2.1⟩
  case measure => simp [intOf]; omega
 obtain rfl : j = nw := by omega
 have hL : l = R := by
  rw [hl, Q6.out, List.take_of_length_le]
  rw [HSM.out.2.1, List.length_zip]
  have := HSM.out.2.2.1
  omega
 rw [hL] at hst
 have HT6 := Lib.hid hst
 clear hL hst hlen hl hlt hj
 go_wp2_with fail
 go_ret
 obtain ⟨A, c, rfl, h1, h2, h3⟩ := own_rd (B := 0) HT6.out.1
 exact ⟨A, c, rfl, h1, h2, h3, HFB.out.1 ▸ HT6.out.2.2.2⟩
end Go.Proofs.YtkgddcemocfgfaaGreatDoor
end

section
/- The program's source: sizes of what it writes; its memory. -/




namespace Go.Proofs.YtkgddcemocfgfaaGreatDoor
open Go.RowKit
set_option linter.unusedVariables false
set_option linter.unusedSimpArgs false
set_option maxRecDepth 100000

theorem sb_cat (a b : ByteArray) : sb (a ++ b) = sb a ++ sb b := by simp [sb]
namespace Sm
theorem foldG_le (c : Nat) (l : List ByteArray) (h : ∀ s ∈ l, s.size ≤ c) (o : ByteArray) : (l.foldl glue o).size ≤ o.size + (c + 1) * l.length := by
 refine fold_le glue (c + 1) l (fun o a ha => ?_) o
 unfold glue
 rw [ByteArray.size_append, ByteArray.size_append, show (ByteArray.mk #[32]).size = 1 from rfl]
 have := h a ha
 omega
theorem join_le (c : Nat) (l : List ByteArray) (h : ∀ s ∈ l, s.size ≤ c) : (joinS l).size ≤ (c + 1) * l.length := by
 cases l with
 | nil => exact Nat.zero_le _
 | cons a t =>
  have h1 := h a (by simp)
  have h2 := foldG_le c t (fun s hs => h s (by simp [hs])) a
  show (t.foldl glue a).size ≤ _
  rw [List.length_cons, Nat.mul_succ]
  omega
theorem itoa_le {n : Int} (h : num n) : (itoaB n).size ≤ 23 := by
 unfold itoaB
 rw [size_bs]
 have := smDec_len n (by have := h.1; omega) (by have := h.2; omega)
 omega
theorem put_le (o : ByteArray) (l : List ByteArray) (c n : Nat) (h : ∀ s ∈ l, s.size ≤ c) (hn : l.length ≤ n) : (putLine o l).size ≤ o.size + ((c + 1) * n + 1) := by
 unfold putLine
 rw [ByteArray.size_append, ByteArray.size_append, show (ByteArray.mk #[10]).size = 1 from rfl]
 have h1 := join_le c l h
 have h2 := Nat.mul_le_mul_left (c + 1) hn
 omega
theorem word_le (k : Int) (h0 : 0 ≤ k) (h1 : k < 9) : (shpOf k).word.size ≤ 5 := by
 have hk : k = 0 ∨ k = 1 ∨ k = 2 ∨ k = 3 ∨ k = 4 ∨ k = 5 ∨ k = 6 ∨ k = 7 ∨ k = 8 := by omega
 rcases hk with e | e | e | e | e | e | e | e | e <;> (rw [e]; decide)
theorem tokF_le {f : Fd} (h : Small f) : (∀ s ∈ fieldTok f, s.size ≤ 100) ∧ (fieldTok f).length ≤ 207 := by
 have g1 : (∀ s ∈ tokF1 f, s.size ≤ 100) ∧ (tokF1 f).length ≤ 2 := by
  refine ⟨fun s hs => ?_, Nat.le_refl _⟩
  simp only [tokF1, List.mem_cons, List.not_mem_nil, or_false] at hs
  rcases hs with rfl | rfl
  ·have := word_le f.kind h.kind0 h.kind1; omega
  ·exact h.name
 have add : ∀ (l m : List ByteArray) (n k : Nat), (∀ s ∈ l, s.size ≤ 100) ∧ l.length ≤ n → (∀ s ∈ m, s.size ≤ 100) ∧ m.length ≤ k → (∀ s ∈ l ++ m, s.size ≤ 100) ∧ (l ++ m).length ≤ n + k := fun l m n k a b =>
  ⟨fun s hs => (List.mem_append.1 hs).elim (a.1 s) (b.1 s), by rw [List.length_append]; have := a.2; have := b.2; omega⟩
 have more : ∀ (l : List ByteArray) (n k : Nat), (∀ s ∈ l, s.size ≤ 100) ∧ l.length ≤ n → n ≤ k → (∀ s ∈ l, s.size ≤ 100) ∧ l.length ≤ k := fun l n k a b => ⟨a.1, Nat.le_trans a.2 b⟩
 have one : ∀ t : ByteArray, t.size ≤ 100 → (∀ s ∈ [t], s.size ≤ 100) ∧ [t].length ≤ 1 := fun t ht => ⟨fun s hs => by rw [List.mem_singleton.1 hs]; exact ht, Nat.le_refl _⟩
 have nlo : num f.lo := ⟨h.lo0, h.lo1⟩
 have nhi : num f.hi := ⟨h.hi0, h.hi1⟩
 have g2 : (∀ s ∈ tokF2 f, s.size ≤ 100) ∧ (tokF2 f).length ≤ 3 := by
  unfold tokF2
  split
  ·exact add _ _ 2 1 g1 (one _ (tok_le h.up (by decide)))
  ·exact more _ 2 3 g1 (by omega)
 have g3 : (∀ s ∈ tokF3 f, s.size ≤ 100) ∧ (tokF3 f).length ≤ 4 := by
  unfold tokF3
  split
  ·exact add _ _ 3 1 g2 (one _ (tok_le h.of (by decide)))
  ·exact more _ 3 4 g2 (by omega)
 have g4 : (∀ s ∈ tokF4 f, s.size ≤ 100) ∧ (tokF4 f).length ≤ 6 := by
  unfold tokF4
  refine add _ _ 4 2 g3 ⟨fun s hs => ?_, by rw [List.length_map, List.length_take]; exact Nat.min_le_right _ _⟩
  obtain ⟨n, hn, rfl⟩ := List.mem_map.1 hs
  have := List.mem_of_mem_take hn
  simp only [List.mem_cons, List.not_mem_nil, or_false] at this
  rcases this with rfl | rfl
  ·have := itoa_le nlo; omega
  ·have := itoa_le nhi; omega
 have g5 : (∀ s ∈ tokF5 f, s.size ≤ 100) ∧ (tokF5 f).length ≤ 7 := by
  unfold tokF5
  split
  ·exact add _ _ 6 1 g4 (one _ (by have := itoa_le (n := (f.words.length : Int)) (by have := h.few; unfold num; omega); omega))
  ·exact more _ 6 7 g4 (by omega)
 unfold fieldTok
 refine add _ _ 7 200 g5 ⟨fun s hs => ?_, ?_⟩
 ·obtain ⟨p, hp, hs⟩ := List.mem_flatMap.1 hs
  simp only [wordTok, List.mem_cons, List.not_mem_nil, or_false] at hs
  unfold pairs at hp
  rcases hs with rfl | rfl
  ·exact h.words _ (List.of_mem_zip hp).1
  ·have := itoa_le (h.weights _ (List.of_mem_zip hp).2); omega
 ·have : ∀ l : List (ByteArray × Int), (l.flatMap wordTok).length = 2 * l.length := by
   intro l
   induction l with
   | nil => rfl
   | cons a t ih => rw [List.flatMap_cons, List.length_append, ih, List.length_cons]; simp only [wordTok, List.length_cons, List.length_nil]; omega
  rw [this]
  unfold pairs
  rw [List.length_zip]
  have := h.few
  omega
theorem putField_le {o : ByteArray} {f : Fd} (h : Small f) : (putField o f).size ≤ o.size + 21000 := by
 have := put_le o (fieldTok f) 100 207 (tokF_le h).1 (tokF_le h).2
 unfold putField
 omega
def kindLine (k : Kd) : List ByteArray := [⟨#[107, 105, 110, 100]⟩, k.name, itoaB k.lo, itoaB k.hi]
def lifeLine (x : Lf) : List ByteArray := [⟨#[108, 105, 102, 101]⟩, x.name, itoaB x.states.length, joinS x.states]
def moveLine (m : Int × Int) : List ByteArray := [⟨#[109, 111, 118, 101]⟩, itoaB m.1, itoaB m.2]
def ruleLine (r : Ru) : List ByteArray := [⟨#[114, 117, 108, 101]⟩, r.name, r.kind, tok r.a, tok r.b, itoaB r.n]
theorem kindLine_le {k : Kd} (h : SmallK k) : ∀ s ∈ kindLine k, s.size ≤ 100 := fun s hs => by
 simp only [kindLine, List.mem_cons, List.not_mem_nil, or_false] at hs
 have h1 := itoa_le h.lo
 have h2 := itoa_le h.hi
 have h3 := h.name
 rcases hs with rfl | rfl | rfl | rfl <;> first | omega | decide
theorem lifeLine_le {x : Lf} (h : SmallL x) : ∀ s ∈ lifeLine x, s.size ≤ 2100 := fun s hs => by
 simp only [lifeLine, List.mem_cons, List.not_mem_nil, or_false] at hs
 have h1 := itoa_le (n := (x.states.length : Int)) (by have := h.few; unfold num; omega)
 have h2 := join_le 100 x.states h.states
 have h3 := h.name
 have h4 := h.few
 rcases hs with rfl | rfl | rfl | rfl <;> first | omega | decide
theorem moveLine_le {m : Int × Int} (h : num m.1 ∧ num m.2) : ∀ s ∈ moveLine m, s.size ≤ 100 := fun s hs => by
 simp only [moveLine, List.mem_cons, List.not_mem_nil, or_false] at hs
 have h1 := itoa_le h.1
 have h2 := itoa_le h.2
 rcases hs with rfl | rfl | rfl <;> first | omega | decide
theorem ruleLine_le {r : Ru} (h : SmallR r) : ∀ s ∈ ruleLine r, s.size ≤ 100 := fun s hs => by
 simp only [ruleLine, List.mem_cons, List.not_mem_nil, or_false] at hs
 have h1 := itoa_le h.n
 have h2 := h.name
 have h3 := h.kind
 have h4 := tok_le h.a (by decide)
 have h5 := tok_le h.b (by decide)
 rcases hs with rfl | rfl | rfl | rfl | rfl | rfl <;> first | omega | decide
theorem putKind_le {o : ByteArray} {k : Kd} (h : SmallK k) : (putKind o k).size ≤ o.size + 210500 := by
 have h1 := put_le o (kindLine k) 100 4 (kindLine_le h) (Nat.le_refl _)
 have h2 := fold_le putField 21000 k.fields (fun o f hf => putField_le (h.fields f hf)) (putLine o (kindLine k))
 have h3 := Nat.mul_le_mul_left 21000 h.few
 show (k.fields.foldl putField (putLine o (kindLine k))).size ≤ _
 omega
theorem putMove_le {o : ByteArray} {m : Int × Int} (h : num m.1 ∧ num m.2) : (putMove o m).size ≤ o.size + 400 := by
 have h1 := put_le o (moveLine m) 100 3 (moveLine_le h) (Nat.le_refl _)
 show (putLine o (moveLine m)).size ≤ _
 omega
theorem putLife_le {o : ByteArray} {x : Lf} (h : SmallL x) : (putLife o x).size ≤ o.size + 24500 := by
 have h1 := put_le o (lifeLine x) 2100 4 (lifeLine_le h) (Nat.le_refl _)
 have h2 := fold_le putMove 400 x.moves (fun o f hf => putMove_le (h.moves f hf)) (putLine o (lifeLine x))
 have h3 := Nat.mul_le_mul_left 400 h.fewm
 show (x.moves.foldl putMove (putLine o (lifeLine x))).size ≤ _
 omega
theorem putRule_le {o : ByteArray} {r : Ru} (h : SmallR r) : (putRule o r).size ≤ o.size + 700 := by
 have h1 := put_le o (ruleLine r) 100 6 (ruleLine_le h) (Nat.le_refl _)
 show (putLine o (ruleLine r)).size ≤ _
 omega
end Sm

theorem Blk.others {w w' : World} {k b : Nat} {vs : List Value} {t e : TypeId} (h : Blk w k vs t) (ho : Lib.OthersKept e (some b) w w') (hk : k ≠ b) (ht : t ≠ e) : Blk w' k vs t :=
 ho k _ h (fun x => hk (Option.some.inj x)) fun c fz x => by injection x with _ x2 _; exact ht x2
/-- source's memory: the schema's box, the builder's variable, what is written. -/
def SoSt (W : World) (xb : Nat) (xc : List Value) (o : ByteArray) (w : World) : Prop :=
 Blk w xb xc 27 ∧ Blk w (xb + 2) [.pointer (some ⟨xb + 1, 0, none⟩)] 137 ∧ Lib.IsBuilderF 139 5 xb (xb + 1) (Lib.byteCells (sb o)) w ∧ Below xb W w
section
variable {W w w' : World} {xb : Nat} {xc : List Value} {o : ByteArray}
theorem SoSt.new (h : SoSt W xb xc o w) (hb : Below w.heap.size w w') : SoSt W xb xc o w' :=
 ⟨h.1.below hb h.1.lt, h.2.1.below hb h.2.1.lt, bld_new h.2.2.1 hb, h.2.2.2.trans (hb.mono (Nat.le_of_lt h.1.lt))⟩
theorem soPut_any (h : SoSt W xb xc o w) (bk of c : Nat) (xs : List ByteArray) (hcells : ∀ (j : Nat) x, xs[j]? = some x → w.cell? ⟨bk, of + j, none⟩ = some (.string x)) (hbk : bk < w.heap.size) (hN : xs.length ≤ 10000) (hcap : xs.length ≤ c) (hlen : ∀ s ∈ xs, s.size ≤ 2100) (hn : xs.length ≤ 300) (ho : o.size ≤ 100000000) :
  Calls Tryz.prog 89 #[.slice (some ⟨bk, of, none⟩) xs.length c, .pointer (some ⟨xb + 2, 0, none⟩)] w fun e w' => (∃ v, e = .returned v) ∧ SoSt W xb xc (Sm.putLine o xs) w' ∧ Lib.OthersKept 5 (some (xb + 1)) w w' ∧ w.heap.size ≤ w'.heap.size := by
 have hj := Sm.join_le 2100 xs hlen
 have hj2 := Nat.mul_le_mul_left 2101 hn
 refine (gPut_any bk of c (xb + 2) (xb + 1) xb xs (sb o) w hcells hbk hN hcap (by omega) (by rw [sb_len]; exact ho) (h.2.1.cell 0 _ rfl) h.2.2.1 (Nat.le_of_lt h.1.lt)).mono ?_
 rintro e w' ⟨h1, h2, h3, h4⟩
 refine ⟨h1, ⟨h.1.others h4 (by omega) (by decide), h.2.1.others h4 (by omega) (by decide), ?_, h.2.2.2.trans h3⟩, h4, h3.size⟩
 unfold Sm.putLine
 rw [sb_cat o]
 exact h2
theorem new_strs (w : World) (xs : List ByteArray) (t : TypeId) (j : Nat) (x : ByteArray) (hx : xs[j]? = some x) : (w.alloc (.cells (xs.map sv).toArray t)).cell? ⟨w.heap.size, 0 + j, none⟩ = some (.string x) := by
 rw [Nat.zero_add]
 exact (Blk.new w (xs.map sv) t).cell j (sv x) (by rw [List.getElem?_map, hx]; rfl)
/-- A line of tokens that were just built. -/
theorem soLine_any (xs : List ByteArray) (h : SoSt W xb xc o w) (hlen : ∀ s ∈ xs, s.size ≤ 2100) (hn : xs.length ≤ 300) (ho : o.size ≤ 100000000) :
  Calls Tryz.prog 89 #[.slice (some ⟨w.heap.size, 0, none⟩) xs.length xs.length, .pointer (some ⟨xb + 2, 0, none⟩)] (w.alloc (.cells (xs.map sv).toArray 9)) fun e w' => (∃ v, e = .returned v) ∧ SoSt W xb xc (Sm.putLine o xs) w' ∧ Lib.OthersKept 5 (some (xb + 1)) (w.alloc (.cells (xs.map sv).toArray 9)) w' ∧ w.heap.size ≤ w'.heap.size :=
 (soPut_any (h.new (alloc_belowS w _)) w.heap.size 0 xs.length xs (fun j x hx => new_strs w xs _ j x hx) (by rw [World.size_alloc]; omega) (by omega) (Nat.le_refl _) hlen hn ho).mono fun e w' ⟨h1, h2, h3, h4⟩ => ⟨h1, h2, h3, by rw [World.size_alloc] at h4; omega⟩
end
/-- A new row of strings. -/
def Fact.strsF (xs : List ByteArray) (n : Nat) : Fact := ⟨fun v w => ∃ g, v = .slice (some ⟨g, 0, none⟩) n n ∧ Blk w g (xs.map sv) 9, fun _ _ _ ⟨g, h1, h2⟩ hb => ⟨g, h1, h2.below hb h2.lt⟩⟩
theorem gJoinAll_any (A : Option Addr) (c : Nat) (xs : List ByteArray) (w : World) (hr : Rd w w.heap.size A (xs.map sv)) (hN : xs.length ≤ 10000) (hcap : xs.length ≤ c) (hlen : (Sm.joinS xs).size ≤ 1000000) :
  Calls Tryz.prog 91 #[.slice A xs.length c, .string ⟨#[32]⟩] w fun e w' => e = .returned (.string (Sm.joinS xs)) ∧ Below w.heap.size w w' := by
 cases xs with
 | nil => exact (Tryz.strings_Join_none A c ⟨#[32]⟩ w).mono fun e w' ⟨h1, h2⟩ => ⟨h1, by rw [h2]; exact Below.refl _ _⟩
 | cons a t =>
  obtain ⟨b, o, rfl, hb, hc⟩ := hr (by simp)
  exact gJoin_any b o c (a :: t) w (fun j x hx => hc j (sv x) (by rw [List.getElem?_map, hx]; rfl)) hb (by omega) hcap (by omega)
theorem gWrittenB_any (s : ByteArray) (w : World) : Calls Tryz.prog 94 #[.string s] w fun e w' => e = .returned (.string (Sm.tok s)) ∧ Below w.heap.size w w' := (gWritten_any s w).mono fun e w' ⟨h1, h2⟩ => ⟨h1, by rw [h2]; exact Below.refl _ _⟩
end Go.Proofs.YtkgddcemocfgfaaGreatDoor
end

