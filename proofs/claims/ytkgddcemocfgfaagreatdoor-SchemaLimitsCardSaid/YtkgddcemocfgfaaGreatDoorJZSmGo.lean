import Derived.Test.YtkgddcemocfgfaaGreatDoorJZSmGc
import Derived.Test.YtkgddcemocfgfaaGreatDoorJZSmSb

section
/- The program: lists whose elements are valid. (gen_gvl.py writes this text.) -/


namespace Go.Proofs.YtkgddcemocfgfaaGreatDoor
open Go.RowKit
set_option linter.unusedVariables false
set_option linter.unusedSimpArgs false
set_option maxRecDepth 100000

/-- A list, element by element. -/
def RowAt {α : Type} (C : World → Nat → α → List Value → Prop) (sz : Nat) (w : World) (A : Option Addr) (l : List α) : Prop :=
 ∀ (j : Nat) (a : α), l[j]? = some a → ∃ (b off : Nat) (c : List Value), A = some ⟨b, off, none⟩ ∧ b < w.heap.size ∧ C w w.heap.size a c ∧ ∀ (i : Nat) (u : Value), c[i]? = some u → w.cell? ⟨b, off + j * sz + i, none⟩ = some u
/-- Cells that stay, if memory only grows. -/
def Stays {α : Type} (C : World → Nat → α → List Value → Prop) : Prop := ∀ (w w' : World) (a : α) (c : List Value), C w w.heap.size a c → Below w.heap.size w w' → C w' w'.heap.size a c
theorem RowAt.below {α : Type} {C : World → Nat → α → List Value → Prop} {sz : Nat} {w w' : World} {A : Option Addr} {l : List α} (hC : Stays C) (h : RowAt C sz w A l) (hb : Below w.heap.size w w') : RowAt C sz w' A l := by
 intro j a hj
 obtain ⟨b, off, c, h1, h2, h3, h4⟩ := h j a hj
 exact ⟨b, off, c, h1, Nat.lt_of_lt_of_le h2 hb.size, hC _ _ _ _ h3 hb, fun i u hu => (hb.cell (p := ⟨b, off + j * sz + i, none⟩) h2).trans (h4 i u hu)⟩
def SvC (_ : World) (_ : Nat) (s : ByteArray) (c : List Value) : Prop := c = [.string s]
def IvC (_ : World) (_ : Nat) (n : Int) (c : List Value) : Prop := c = [.int .i64 n]
def MvC (_ : World) (_ : Nat) (m : Int × Int) (c : List Value) : Prop := c = [.int .i64 m.1, .int .i64 m.2]
theorem SvC.stays : Stays SvC := fun _ _ _ _ h _ => h
theorem IvC.stays : Stays IvC := fun _ _ _ _ h _ => h
theorem MvC.stays : Stays MvC := fun _ _ _ _ h _ => h
theorem RuC.stays : Stays RuC := fun _ _ _ _ h _ => h
theorem KdC.stays : Stays KdC := fun _ _ _ _ h hb => (KdC.keep h (Keep.of hb)).more hb.size
theorem LfC.stays : Stays LfC := fun _ _ _ _ h hb => (LfC.keep h (Keep.of hb)).more hb.size
theorem FdC.stays : Stays FdC := fun _ _ _ _ h hb => (FdC.keep h (Keep.of hb)).more hb.size
theorem any_take_succ {α : Type} (p : α → Bool) (l : List α) (k : Nat) (x : α) (hx : l[k]? = some x) : (l.take (k + 1)).any p = ((l.take k).any p || p x) := by
 rw [List.take_add_one, hx]
 simp
theorem any_true {α : Type} (p : α → Bool) (l : List α) (k : Nat) (x : α) (hx : l[k]? = some x) (hp : p x = true) : l.any p = true := by
 rw [List.any_eq_true]
 exact ⟨x, List.mem_of_getElem? hx, hp⟩

set_option maxHeartbeats 4000000 in
theorem gIdxKd_any (H : FuncId) (cv : Value) (Pf : Sm.Kd → Bool) (A : Option Addr) (cap : Nat) (l : List Sm.Kd) (w : World) (hr : RowAt KdC 4 w A l) (hl : l.length ≤ 1000000000) (hcf : ∀ (args : Array Value) (V : World), (callFunc H args).run Tryz.prog V = .ok (.enter H args) V)
  (hF : ∀ a ∈ l, ∀ (c : List Value) (V : World), Below w.heap.size w V → KdC V V.heap.size a c → Calls Tryz.prog H #[(.agg c.toArray), cv] V fun e w' => e = .returned (.bool (Pf a)) ∧ Below V.heap.size V w') :
  Calls Tryz.prog 165 #[.slice A l.length cap, .func (.func H) #[] #[cv]] w fun e w' => ∃ r : Int, e = .returned (.int .i64 r) ∧ decide (0 ≤ r) = l.any Pf ∧ Below w.heap.size w w' := by
 obtain ⟨N, hN⟩ : ∃ N, N = l.length := ⟨_, rfl⟩
 rw [← hN] at hl ⊢
 have HR := Lib.hid hr
 have HF := Lib.hid hF
 have HCF := Lib.hid hcf
 have HN := Lib.hid hN
 clear hr hF hcf hN
 go_enter Tryz.func165, Tryz.ntmps165
 go_wp2_with fail
 go_loopw [8] (fun i wr => ∃ j : Nat, j ≤ N ∧ i = .int .i64 j ∧ (l.take j).any Pf = false ∧ Below w.heap.size w wr) (fun i _ => N - (intOf i).toNat)
 case atStart => exact ⟨0, Nat.zero_le _, rfl, rfl, Below.refl _ _⟩
 case round =>
  obtain ⟨j, hj, rfl, ha, hb⟩ := hrel
  obtain ⟨wo, rfl⟩ : ∃ wo : World, wo = wr := ⟨_, rfl⟩
  have HA := Lib.hid (And.intro ha hb)
  clear ha hb
  by_cases hlt : j < N
  ·have hlt2 : j < l.length := by rw [← HN.out]; exact hlt
   obtain ⟨el, hg⟩ : ∃ a, l[j]? = some a := ⟨_, List.getElem?_eq_getElem hlt2⟩
   have hs := any_take_succ Pf l j _ hg
   have ht := any_true Pf l j _ hg
   obtain ⟨b, off, c, rfl, hbl, hcc, HCN⟩ := (HR.out.below KdC.stays HA.out.2) j el hg
   have CFN := HF.out el (List.mem_of_getElem? hg) c wo HA.out.2 hcc
   obtain ⟨q, hq⟩ : ∃ q, q = Pf el := ⟨_, rfl⟩
   rw [← hq] at CFN hs ht
   have HQ := Lib.hid (And.intro hs ht)
   clear hs ht hg hlt2 hq hbl
   obtain ⟨Aw, cw, rfl, -⟩ := hcc
   obtain ⟨en, elo, ehi, efs⟩ := el
   dsimp only at HCN CFN ⊢
   obtain ⟨nw, hnw⟩ : ∃ n, n = efs.length := ⟨_, rfl⟩
   rw [← hnw] at HCN CFN
   have HNW := Lib.hid hnw
   clear hnw
   have d0 : wo.cell? ⟨b, off + j * 4, none⟩ = some _ := HCN 0 _ rfl
   have d1 := HCN 1 _ rfl
   have d2 := HCN 2 _ rfl
   have d3 := HCN 3 _ rfl
   have CF := Lib.hid CFN
   have hc0 := HCF.out #[.agg #[.string en, .int .i64 elo, .int .i64 ehi, .slice Aw nw cw], cv] wo
   have j1 : (j : Int) < N := by omega
   clear HCN CFN
   go_wp2_with fail
   refine CF.out.mono ?_
   rintro e w2 ⟨rfl, hb2⟩
   have HB := Lib.hid (HA.out.2.trans (hb2.mono HA.out.2.size))
   clear hb2 CF hc0 d0 d1 d2 d3
   cases q with
   | true =>
    go_wp2_with fail
    go_ret
    exact ⟨_, rfl, by rw [HQ.out.2 (by first | rfl | trivial)]; exact decide_eq_true (by omega), HB.out⟩
   | false =>
    go_wp2_with fail
    go_roundw
    case rel => exact ⟨j + 1, by omega, by go_num, by rw [HQ.out.1, HA.out.1]; rfl, HB.out⟩
    case measure => simp [intOf]; omega
  ·obtain rfl : j = N := by omega
   have hli : ¬ (j : Int) < j := by omega
   have hall : l.any Pf = false := by have := HA.out.1; rwa [HN.out, List.take_length] at this
   have HH := Lib.hid hall
   clear hall
   go_wp2_with fail
   go_ret
   exact ⟨_, rfl, by rw [HH.out]; rfl, HA.out.2⟩
set_option maxHeartbeats 2000000 in
theorem gConKd_any (H : FuncId) (cv : Value) (Pf : Sm.Kd → Bool) (A : Option Addr) (cap : Nat) (l : List Sm.Kd) (w : World) (hr : RowAt KdC 4 w A l) (hl : l.length ≤ 1000000000) (hcf : ∀ (args : Array Value) (V : World), (callFunc H args).run Tryz.prog V = .ok (.enter H args) V)
  (hF : ∀ a ∈ l, ∀ (c : List Value) (V : World), Below w.heap.size w V → KdC V V.heap.size a c → Calls Tryz.prog H #[(.agg c.toArray), cv] V fun e w' => e = .returned (.bool (Pf a)) ∧ Below V.heap.size V w') :
  Calls Tryz.prog 133 #[.slice A l.length cap, .func (.func H) #[] #[cv]] w fun e w' => e = .returned (.bool (l.any Pf)) ∧ Below w.heap.size w w' := by
 have C := Lib.hid (gIdxKd_any H cv Pf A cap l w hr hl hcf hF)
 obtain ⟨N, hN⟩ : ∃ N, N = l.length := ⟨_, rfl⟩
 obtain ⟨z, hz⟩ : ∃ z, z = l.any Pf := ⟨_, rfl⟩
 rw [← hN, ← hz] at C
 rw [← hN, ← hz]
 clear hr hl hcf hF hN hz
 go_enter Tryz.func133, Tryz.ntmps133
 go_wp2_with fail
 refine C.out.mono ?_
 rintro e w' ⟨r, rfl, hi, hw'⟩
 have HI := Lib.hid (And.intro hi hw')
 clear hi C hw'
 go_wp2_with fail
 go_ret
 exact ⟨by rw [← HI.out.1]; rfl, HI.out.2⟩
set_option maxHeartbeats 4000000 in
theorem gInvKd_any (G : FuncId)  (Pf : Sm.Kd → Bool) (a : Sm.Kd) (c : List Value) (bx : Nat) (V : World) (hcf : ∀ (args : Array Value) (V : World), (callFunc G args).run Tryz.prog V = .ok (.enter G args) V) (hc : KdC V V.heap.size a c)
  (hbx : V.cell? ⟨bx, 0, none⟩ = some (.func (.func G) #[] #[])) (hG : ∀ V', Below V.heap.size V V' → Calls Tryz.prog G #[(.agg c.toArray)] V' fun e w' => e = .returned (.bool (Pf a)) ∧ Below V'.heap.size V' w') :
  Calls Tryz.prog 132 #[(.agg c.toArray), .pointer (some ⟨bx, 0, none⟩)] V fun e w' => e = .returned (.bool (!Pf a)) ∧ Below V.heap.size V w' := by
 obtain ⟨q, hq⟩ : ∃ q, q = Pf a := ⟨_, rfl⟩
 rw [← hq] at hG ⊢
 obtain ⟨el, hel⟩ : ∃ x, x = a := ⟨_, rfl⟩
 rw [← hel] at hc
 have CFN := hG
 have hcc := hc
 have hlt : bx < V.heap.size := block_lt_of_cell hbx
 clear hG hc hq hel
 obtain ⟨Aw, cw, rfl, -⟩ := hcc
 obtain ⟨en, elo, ehi, efs⟩ := el
 dsimp only at CFN ⊢
 obtain ⟨nw, hnw⟩ : ∃ n, n = efs.length := ⟨_, rfl⟩
 rw [← hnw] at CFN ⊢
 have HNW := Lib.hid hnw
 clear hnw
 have CF := Lib.hid CFN
 have hc0 := fun V => hcf #[.agg #[.string en, .int .i64 elo, .int .i64 ehi, .slice Aw nw cw]] V
 clear CFN hcf
 go_enter Tryz.func132, Tryz.ntmps132
 go_wp2_with fail
 refine (CF.out _ ((Below.refl _ _).alloc (Nat.le_refl _) _)).mono ?_
 rintro e w2 ⟨rfl, hb⟩
 have HB := Lib.hid (((Below.refl V.heap.size V).alloc (Nat.le_refl _) _).trans (hb.mono (by simp)))
 clear hb CF hc0
 cases q with
 | true =>
  go_wp2_with fail
  go_ret
  exact ⟨rfl, HB.out⟩
 | false =>
  go_wp2_with fail
  go_ret
  exact ⟨rfl, HB.out⟩
set_option maxHeartbeats 4000000 in
theorem gVlKd_any (G : FuncId)  (Pf : Sm.Kd → Bool) (A : Option Addr) (cap : Nat) (l : List Sm.Kd) (most : Int) (w : World) (hr : RowAt KdC 4 w A l) (hl : l.length ≤ 1000000000) (hcf : ∀ (args : Array Value) (V : World), (callFunc G args).run Tryz.prog V = .ok (.enter G args) V)
  (hG : ∀ a ∈ l, ∀ (c : List Value) (V : World), Below w.heap.size w V → KdC V V.heap.size a c → Calls Tryz.prog G #[(.agg c.toArray)] V fun e w' => e = .returned (.bool (Pf a)) ∧ Below V.heap.size V w') :
  Calls Tryz.prog 83 #[.slice A l.length cap, .int .i64 most, .func (.func G) #[] #[]] w fun e w' => e = .returned (.bool (decide ((l.length : Int) ≤ most) && l.all Pf)) ∧ Below w.heap.size w w' := by
 have hw1 : Below w.heap.size w (w.alloc (.cells #[.func (.func G) #[] #[]] 78)) := (Below.refl _ _).alloc (Nat.le_refl _) _
 have hbx0 : (w.alloc (.cells #[.func (.func G) #[] #[]] 78)).cell? ⟨w.heap.size, 0, none⟩ = some (.func (.func G) #[] #[]) := (Blk.new w [.func (.func G) #[] #[]] _).cell 0 _ rfl
 obtain ⟨w1, hw⟩ : ∃ x, x = w.alloc (.cells #[.func (.func G) #[] #[]] 78) := ⟨_, rfl⟩
 rw [← hw] at hw1 hbx0
 have hs1 : w1.heap.size = w.heap.size + 1 := by rw [hw, World.size_alloc]
 have cC := gConKd_any 132 (.pointer (some ⟨w.heap.size, 0, none⟩)) (fun a => !Pf a) A cap l w1 (hr.below KdC.stays hw1) hl (fun _ _ => rfl) (fun a ha c V hb hc => by
  refine gInvKd_any G Pf a c w.heap.size V hcf hc ((hb.cell (p := ⟨w.heap.size, 0, none⟩) (by show w.heap.size < w1.heap.size; omega)).trans hbx0) (fun V' hV' => ?_)
  have hbV : Below w.heap.size w V := hw1.trans (hb.mono (by omega))
  exact hG a ha c V' (hbV.trans (hV'.mono hbV.size)) (KdC.stays V V' a c hc hV'))
 have hany : l.any (fun a => !Pf a) = !l.all Pf := by rw [List.not_all_eq_any_not]
 rw [hany] at cC
 obtain ⟨N, hN⟩ : ∃ N, N = l.length := ⟨_, rfl⟩
 obtain ⟨z, hz⟩ : ∃ z, z = l.all Pf := ⟨_, rfl⟩
 rw [← hN, ← hz] at cC
 rw [← hN, ← hz]
 have C := Lib.hid cC
 rw [hw] at C
 have HW := Lib.hid hw1
 rw [hw] at HW
 clear hr hl hcf hG cC hN hz hany hw1 hbx0 hs1 hw
 by_cases hle : (N : Int) ≤ most
 ·have HLE := Lib.hid hle
  go_enter Tryz.func83, Tryz.ntmps83
  go_wp2_with fail
  refine C.out.mono ?_
  rintro e w2 ⟨rfl, hb⟩
  have HB := Lib.hid (HW.out.trans (hb.mono HW.out.size))
  clear hb C
  cases z with
  | true =>
   go_wp2_with fail
   go_ret
   exact ⟨by rw [decide_eq_true (by have := HLE.out; omega)]; rfl, HB.out⟩
  | false =>
   go_wp2_with fail
   go_ret
   exact ⟨by rw [Bool.and_false]; rfl, HB.out⟩
 ·have HLE := Lib.hid hle
  clear C
  go_enter Tryz.func83, Tryz.ntmps83
  go_wp2_with fail
  go_ret
  exact ⟨by rw [decide_eq_false (by have := HLE.out; omega)]; rfl, HW.out⟩

set_option maxHeartbeats 4000000 in
theorem gIdxLf_any (H : FuncId) (cv : Value) (Pf : Sm.Lf → Bool) (A : Option Addr) (cap : Nat) (l : List Sm.Lf) (w : World) (hr : RowAt LfC 3 w A l) (hl : l.length ≤ 1000000000) (hcf : ∀ (args : Array Value) (V : World), (callFunc H args).run Tryz.prog V = .ok (.enter H args) V)
  (hF : ∀ a ∈ l, ∀ (c : List Value) (V : World), Below w.heap.size w V → LfC V V.heap.size a c → Calls Tryz.prog H #[(.agg c.toArray), cv] V fun e w' => e = .returned (.bool (Pf a)) ∧ Below V.heap.size V w') :
  Calls Tryz.prog 172 #[.slice A l.length cap, .func (.func H) #[] #[cv]] w fun e w' => ∃ r : Int, e = .returned (.int .i64 r) ∧ decide (0 ≤ r) = l.any Pf ∧ Below w.heap.size w w' := by
 obtain ⟨N, hN⟩ : ∃ N, N = l.length := ⟨_, rfl⟩
 rw [← hN] at hl ⊢
 have HR := Lib.hid hr
 have HF := Lib.hid hF
 have HCF := Lib.hid hcf
 have HN := Lib.hid hN
 clear hr hF hcf hN
 go_enter Tryz.func172, Tryz.ntmps172
 go_wp2_with fail
 go_loopw [8] (fun i wr => ∃ j : Nat, j ≤ N ∧ i = .int .i64 j ∧ (l.take j).any Pf = false ∧ Below w.heap.size w wr) (fun i _ => N - (intOf i).toNat)
 case atStart => exact ⟨0, Nat.zero_le _, rfl, rfl, Below.refl _ _⟩
 case round =>
  obtain ⟨j, hj, rfl, ha, hb⟩ := hrel
  obtain ⟨wo, rfl⟩ : ∃ wo : World, wo = wr := ⟨_, rfl⟩
  have HA := Lib.hid (And.intro ha hb)
  clear ha hb
  by_cases hlt : j < N
  ·have hlt2 : j < l.length := by rw [← HN.out]; exact hlt
   obtain ⟨el, hg⟩ : ∃ a, l[j]? = some a := ⟨_, List.getElem?_eq_getElem hlt2⟩
   have hs := any_take_succ Pf l j _ hg
   have ht := any_true Pf l j _ hg
   obtain ⟨b, off, c, rfl, hbl, hcc, HCN⟩ := (HR.out.below LfC.stays HA.out.2) j el hg
   have CFN := HF.out el (List.mem_of_getElem? hg) c wo HA.out.2 hcc
   obtain ⟨q, hq⟩ : ∃ q, q = Pf el := ⟨_, rfl⟩
   rw [← hq] at CFN hs ht
   have HQ := Lib.hid (And.intro hs ht)
   clear hs ht hg hlt2 hq hbl
   obtain ⟨Aw, cw, Am, cm, rfl, -⟩ := hcc
   obtain ⟨en, est, emv⟩ := el
   dsimp only at HCN CFN ⊢
   obtain ⟨nw, hnw⟩ : ∃ n, n = est.length := ⟨_, rfl⟩
   obtain ⟨nm, hnm⟩ : ∃ n, n = emv.length := ⟨_, rfl⟩
   rw [← hnw, ← hnm] at HCN CFN
   have HNW := Lib.hid (And.intro hnw hnm)
   clear hnw hnm
   have d0 : wo.cell? ⟨b, off + j * 3, none⟩ = some _ := HCN 0 _ rfl
   have d1 := HCN 1 _ rfl
   have d2 := HCN 2 _ rfl
   have CF := Lib.hid CFN
   have hc0 := HCF.out #[.agg #[.string en, .slice Aw nw cw, .slice Am nm cm], cv] wo
   have j1 : (j : Int) < N := by omega
   clear HCN CFN
   go_wp2_with fail
   refine CF.out.mono ?_
   rintro e w2 ⟨rfl, hb2⟩
   have HB := Lib.hid (HA.out.2.trans (hb2.mono HA.out.2.size))
   clear hb2 CF hc0 d0 d1 d2
   cases q with
   | true =>
    go_wp2_with fail
    go_ret
    exact ⟨_, rfl, by rw [HQ.out.2 (by first | rfl | trivial)]; exact decide_eq_true (by omega), HB.out⟩
   | false =>
    go_wp2_with fail
    go_roundw
    case rel => exact ⟨j + 1, by omega, by go_num, by rw [HQ.out.1, HA.out.1]; rfl, HB.out⟩
    case measure => simp [intOf]; omega
  ·obtain rfl : j = N := by omega
   have hli : ¬ (j : Int) < j := by omega
   have hall : l.any Pf = false := by have := HA.out.1; rwa [HN.out, List.take_length] at this
   have HH := Lib.hid hall
   clear hall
   go_wp2_with fail
   go_ret
   exact ⟨_, rfl, by rw [HH.out]; rfl, HA.out.2⟩
set_option maxHeartbeats 2000000 in
theorem gConLf_any (H : FuncId) (cv : Value) (Pf : Sm.Lf → Bool) (A : Option Addr) (cap : Nat) (l : List Sm.Lf) (w : World) (hr : RowAt LfC 3 w A l) (hl : l.length ≤ 1000000000) (hcf : ∀ (args : Array Value) (V : World), (callFunc H args).run Tryz.prog V = .ok (.enter H args) V)
  (hF : ∀ a ∈ l, ∀ (c : List Value) (V : World), Below w.heap.size w V → LfC V V.heap.size a c → Calls Tryz.prog H #[(.agg c.toArray), cv] V fun e w' => e = .returned (.bool (Pf a)) ∧ Below V.heap.size V w') :
  Calls Tryz.prog 139 #[.slice A l.length cap, .func (.func H) #[] #[cv]] w fun e w' => e = .returned (.bool (l.any Pf)) ∧ Below w.heap.size w w' := by
 have C := Lib.hid (gIdxLf_any H cv Pf A cap l w hr hl hcf hF)
 obtain ⟨N, hN⟩ : ∃ N, N = l.length := ⟨_, rfl⟩
 obtain ⟨z, hz⟩ : ∃ z, z = l.any Pf := ⟨_, rfl⟩
 rw [← hN, ← hz] at C
 rw [← hN, ← hz]
 clear hr hl hcf hF hN hz
 go_enter Tryz.func139, Tryz.ntmps139
 go_wp2_with fail
 refine C.out.mono ?_
 rintro e w' ⟨r, rfl, hi, hw'⟩
 have HI := Lib.hid (And.intro hi hw')
 clear hi C hw'
 go_wp2_with fail
 go_ret
 exact ⟨by rw [← HI.out.1]; rfl, HI.out.2⟩
set_option maxHeartbeats 4000000 in
theorem gInvLf_any (G : FuncId)  (Pf : Sm.Lf → Bool) (a : Sm.Lf) (c : List Value) (bx : Nat) (V : World) (hcf : ∀ (args : Array Value) (V : World), (callFunc G args).run Tryz.prog V = .ok (.enter G args) V) (hc : LfC V V.heap.size a c)
  (hbx : V.cell? ⟨bx, 0, none⟩ = some (.func (.func G) #[] #[])) (hG : ∀ V', Below V.heap.size V V' → Calls Tryz.prog G #[(.agg c.toArray)] V' fun e w' => e = .returned (.bool (Pf a)) ∧ Below V'.heap.size V' w') :
  Calls Tryz.prog 138 #[(.agg c.toArray), .pointer (some ⟨bx, 0, none⟩)] V fun e w' => e = .returned (.bool (!Pf a)) ∧ Below V.heap.size V w' := by
 obtain ⟨q, hq⟩ : ∃ q, q = Pf a := ⟨_, rfl⟩
 rw [← hq] at hG ⊢
 obtain ⟨el, hel⟩ : ∃ x, x = a := ⟨_, rfl⟩
 rw [← hel] at hc
 have CFN := hG
 have hcc := hc
 have hlt : bx < V.heap.size := block_lt_of_cell hbx
 clear hG hc hq hel
 obtain ⟨Aw, cw, Am, cm, rfl, -⟩ := hcc
 obtain ⟨en, est, emv⟩ := el
 dsimp only at CFN ⊢
 obtain ⟨nw, hnw⟩ : ∃ n, n = est.length := ⟨_, rfl⟩
 obtain ⟨nm, hnm⟩ : ∃ n, n = emv.length := ⟨_, rfl⟩
 rw [← hnw, ← hnm] at CFN ⊢
 have HNW := Lib.hid (And.intro hnw hnm)
 clear hnw hnm
 have CF := Lib.hid CFN
 have hc0 := fun V => hcf #[.agg #[.string en, .slice Aw nw cw, .slice Am nm cm]] V
 clear CFN hcf
 go_enter Tryz.func138, Tryz.ntmps138
 go_wp2_with fail
 refine (CF.out _ ((Below.refl _ _).alloc (Nat.le_refl _) _)).mono ?_
 rintro e w2 ⟨rfl, hb⟩
 have HB := Lib.hid (((Below.refl V.heap.size V).alloc (Nat.le_refl _) _).trans (hb.mono (by simp)))
 clear hb CF hc0
 cases q with
 | true =>
  go_wp2_with fail
  go_ret
  exact ⟨rfl, HB.out⟩
 | false =>
  go_wp2_with fail
  go_ret
  exact ⟨rfl, HB.out⟩
set_option maxHeartbeats 4000000 in
theorem gVlLf_any (G : FuncId)  (Pf : Sm.Lf → Bool) (A : Option Addr) (cap : Nat) (l : List Sm.Lf) (most : Int) (w : World) (hr : RowAt LfC 3 w A l) (hl : l.length ≤ 1000000000) (hcf : ∀ (args : Array Value) (V : World), (callFunc G args).run Tryz.prog V = .ok (.enter G args) V)
  (hG : ∀ a ∈ l, ∀ (c : List Value) (V : World), Below w.heap.size w V → LfC V V.heap.size a c → Calls Tryz.prog G #[(.agg c.toArray)] V fun e w' => e = .returned (.bool (Pf a)) ∧ Below V.heap.size V w') :
  Calls Tryz.prog 85 #[.slice A l.length cap, .int .i64 most, .func (.func G) #[] #[]] w fun e w' => e = .returned (.bool (decide ((l.length : Int) ≤ most) && l.all Pf)) ∧ Below w.heap.size w w' := by
 have hw1 : Below w.heap.size w (w.alloc (.cells #[.func (.func G) #[] #[]] 79)) := (Below.refl _ _).alloc (Nat.le_refl _) _
 have hbx0 : (w.alloc (.cells #[.func (.func G) #[] #[]] 79)).cell? ⟨w.heap.size, 0, none⟩ = some (.func (.func G) #[] #[]) := (Blk.new w [.func (.func G) #[] #[]] _).cell 0 _ rfl
 obtain ⟨w1, hw⟩ : ∃ x, x = w.alloc (.cells #[.func (.func G) #[] #[]] 79) := ⟨_, rfl⟩
 rw [← hw] at hw1 hbx0
 have hs1 : w1.heap.size = w.heap.size + 1 := by rw [hw, World.size_alloc]
 have cC := gConLf_any 138 (.pointer (some ⟨w.heap.size, 0, none⟩)) (fun a => !Pf a) A cap l w1 (hr.below LfC.stays hw1) hl (fun _ _ => rfl) (fun a ha c V hb hc => by
  refine gInvLf_any G Pf a c w.heap.size V hcf hc ((hb.cell (p := ⟨w.heap.size, 0, none⟩) (by show w.heap.size < w1.heap.size; omega)).trans hbx0) (fun V' hV' => ?_)
  have hbV : Below w.heap.size w V := hw1.trans (hb.mono (by omega))
  exact hG a ha c V' (hbV.trans (hV'.mono hbV.size)) (LfC.stays V V' a c hc hV'))
 have hany : l.any (fun a => !Pf a) = !l.all Pf := by rw [List.not_all_eq_any_not]
 rw [hany] at cC
 obtain ⟨N, hN⟩ : ∃ N, N = l.length := ⟨_, rfl⟩
 obtain ⟨z, hz⟩ : ∃ z, z = l.all Pf := ⟨_, rfl⟩
 rw [← hN, ← hz] at cC
 rw [← hN, ← hz]
 have C := Lib.hid cC
 rw [hw] at C
 have HW := Lib.hid hw1
 rw [hw] at HW
 clear hr hl hcf hG cC hN hz hany hw1 hbx0 hs1 hw
 by_cases hle : (N : Int) ≤ most
 ·have HLE := Lib.hid hle
  go_enter Tryz.func85, Tryz.ntmps85
  go_wp2_with fail
  refine C.out.mono ?_
  rintro e w2 ⟨rfl, hb⟩
  have HB := Lib.hid (HW.out.trans (hb.mono HW.out.size))
  clear hb C
  cases z with
  | true =>
   go_wp2_with fail
   go_ret
   exact ⟨by rw [decide_eq_true (by have := HLE.out; omega)]; rfl, HB.out⟩
  | false =>
   go_wp2_with fail
   go_ret
   exact ⟨by rw [Bool.and_false]; rfl, HB.out⟩
 ·have HLE := Lib.hid hle
  clear C
  go_enter Tryz.func85, Tryz.ntmps85
  go_wp2_with fail
  go_ret
  exact ⟨by rw [decide_eq_false (by have := HLE.out; omega)]; rfl, HW.out⟩

set_option maxHeartbeats 4000000 in
theorem gIdxRu_any (H : FuncId) (cv : Value) (Pf : Sm.Ru → Bool) (A : Option Addr) (cap : Nat) (l : List Sm.Ru) (w : World) (hr : RowAt RuC 5 w A l) (hl : l.length ≤ 1000000000) (hcf : ∀ (args : Array Value) (V : World), (callFunc H args).run Tryz.prog V = .ok (.enter H args) V)
  (hF : ∀ a ∈ l, ∀ (c : List Value) (V : World), Below w.heap.size w V → RuC V V.heap.size a c → Calls Tryz.prog H #[(.agg c.toArray), cv] V fun e w' => e = .returned (.bool (Pf a)) ∧ Below V.heap.size V w') :
  Calls Tryz.prog 177 #[.slice A l.length cap, .func (.func H) #[] #[cv]] w fun e w' => ∃ r : Int, e = .returned (.int .i64 r) ∧ decide (0 ≤ r) = l.any Pf ∧ Below w.heap.size w w' := by
 obtain ⟨N, hN⟩ : ∃ N, N = l.length := ⟨_, rfl⟩
 rw [← hN] at hl ⊢
 have HR := Lib.hid hr
 have HF := Lib.hid hF
 have HCF := Lib.hid hcf
 have HN := Lib.hid hN
 clear hr hF hcf hN
 go_enter Tryz.func177, Tryz.ntmps177
 go_wp2_with fail
 go_loopw [8] (fun i wr => ∃ j : Nat, j ≤ N ∧ i = .int .i64 j ∧ (l.take j).any Pf = false ∧ Below w.heap.size w wr) (fun i _ => N - (intOf i).toNat)
 case atStart => exact ⟨0, Nat.zero_le _, rfl, rfl, Below.refl _ _⟩
 case round =>
  obtain ⟨j, hj, rfl, ha, hb⟩ := hrel
  obtain ⟨wo, rfl⟩ : ∃ wo : World, wo = wr := ⟨_, rfl⟩
  have HA := Lib.hid (And.intro ha hb)
  clear ha hb
  by_cases hlt : j < N
  ·have hlt2 : j < l.length := by rw [← HN.out]; exact hlt
   obtain ⟨el, hg⟩ : ∃ a, l[j]? = some a := ⟨_, List.getElem?_eq_getElem hlt2⟩
   have hs := any_take_succ Pf l j _ hg
   have ht := any_true Pf l j _ hg
   obtain ⟨b, off, c, rfl, hbl, hcc, HCN⟩ := (HR.out.below RuC.stays HA.out.2) j el hg
   have CFN := HF.out el (List.mem_of_getElem? hg) c wo HA.out.2 hcc
   obtain ⟨q, hq⟩ : ∃ q, q = Pf el := ⟨_, rfl⟩
   rw [← hq] at CFN hs ht
   have HQ := Lib.hid (And.intro hs ht)
   clear hs ht hg hlt2 hq hbl
   have hcc2 : c = _ := hcc
   subst hcc2
   obtain ⟨en, ek, ea, eb, enn⟩ := el
   dsimp only at HCN CFN ⊢
   clear hcc
   have d0 : wo.cell? ⟨b, off + j * 5, none⟩ = some _ := HCN 0 _ rfl
   have d1 := HCN 1 _ rfl
   have d2 := HCN 2 _ rfl
   have d3 := HCN 3 _ rfl
   have d4 := HCN 4 _ rfl
   have CF := Lib.hid CFN
   have hc0 := HCF.out #[.agg #[.string en, .string ek, .string ea, .string eb, .int .i64 enn], cv] wo
   have j1 : (j : Int) < N := by omega
   clear HCN CFN
   go_wp2_with fail
   refine CF.out.mono ?_
   rintro e w2 ⟨rfl, hb2⟩
   have HB := Lib.hid (HA.out.2.trans (hb2.mono HA.out.2.size))
   clear hb2 CF hc0 d0 d1 d2 d3 d4
   cases q with
   | true =>
    go_wp2_with fail
    go_ret
    exact ⟨_, rfl, by rw [HQ.out.2 (by first | rfl | trivial)]; exact decide_eq_true (by omega), HB.out⟩
   | false =>
    go_wp2_with fail
    go_roundw
    case rel => exact ⟨j + 1, by omega, by go_num, by rw [HQ.out.1, HA.out.1]; rfl, HB.out⟩
    case measure => simp [intOf]; omega
  ·obtain rfl : j = N := by omega
   have hli : ¬ (j : Int) < j := by omega
   have hall : l.any Pf = false := by have := HA.out.1; rwa [HN.out, List.take_length] at this
   have HH := Lib.hid hall
   clear hall
   go_wp2_with fail
   go_ret
   exact ⟨_, rfl, by rw [HH.out]; rfl, HA.out.2⟩
set_option maxHeartbeats 2000000 in
theorem gConRu_any (H : FuncId) (cv : Value) (Pf : Sm.Ru → Bool) (A : Option Addr) (cap : Nat) (l : List Sm.Ru) (w : World) (hr : RowAt RuC 5 w A l) (hl : l.length ≤ 1000000000) (hcf : ∀ (args : Array Value) (V : World), (callFunc H args).run Tryz.prog V = .ok (.enter H args) V)
  (hF : ∀ a ∈ l, ∀ (c : List Value) (V : World), Below w.heap.size w V → RuC V V.heap.size a c → Calls Tryz.prog H #[(.agg c.toArray), cv] V fun e w' => e = .returned (.bool (Pf a)) ∧ Below V.heap.size V w') :
  Calls Tryz.prog 144 #[.slice A l.length cap, .func (.func H) #[] #[cv]] w fun e w' => e = .returned (.bool (l.any Pf)) ∧ Below w.heap.size w w' := by
 have C := Lib.hid (gIdxRu_any H cv Pf A cap l w hr hl hcf hF)
 obtain ⟨N, hN⟩ : ∃ N, N = l.length := ⟨_, rfl⟩
 obtain ⟨z, hz⟩ : ∃ z, z = l.any Pf := ⟨_, rfl⟩
 rw [← hN, ← hz] at C
 rw [← hN, ← hz]
 clear hr hl hcf hF hN hz
 go_enter Tryz.func144, Tryz.ntmps144
 go_wp2_with fail
 refine C.out.mono ?_
 rintro e w' ⟨r, rfl, hi, hw'⟩
 have HI := Lib.hid (And.intro hi hw')
 clear hi C hw'
 go_wp2_with fail
 go_ret
 exact ⟨by rw [← HI.out.1]; rfl, HI.out.2⟩
set_option maxHeartbeats 4000000 in
theorem gInvRu_any (G : FuncId)  (Pf : Sm.Ru → Bool) (a : Sm.Ru) (c : List Value) (bx : Nat) (V : World) (hcf : ∀ (args : Array Value) (V : World), (callFunc G args).run Tryz.prog V = .ok (.enter G args) V) (hc : RuC V V.heap.size a c)
  (hbx : V.cell? ⟨bx, 0, none⟩ = some (.func (.func G) #[] #[])) (hG : ∀ V', Below V.heap.size V V' → Calls Tryz.prog G #[(.agg c.toArray)] V' fun e w' => e = .returned (.bool (Pf a)) ∧ Below V'.heap.size V' w') :
  Calls Tryz.prog 143 #[(.agg c.toArray), .pointer (some ⟨bx, 0, none⟩)] V fun e w' => e = .returned (.bool (!Pf a)) ∧ Below V.heap.size V w' := by
 obtain ⟨q, hq⟩ : ∃ q, q = Pf a := ⟨_, rfl⟩
 rw [← hq] at hG ⊢
 obtain ⟨el, hel⟩ : ∃ x, x = a := ⟨_, rfl⟩
 rw [← hel] at hc
 have CFN := hG
 have hcc := hc
 have hlt : bx < V.heap.size := block_lt_of_cell hbx
 clear hG hc hq hel
 have hcc2 : c = _ := hcc
 subst hcc2
 obtain ⟨en, ek, ea, eb, enn⟩ := el
 dsimp only at CFN ⊢
 clear hcc
 have CF := Lib.hid CFN
 have hc0 := fun V => hcf #[.agg #[.string en, .string ek, .string ea, .string eb, .int .i64 enn]] V
 clear CFN hcf
 go_enter Tryz.func143, Tryz.ntmps143
 go_wp2_with fail
 refine (CF.out _ ((Below.refl _ _).alloc (Nat.le_refl _) _)).mono ?_
 rintro e w2 ⟨rfl, hb⟩
 have HB := Lib.hid (((Below.refl V.heap.size V).alloc (Nat.le_refl _) _).trans (hb.mono (by simp)))
 clear hb CF hc0
 cases q with
 | true =>
  go_wp2_with fail
  go_ret
  exact ⟨rfl, HB.out⟩
 | false =>
  go_wp2_with fail
  go_ret
  exact ⟨rfl, HB.out⟩
set_option maxHeartbeats 4000000 in
theorem gVlRu_any (G : FuncId)  (Pf : Sm.Ru → Bool) (A : Option Addr) (cap : Nat) (l : List Sm.Ru) (most : Int) (w : World) (hr : RowAt RuC 5 w A l) (hl : l.length ≤ 1000000000) (hcf : ∀ (args : Array Value) (V : World), (callFunc G args).run Tryz.prog V = .ok (.enter G args) V)
  (hG : ∀ a ∈ l, ∀ (c : List Value) (V : World), Below w.heap.size w V → RuC V V.heap.size a c → Calls Tryz.prog G #[(.agg c.toArray)] V fun e w' => e = .returned (.bool (Pf a)) ∧ Below V.heap.size V w') :
  Calls Tryz.prog 87 #[.slice A l.length cap, .int .i64 most, .func (.func G) #[] #[]] w fun e w' => e = .returned (.bool (decide ((l.length : Int) ≤ most) && l.all Pf)) ∧ Below w.heap.size w w' := by
 have hw1 : Below w.heap.size w (w.alloc (.cells #[.func (.func G) #[] #[]] 80)) := (Below.refl _ _).alloc (Nat.le_refl _) _
 have hbx0 : (w.alloc (.cells #[.func (.func G) #[] #[]] 80)).cell? ⟨w.heap.size, 0, none⟩ = some (.func (.func G) #[] #[]) := (Blk.new w [.func (.func G) #[] #[]] _).cell 0 _ rfl
 obtain ⟨w1, hw⟩ : ∃ x, x = w.alloc (.cells #[.func (.func G) #[] #[]] 80) := ⟨_, rfl⟩
 rw [← hw] at hw1 hbx0
 have hs1 : w1.heap.size = w.heap.size + 1 := by rw [hw, World.size_alloc]
 have cC := gConRu_any 143 (.pointer (some ⟨w.heap.size, 0, none⟩)) (fun a => !Pf a) A cap l w1 (hr.below RuC.stays hw1) hl (fun _ _ => rfl) (fun a ha c V hb hc => by
  refine gInvRu_any G Pf a c w.heap.size V hcf hc ((hb.cell (p := ⟨w.heap.size, 0, none⟩) (by show w.heap.size < w1.heap.size; omega)).trans hbx0) (fun V' hV' => ?_)
  have hbV : Below w.heap.size w V := hw1.trans (hb.mono (by omega))
  exact hG a ha c V' (hbV.trans (hV'.mono hbV.size)) (RuC.stays V V' a c hc hV'))
 have hany : l.any (fun a => !Pf a) = !l.all Pf := by rw [List.not_all_eq_any_not]
 rw [hany] at cC
 obtain ⟨N, hN⟩ : ∃ N, N = l.length := ⟨_, rfl⟩
 obtain ⟨z, hz⟩ : ∃ z, z = l.all Pf := ⟨_, rfl⟩
 rw [← hN, ← hz] at cC
 rw [← hN, ← hz]
 have C := Lib.hid cC
 rw [hw] at C
 have HW := Lib.hid hw1
 rw [hw] at HW
 clear hr hl hcf hG cC hN hz hany hw1 hbx0 hs1 hw
 by_cases hle : (N : Int) ≤ most
 ·have HLE := Lib.hid hle
  go_enter Tryz.func87, Tryz.ntmps87
  go_wp2_with fail
  refine C.out.mono ?_
  rintro e w2 ⟨rfl, hb⟩
  have HB := Lib.hid (HW.out.trans (hb.mono HW.out.size))
  clear hb C
  cases z with
  | true =>
   go_wp2_with fail
   go_ret
   exact ⟨by rw [decide_eq_true (by have := HLE.out; omega)]; rfl, HB.out⟩
  | false =>
   go_wp2_with fail
   go_ret
   exact ⟨by rw [Bool.and_false]; rfl, HB.out⟩
 ·have HLE := Lib.hid hle
  clear C
  go_enter Tryz.func87, Tryz.ntmps87
  go_wp2_with fail
  go_ret
  exact ⟨by rw [decide_eq_false (by have := HLE.out; omega)]; rfl, HW.out⟩

set_option maxHeartbeats 4000000 in
theorem gIdxFd_any (H : FuncId) (cv : Value) (Pf : Sm.Fd → Bool) (A : Option Addr) (cap : Nat) (l : List Sm.Fd) (w : World) (hr : RowAt FdC 8 w A l) (hl : l.length ≤ 1000000000) (hcf : ∀ (args : Array Value) (V : World), (callFunc H args).run Tryz.prog V = .ok (.enter H args) V)
  (hF : ∀ a ∈ l, ∀ (c : List Value) (V : World), Below w.heap.size w V → FdC V V.heap.size a c → Calls Tryz.prog H #[(.agg c.toArray), cv] V fun e w' => e = .returned (.bool (Pf a)) ∧ Below V.heap.size V w') :
  Calls Tryz.prog 190 #[.slice A l.length cap, .func (.func H) #[] #[cv]] w fun e w' => ∃ r : Int, e = .returned (.int .i64 r) ∧ decide (0 ≤ r) = l.any Pf ∧ Below w.heap.size w w' := by
 obtain ⟨N, hN⟩ : ∃ N, N = l.length := ⟨_, rfl⟩
 rw [← hN] at hl ⊢
 have HR := Lib.hid hr
 have HF := Lib.hid hF
 have HCF := Lib.hid hcf
 have HN := Lib.hid hN
 clear hr hF hcf hN
 go_enter Tryz.func190, Tryz.ntmps190
 go_wp2_with fail
 go_loopw [8] (fun i wr => ∃ j : Nat, j ≤ N ∧ i = .int .i64 j ∧ (l.take j).any Pf = false ∧ Below w.heap.size w wr) (fun i _ => N - (intOf i).toNat)
 case atStart => exact ⟨0, Nat.zero_le _, rfl, rfl, Below.refl _ _⟩
 case round =>
  obtain ⟨j, hj, rfl, ha, hb⟩ := hrel
  obtain ⟨wo, rfl⟩ : ∃ wo : World, wo = wr := ⟨_, rfl⟩
  have HA := Lib.hid (And.intro ha hb)
  clear ha hb
  by_cases hlt : j < N
  ·have hlt2 : j < l.length := by rw [← HN.out]; exact hlt
   obtain ⟨el, hg⟩ : ∃ a, l[j]? = some a := ⟨_, List.getElem?_eq_getElem hlt2⟩
   have hs := any_take_succ Pf l j _ hg
   have ht := any_true Pf l j _ hg
   obtain ⟨b, off, c, rfl, hbl, hcc, HCN⟩ := (HR.out.below FdC.stays HA.out.2) j el hg
   have CFN := HF.out el (List.mem_of_getElem? hg) c wo HA.out.2 hcc
   obtain ⟨q, hq⟩ : ∃ q, q = Pf el := ⟨_, rfl⟩
   rw [← hq] at CFN hs ht
   have HQ := Lib.hid (And.intro hs ht)
   clear hs ht hg hlt2 hq hbl
   obtain ⟨Aw, cw, Ag, cg, rfl, -⟩ := hcc
   obtain ⟨fn, fof, fup, fk, flo, fhi, fws, fwg⟩ := el
   dsimp only at HCN CFN ⊢
   obtain ⟨nw, hnw⟩ : ∃ n, n = fws.length := ⟨_, rfl⟩
   obtain ⟨ng, hng⟩ : ∃ n, n = fwg.length := ⟨_, rfl⟩
   rw [← hnw, ← hng] at HCN CFN
   have HNW := Lib.hid (And.intro hnw hng)
   clear hnw hng
   have d0 : wo.cell? ⟨b, off + j * 8, none⟩ = some _ := HCN 0 _ rfl
   have d1 := HCN 1 _ rfl
   have d2 := HCN 2 _ rfl
   have d3 := HCN 3 _ rfl
   have d4 := HCN 4 _ rfl
   have d5 := HCN 5 _ rfl
   have d6 := HCN 6 _ rfl
   have d7 := HCN 7 _ rfl
   have CF := Lib.hid CFN
   have hc0 := HCF.out #[.agg #[.string fn, .string fof, .string fup, .int .i64 fk, .int .i64 flo, .int .i64 fhi, .slice Aw nw cw, .slice Ag ng cg], cv] wo
   have j1 : (j : Int) < N := by omega
   clear HCN CFN
   go_wp2_with fail
   refine CF.out.mono ?_
   rintro e w2 ⟨rfl, hb2⟩
   have HB := Lib.hid (HA.out.2.trans (hb2.mono HA.out.2.size))
   clear hb2 CF hc0 d0 d1 d2 d3 d4 d5 d6 d7
   cases q with
   | true =>
    go_wp2_with fail
    go_ret
    exact ⟨_, rfl, by rw [HQ.out.2 (by first | rfl | trivial)]; exact decide_eq_true (by omega), HB.out⟩
   | false =>
    go_wp2_with fail
    go_roundw
    case rel => exact ⟨j + 1, by omega, by go_num, by rw [HQ.out.1, HA.out.1]; rfl, HB.out⟩
    case measure => simp [intOf]; omega
  ·obtain rfl : j = N := by omega
   have hli : ¬ (j : Int) < j := by omega
   have hall : l.any Pf = false := by have := HA.out.1; rwa [HN.out, List.take_length] at this
   have HH := Lib.hid hall
   clear hall
   go_wp2_with fail
   go_ret
   exact ⟨_, rfl, by rw [HH.out]; rfl, HA.out.2⟩
set_option maxHeartbeats 2000000 in
theorem gConFd_any (H : FuncId) (cv : Value) (Pf : Sm.Fd → Bool) (A : Option Addr) (cap : Nat) (l : List Sm.Fd) (w : World) (hr : RowAt FdC 8 w A l) (hl : l.length ≤ 1000000000) (hcf : ∀ (args : Array Value) (V : World), (callFunc H args).run Tryz.prog V = .ok (.enter H args) V)
  (hF : ∀ a ∈ l, ∀ (c : List Value) (V : World), Below w.heap.size w V → FdC V V.heap.size a c → Calls Tryz.prog H #[(.agg c.toArray), cv] V fun e w' => e = .returned (.bool (Pf a)) ∧ Below V.heap.size V w') :
  Calls Tryz.prog 169 #[.slice A l.length cap, .func (.func H) #[] #[cv]] w fun e w' => e = .returned (.bool (l.any Pf)) ∧ Below w.heap.size w w' := by
 have C := Lib.hid (gIdxFd_any H cv Pf A cap l w hr hl hcf hF)
 obtain ⟨N, hN⟩ : ∃ N, N = l.length := ⟨_, rfl⟩
 obtain ⟨z, hz⟩ : ∃ z, z = l.any Pf := ⟨_, rfl⟩
 rw [← hN, ← hz] at C
 rw [← hN, ← hz]
 clear hr hl hcf hF hN hz
 go_enter Tryz.func169, Tryz.ntmps169
 go_wp2_with fail
 refine C.out.mono ?_
 rintro e w' ⟨r, rfl, hi, hw'⟩
 have HI := Lib.hid (And.intro hi hw')
 clear hi C hw'
 go_wp2_with fail
 go_ret
 exact ⟨by rw [← HI.out.1]; rfl, HI.out.2⟩
set_option maxHeartbeats 4000000 in
theorem gInvFd_any (G : FuncId)  (Pf : Sm.Fd → Bool) (a : Sm.Fd) (c : List Value) (bx : Nat) (V : World) (hcf : ∀ (args : Array Value) (V : World), (callFunc G args).run Tryz.prog V = .ok (.enter G args) V) (hc : FdC V V.heap.size a c)
  (hbx : V.cell? ⟨bx, 0, none⟩ = some (.func (.func G) #[] #[])) (hG : ∀ V', Below V.heap.size V V' → Calls Tryz.prog G #[(.agg c.toArray)] V' fun e w' => e = .returned (.bool (Pf a)) ∧ Below V'.heap.size V' w') :
  Calls Tryz.prog 168 #[(.agg c.toArray), .pointer (some ⟨bx, 0, none⟩)] V fun e w' => e = .returned (.bool (!Pf a)) ∧ Below V.heap.size V w' := by
 obtain ⟨q, hq⟩ : ∃ q, q = Pf a := ⟨_, rfl⟩
 rw [← hq] at hG ⊢
 obtain ⟨el, hel⟩ : ∃ x, x = a := ⟨_, rfl⟩
 rw [← hel] at hc
 have CFN := hG
 have hcc := hc
 have hlt : bx < V.heap.size := block_lt_of_cell hbx
 clear hG hc hq hel
 obtain ⟨Aw, cw, Ag, cg, rfl, -⟩ := hcc
 obtain ⟨fn, fof, fup, fk, flo, fhi, fws, fwg⟩ := el
 dsimp only at CFN ⊢
 obtain ⟨nw, hnw⟩ : ∃ n, n = fws.length := ⟨_, rfl⟩
 obtain ⟨ng, hng⟩ : ∃ n, n = fwg.length := ⟨_, rfl⟩
 rw [← hnw, ← hng] at CFN ⊢
 have HNW := Lib.hid (And.intro hnw hng)
 clear hnw hng
 have CF := Lib.hid CFN
 have hc0 := fun V => hcf #[.agg #[.string fn, .string fof, .string fup, .int .i64 fk, .int .i64 flo, .int .i64 fhi, .slice Aw nw cw, .slice Ag ng cg]] V
 clear CFN hcf
 go_enter Tryz.func168, Tryz.ntmps168
 go_wp2_with fail
 refine (CF.out _ ((Below.refl _ _).alloc (Nat.le_refl _) _)).mono ?_
 rintro e w2 ⟨rfl, hb⟩
 have HB := Lib.hid (((Below.refl V.heap.size V).alloc (Nat.le_refl _) _).trans (hb.mono (by simp)))
 clear hb CF hc0
 cases q with
 | true =>
  go_wp2_with fail
  go_ret
  exact ⟨rfl, HB.out⟩
 | false =>
  go_wp2_with fail
  go_ret
  exact ⟨rfl, HB.out⟩
set_option maxHeartbeats 4000000 in
theorem gVlFd_any (G : FuncId)  (Pf : Sm.Fd → Bool) (A : Option Addr) (cap : Nat) (l : List Sm.Fd) (most : Int) (w : World) (hr : RowAt FdC 8 w A l) (hl : l.length ≤ 1000000000) (hcf : ∀ (args : Array Value) (V : World), (callFunc G args).run Tryz.prog V = .ok (.enter G args) V)
  (hG : ∀ a ∈ l, ∀ (c : List Value) (V : World), Below w.heap.size w V → FdC V V.heap.size a c → Calls Tryz.prog G #[(.agg c.toArray)] V fun e w' => e = .returned (.bool (Pf a)) ∧ Below V.heap.size V w') :
  Calls Tryz.prog 136 #[.slice A l.length cap, .int .i64 most, .func (.func G) #[] #[]] w fun e w' => e = .returned (.bool (decide ((l.length : Int) ≤ most) && l.all Pf)) ∧ Below w.heap.size w w' := by
 have hw1 : Below w.heap.size w (w.alloc (.cells #[.func (.func G) #[] #[]] 150)) := (Below.refl _ _).alloc (Nat.le_refl _) _
 have hbx0 : (w.alloc (.cells #[.func (.func G) #[] #[]] 150)).cell? ⟨w.heap.size, 0, none⟩ = some (.func (.func G) #[] #[]) := (Blk.new w [.func (.func G) #[] #[]] _).cell 0 _ rfl
 obtain ⟨w1, hw⟩ : ∃ x, x = w.alloc (.cells #[.func (.func G) #[] #[]] 150) := ⟨_, rfl⟩
 rw [← hw] at hw1 hbx0
 have hs1 : w1.heap.size = w.heap.size + 1 := by rw [hw, World.size_alloc]
 have cC := gConFd_any 168 (.pointer (some ⟨w.heap.size, 0, none⟩)) (fun a => !Pf a) A cap l w1 (hr.below FdC.stays hw1) hl (fun _ _ => rfl) (fun a ha c V hb hc => by
  refine gInvFd_any G Pf a c w.heap.size V hcf hc ((hb.cell (p := ⟨w.heap.size, 0, none⟩) (by show w.heap.size < w1.heap.size; omega)).trans hbx0) (fun V' hV' => ?_)
  have hbV : Below w.heap.size w V := hw1.trans (hb.mono (by omega))
  exact hG a ha c V' (hbV.trans (hV'.mono hbV.size)) (FdC.stays V V' a c hc hV'))
 have hany : l.any (fun a => !Pf a) = !l.all Pf := by rw [List.not_all_eq_any_not]
 rw [hany] at cC
 obtain ⟨N, hN⟩ : ∃ N, N = l.length := ⟨_, rfl⟩
 obtain ⟨z, hz⟩ : ∃ z, z = l.all Pf := ⟨_, rfl⟩
 rw [← hN, ← hz] at cC
 rw [← hN, ← hz]
 have C := Lib.hid cC
 rw [hw] at C
 have HW := Lib.hid hw1
 rw [hw] at HW
 clear hr hl hcf hG cC hN hz hany hw1 hbx0 hs1 hw
 by_cases hle : (N : Int) ≤ most
 ·have HLE := Lib.hid hle
  go_enter Tryz.func136, Tryz.ntmps136
  go_wp2_with fail
  refine C.out.mono ?_
  rintro e w2 ⟨rfl, hb⟩
  have HB := Lib.hid (HW.out.trans (hb.mono HW.out.size))
  clear hb C
  cases z with
  | true =>
   go_wp2_with fail
   go_ret
   exact ⟨by rw [decide_eq_true (by have := HLE.out; omega)]; rfl, HB.out⟩
  | false =>
   go_wp2_with fail
   go_ret
   exact ⟨by rw [Bool.and_false]; rfl, HB.out⟩
 ·have HLE := Lib.hid hle
  clear C
  go_enter Tryz.func136, Tryz.ntmps136
  go_wp2_with fail
  go_ret
  exact ⟨by rw [decide_eq_false (by have := HLE.out; omega)]; rfl, HW.out⟩

set_option maxHeartbeats 4000000 in
theorem gIdxSv_any (H : FuncId) (cv : Value) (Pf : ByteArray → Bool) (A : Option Addr) (cap : Nat) (l : List ByteArray) (w : World) (hr : RowAt SvC 1 w A l) (hl : l.length ≤ 1000000000) (hcf : ∀ (args : Array Value) (V : World), (callFunc H args).run Tryz.prog V = .ok (.enter H args) V)
  (hF : ∀ a ∈ l, ∀ (c : List Value) (V : World), Below w.heap.size w V → SvC V V.heap.size a c → Calls Tryz.prog H #[(c.getD 0 undef), cv] V fun e w' => e = .returned (.bool (Pf a)) ∧ Below V.heap.size V w') :
  Calls Tryz.prog 194 #[.slice A l.length cap, .func (.func H) #[] #[cv]] w fun e w' => ∃ r : Int, e = .returned (.int .i64 r) ∧ decide (0 ≤ r) = l.any Pf ∧ Below w.heap.size w w' := by
 obtain ⟨N, hN⟩ : ∃ N, N = l.length := ⟨_, rfl⟩
 rw [← hN] at hl ⊢
 have HR := Lib.hid hr
 have HF := Lib.hid hF
 have HCF := Lib.hid hcf
 have HN := Lib.hid hN
 clear hr hF hcf hN
 go_enter Tryz.func194, Tryz.ntmps194
 go_wp2_with fail
 go_loopw [8] (fun i wr => ∃ j : Nat, j ≤ N ∧ i = .int .i64 j ∧ (l.take j).any Pf = false ∧ Below w.heap.size w wr) (fun i _ => N - (intOf i).toNat)
 case atStart => exact ⟨0, Nat.zero_le _, rfl, rfl, Below.refl _ _⟩
 case round =>
  obtain ⟨j, hj, rfl, ha, hb⟩ := hrel
  obtain ⟨wo, rfl⟩ : ∃ wo : World, wo = wr := ⟨_, rfl⟩
  have HA := Lib.hid (And.intro ha hb)
  clear ha hb
  by_cases hlt : j < N
  ·have hlt2 : j < l.length := by rw [← HN.out]; exact hlt
   obtain ⟨el, hg⟩ : ∃ a, l[j]? = some a := ⟨_, List.getElem?_eq_getElem hlt2⟩
   have hs := any_take_succ Pf l j _ hg
   have ht := any_true Pf l j _ hg
   obtain ⟨b, off, c, rfl, hbl, hcc, HCN⟩ := (HR.out.below SvC.stays HA.out.2) j el hg
   have CFN := HF.out el (List.mem_of_getElem? hg) c wo HA.out.2 hcc
   obtain ⟨q, hq⟩ : ∃ q, q = Pf el := ⟨_, rfl⟩
   rw [← hq] at CFN hs ht
   have HQ := Lib.hid (And.intro hs ht)
   clear hs ht hg hlt2 hq hbl
   have hcc2 : c = _ := hcc
   subst hcc2
   clear hcc
   have d0 : wo.cell? ⟨b, off + j, none⟩ = some (.string el) := by have := HCN 0 _ rfl; simpa using this
   have CF := Lib.hid CFN
   have hc0 := HCF.out #[.string el, cv] wo
   have j1 : (j : Int) < N := by omega
   clear HCN CFN
   go_wp2_with fail
   refine CF.out.mono ?_
   rintro e w2 ⟨rfl, hb2⟩
   have HB := Lib.hid (HA.out.2.trans (hb2.mono HA.out.2.size))
   clear hb2 CF hc0 d0
   cases q with
   | true =>
    go_wp2_with fail
    go_ret
    exact ⟨_, rfl, by rw [HQ.out.2 (by first | rfl | trivial)]; exact decide_eq_true (by omega), HB.out⟩
   | false =>
    go_wp2_with fail
    go_roundw
    case rel => exact ⟨j + 1, by omega, by go_num, by rw [HQ.out.1, HA.out.1]; rfl, HB.out⟩
    case measure => simp [intOf]; omega
  ·obtain rfl : j = N := by omega
   have hli : ¬ (j : Int) < j := by omega
   have hall : l.any Pf = false := by have := HA.out.1; rwa [HN.out, List.take_length] at this
   have HH := Lib.hid hall
   clear hall
   go_wp2_with fail
   go_ret
   exact ⟨_, rfl, by rw [HH.out]; rfl, HA.out.2⟩
set_option maxHeartbeats 2000000 in
theorem gConSv_any (H : FuncId) (cv : Value) (Pf : ByteArray → Bool) (A : Option Addr) (cap : Nat) (l : List ByteArray) (w : World) (hr : RowAt SvC 1 w A l) (hl : l.length ≤ 1000000000) (hcf : ∀ (args : Array Value) (V : World), (callFunc H args).run Tryz.prog V = .ok (.enter H args) V)
  (hF : ∀ a ∈ l, ∀ (c : List Value) (V : World), Below w.heap.size w V → SvC V V.heap.size a c → Calls Tryz.prog H #[(c.getD 0 undef), cv] V fun e w' => e = .returned (.bool (Pf a)) ∧ Below V.heap.size V w') :
  Calls Tryz.prog 174 #[.slice A l.length cap, .func (.func H) #[] #[cv]] w fun e w' => e = .returned (.bool (l.any Pf)) ∧ Below w.heap.size w w' := by
 have C := Lib.hid (gIdxSv_any H cv Pf A cap l w hr hl hcf hF)
 obtain ⟨N, hN⟩ : ∃ N, N = l.length := ⟨_, rfl⟩
 obtain ⟨z, hz⟩ : ∃ z, z = l.any Pf := ⟨_, rfl⟩
 rw [← hN, ← hz] at C
 rw [← hN, ← hz]
 clear hr hl hcf hF hN hz
 go_enter Tryz.func174, Tryz.ntmps174
 go_wp2_with fail
 refine C.out.mono ?_
 rintro e w' ⟨r, rfl, hi, hw'⟩
 have HI := Lib.hid (And.intro hi hw')
 clear hi C hw'
 go_wp2_with fail
 go_ret
 exact ⟨by rw [← HI.out.1]; rfl, HI.out.2⟩
set_option maxHeartbeats 4000000 in
theorem gInvSv_any (G : FuncId)  (Pf : ByteArray → Bool) (a : ByteArray) (c : List Value) (bx : Nat) (V : World) (hcf : ∀ (args : Array Value) (V : World), (callFunc G args).run Tryz.prog V = .ok (.enter G args) V) (hc : SvC V V.heap.size a c)
  (hbx : V.cell? ⟨bx, 0, none⟩ = some (.func (.func G) #[] #[])) (hG : ∀ V', Below V.heap.size V V' → Calls Tryz.prog G #[(c.getD 0 undef)] V' fun e w' => e = .returned (.bool (Pf a)) ∧ Below V'.heap.size V' w') :
  Calls Tryz.prog 173 #[(c.getD 0 undef), .pointer (some ⟨bx, 0, none⟩)] V fun e w' => e = .returned (.bool (!Pf a)) ∧ Below V.heap.size V w' := by
 obtain ⟨q, hq⟩ : ∃ q, q = Pf a := ⟨_, rfl⟩
 rw [← hq] at hG ⊢
 obtain ⟨el, hel⟩ : ∃ x, x = a := ⟨_, rfl⟩
 rw [← hel] at hc
 have CFN := hG
 have hcc := hc
 have hlt : bx < V.heap.size := block_lt_of_cell hbx
 clear hG hc hq hel
 have hcc2 : c = _ := hcc
 subst hcc2
 clear hcc
 have CF := Lib.hid CFN
 have hc0 := fun V => hcf #[.string el] V
 clear CFN hcf
 show Calls Tryz.prog 173 #[.string el, .pointer (some ⟨bx, 0, none⟩)] V _
 go_enter Tryz.func173, Tryz.ntmps173
 go_wp2_with fail
 refine (CF.out _ (Below.refl _ _)).mono ?_
 rintro e w2 ⟨rfl, hb⟩
 have HB := Lib.hid (hb)
 clear hb CF hc0
 cases q with
 | true =>
  go_wp2_with fail
  go_ret
  exact ⟨rfl, HB.out⟩
 | false =>
  go_wp2_with fail
  go_ret
  exact ⟨rfl, HB.out⟩
set_option maxHeartbeats 4000000 in
theorem gVlSv_any (G : FuncId)  (Pf : ByteArray → Bool) (A : Option Addr) (cap : Nat) (l : List ByteArray) (most : Int) (w : World) (hr : RowAt SvC 1 w A l) (hl : l.length ≤ 1000000000) (hcf : ∀ (args : Array Value) (V : World), (callFunc G args).run Tryz.prog V = .ok (.enter G args) V)
  (hG : ∀ a ∈ l, ∀ (c : List Value) (V : World), Below w.heap.size w V → SvC V V.heap.size a c → Calls Tryz.prog G #[(c.getD 0 undef)] V fun e w' => e = .returned (.bool (Pf a)) ∧ Below V.heap.size V w') :
  Calls Tryz.prog 141 #[.slice A l.length cap, .int .i64 most, .func (.func G) #[] #[]] w fun e w' => e = .returned (.bool (decide ((l.length : Int) ≤ most) && l.all Pf)) ∧ Below w.heap.size w w' := by
 have hw1 : Below w.heap.size w (w.alloc (.cells #[.func (.func G) #[] #[]] 148)) := (Below.refl _ _).alloc (Nat.le_refl _) _
 have hbx0 : (w.alloc (.cells #[.func (.func G) #[] #[]] 148)).cell? ⟨w.heap.size, 0, none⟩ = some (.func (.func G) #[] #[]) := (Blk.new w [.func (.func G) #[] #[]] _).cell 0 _ rfl
 obtain ⟨w1, hw⟩ : ∃ x, x = w.alloc (.cells #[.func (.func G) #[] #[]] 148) := ⟨_, rfl⟩
 rw [← hw] at hw1 hbx0
 have hs1 : w1.heap.size = w.heap.size + 1 := by rw [hw, World.size_alloc]
 have cC := gConSv_any 173 (.pointer (some ⟨w.heap.size, 0, none⟩)) (fun a => !Pf a) A cap l w1 (hr.below SvC.stays hw1) hl (fun _ _ => rfl) (fun a ha c V hb hc => by
  refine gInvSv_any G Pf a c w.heap.size V hcf hc ((hb.cell (p := ⟨w.heap.size, 0, none⟩) (by show w.heap.size < w1.heap.size; omega)).trans hbx0) (fun V' hV' => ?_)
  have hbV : Below w.heap.size w V := hw1.trans (hb.mono (by omega))
  exact hG a ha c V' (hbV.trans (hV'.mono hbV.size)) (SvC.stays V V' a c hc hV'))
 have hany : l.any (fun a => !Pf a) = !l.all Pf := by rw [List.not_all_eq_any_not]
 rw [hany] at cC
 obtain ⟨N, hN⟩ : ∃ N, N = l.length := ⟨_, rfl⟩
 obtain ⟨z, hz⟩ : ∃ z, z = l.all Pf := ⟨_, rfl⟩
 rw [← hN, ← hz] at cC
 rw [← hN, ← hz]
 have C := Lib.hid cC
 rw [hw] at C
 have HW := Lib.hid hw1
 rw [hw] at HW
 clear hr hl hcf hG cC hN hz hany hw1 hbx0 hs1 hw
 by_cases hle : (N : Int) ≤ most
 ·have HLE := Lib.hid hle
  go_enter Tryz.func141, Tryz.ntmps141
  go_wp2_with fail
  refine C.out.mono ?_
  rintro e w2 ⟨rfl, hb⟩
  have HB := Lib.hid (HW.out.trans (hb.mono HW.out.size))
  clear hb C
  cases z with
  | true =>
   go_wp2_with fail
   go_ret
   exact ⟨by rw [decide_eq_true (by have := HLE.out; omega)]; rfl, HB.out⟩
  | false =>
   go_wp2_with fail
   go_ret
   exact ⟨by rw [Bool.and_false]; rfl, HB.out⟩
 ·have HLE := Lib.hid hle
  clear C
  go_enter Tryz.func141, Tryz.ntmps141
  go_wp2_with fail
  go_ret
  exact ⟨by rw [decide_eq_false (by have := HLE.out; omega)]; rfl, HW.out⟩

set_option maxHeartbeats 4000000 in
theorem gIdxIv_any (H : FuncId) (cv : Value) (Pf : Int → Bool) (A : Option Addr) (cap : Nat) (l : List Int) (w : World) (hr : RowAt IvC 1 w A l) (hl : l.length ≤ 1000000000) (hcf : ∀ (args : Array Value) (V : World), (callFunc H args).run Tryz.prog V = .ok (.enter H args) V)
  (hF : ∀ a ∈ l, ∀ (c : List Value) (V : World), Below w.heap.size w V → IvC V V.heap.size a c → Calls Tryz.prog H #[(c.getD 0 undef), cv] V fun e w' => e = .returned (.bool (Pf a)) ∧ Below V.heap.size V w') :
  Calls Tryz.prog 219 #[.slice A l.length cap, .func (.func H) #[] #[cv]] w fun e w' => ∃ r : Int, e = .returned (.int .i64 r) ∧ decide (0 ≤ r) = l.any Pf ∧ Below w.heap.size w w' := by
 obtain ⟨N, hN⟩ : ∃ N, N = l.length := ⟨_, rfl⟩
 rw [← hN] at hl ⊢
 have HR := Lib.hid hr
 have HF := Lib.hid hF
 have HCF := Lib.hid hcf
 have HN := Lib.hid hN
 clear hr hF hcf hN
 go_enter Tryz.func219, Tryz.ntmps219
 go_wp2_with fail
 go_loopw [8] (fun i wr => ∃ j : Nat, j ≤ N ∧ i = .int .i64 j ∧ (l.take j).any Pf = false ∧ Below w.heap.size w wr) (fun i _ => N - (intOf i).toNat)
 case atStart => exact ⟨0, Nat.zero_le _, rfl, rfl, Below.refl _ _⟩
 case round =>
  obtain ⟨j, hj, rfl, ha, hb⟩ := hrel
  obtain ⟨wo, rfl⟩ : ∃ wo : World, wo = wr := ⟨_, rfl⟩
  have HA := Lib.hid (And.intro ha hb)
  clear ha hb
  by_cases hlt : j < N
  ·have hlt2 : j < l.length := by rw [← HN.out]; exact hlt
   obtain ⟨el, hg⟩ : ∃ a, l[j]? = some a := ⟨_, List.getElem?_eq_getElem hlt2⟩
   have hs := any_take_succ Pf l j _ hg
   have ht := any_true Pf l j _ hg
   obtain ⟨b, off, c, rfl, hbl, hcc, HCN⟩ := (HR.out.below IvC.stays HA.out.2) j el hg
   have CFN := HF.out el (List.mem_of_getElem? hg) c wo HA.out.2 hcc
   obtain ⟨q, hq⟩ : ∃ q, q = Pf el := ⟨_, rfl⟩
   rw [← hq] at CFN hs ht
   have HQ := Lib.hid (And.intro hs ht)
   clear hs ht hg hlt2 hq hbl
   have hcc2 : c = _ := hcc
   subst hcc2
   clear hcc
   have d0 : wo.cell? ⟨b, off + j, none⟩ = some (.int .i64 el) := by have := HCN 0 _ rfl; simpa using this
   have CF := Lib.hid CFN
   have hc0 := HCF.out #[.int .i64 el, cv] wo
   have j1 : (j : Int) < N := by omega
   clear HCN CFN
   go_wp2_with fail
   refine CF.out.mono ?_
   rintro e w2 ⟨rfl, hb2⟩
   have HB := Lib.hid (HA.out.2.trans (hb2.mono HA.out.2.size))
   clear hb2 CF hc0 d0
   cases q with
   | true =>
    go_wp2_with fail
    go_ret
    exact ⟨_, rfl, by rw [HQ.out.2 (by first | rfl | trivial)]; exact decide_eq_true (by omega), HB.out⟩
   | false =>
    go_wp2_with fail
    go_roundw
    case rel => exact ⟨j + 1, by omega, by go_num, by rw [HQ.out.1, HA.out.1]; rfl, HB.out⟩
    case measure => simp [intOf]; omega
  ·obtain rfl : j = N := by omega
   have hli : ¬ (j : Int) < j := by omega
   have hall : l.any Pf = false := by have := HA.out.1; rwa [HN.out, List.take_length] at this
   have HH := Lib.hid hall
   clear hall
   go_wp2_with fail
   go_ret
   exact ⟨_, rfl, by rw [HH.out]; rfl, HA.out.2⟩
set_option maxHeartbeats 2000000 in
theorem gConIv_any (H : FuncId) (cv : Value) (Pf : Int → Bool) (A : Option Addr) (cap : Nat) (l : List Int) (w : World) (hr : RowAt IvC 1 w A l) (hl : l.length ≤ 1000000000) (hcf : ∀ (args : Array Value) (V : World), (callFunc H args).run Tryz.prog V = .ok (.enter H args) V)
  (hF : ∀ a ∈ l, ∀ (c : List Value) (V : World), Below w.heap.size w V → IvC V V.heap.size a c → Calls Tryz.prog H #[(c.getD 0 undef), cv] V fun e w' => e = .returned (.bool (Pf a)) ∧ Below V.heap.size V w') :
  Calls Tryz.prog 207 #[.slice A l.length cap, .func (.func H) #[] #[cv]] w fun e w' => e = .returned (.bool (l.any Pf)) ∧ Below w.heap.size w w' := by
 have C := Lib.hid (gIdxIv_any H cv Pf A cap l w hr hl hcf hF)
 obtain ⟨N, hN⟩ : ∃ N, N = l.length := ⟨_, rfl⟩
 obtain ⟨z, hz⟩ : ∃ z, z = l.any Pf := ⟨_, rfl⟩
 rw [← hN, ← hz] at C
 rw [← hN, ← hz]
 clear hr hl hcf hF hN hz
 go_enter Tryz.func207, Tryz.ntmps207
 go_wp2_with fail
 refine C.out.mono ?_
 rintro e w' ⟨r, rfl, hi, hw'⟩
 have HI := Lib.hid (And.intro hi hw')
 clear hi C hw'
 go_wp2_with fail
 go_ret
 exact ⟨by rw [← HI.out.1]; rfl, HI.out.2⟩
set_option maxHeartbeats 4000000 in
theorem gInvIv_any (G : FuncId)  (Pf : Int → Bool) (a : Int) (c : List Value) (bx : Nat) (V : World) (hcf : ∀ (args : Array Value) (V : World), (callFunc G args).run Tryz.prog V = .ok (.enter G args) V) (hc : IvC V V.heap.size a c)
  (hbx : V.cell? ⟨bx, 0, none⟩ = some (.func (.func G) #[] #[])) (hG : ∀ V', Below V.heap.size V V' → Calls Tryz.prog G #[(c.getD 0 undef)] V' fun e w' => e = .returned (.bool (Pf a)) ∧ Below V'.heap.size V' w') :
  Calls Tryz.prog 206 #[(c.getD 0 undef), .pointer (some ⟨bx, 0, none⟩)] V fun e w' => e = .returned (.bool (!Pf a)) ∧ Below V.heap.size V w' := by
 obtain ⟨q, hq⟩ : ∃ q, q = Pf a := ⟨_, rfl⟩
 rw [← hq] at hG ⊢
 obtain ⟨el, hel⟩ : ∃ x, x = a := ⟨_, rfl⟩
 rw [← hel] at hc
 have CFN := hG
 have hcc := hc
 have hlt : bx < V.heap.size := block_lt_of_cell hbx
 clear hG hc hq hel
 have hcc2 : c = _ := hcc
 subst hcc2
 clear hcc
 have CF := Lib.hid CFN
 have hc0 := fun V => hcf #[.int .i64 el] V
 clear CFN hcf
 show Calls Tryz.prog 206 #[.int .i64 el, .pointer (some ⟨bx, 0, none⟩)] V _
 go_enter Tryz.func206, Tryz.ntmps206
 go_wp2_with fail
 refine (CF.out _ (Below.refl _ _)).mono ?_
 rintro e w2 ⟨rfl, hb⟩
 have HB := Lib.hid (hb)
 clear hb CF hc0
 cases q with
 | true =>
  go_wp2_with fail
  go_ret
  exact ⟨rfl, HB.out⟩
 | false =>
  go_wp2_with fail
  go_ret
  exact ⟨rfl, HB.out⟩
set_option maxHeartbeats 4000000 in
theorem gVlIv_any (G : FuncId)  (Pf : Int → Bool) (A : Option Addr) (cap : Nat) (l : List Int) (most : Int) (w : World) (hr : RowAt IvC 1 w A l) (hl : l.length ≤ 1000000000) (hcf : ∀ (args : Array Value) (V : World), (callFunc G args).run Tryz.prog V = .ok (.enter G args) V)
  (hG : ∀ a ∈ l, ∀ (c : List Value) (V : World), Below w.heap.size w V → IvC V V.heap.size a c → Calls Tryz.prog G #[(c.getD 0 undef)] V fun e w' => e = .returned (.bool (Pf a)) ∧ Below V.heap.size V w') :
  Calls Tryz.prog 192 #[.slice A l.length cap, .int .i64 most, .func (.func G) #[] #[]] w fun e w' => e = .returned (.bool (decide ((l.length : Int) ≤ most) && l.all Pf)) ∧ Below w.heap.size w w' := by
 have hw1 : Below w.heap.size w (w.alloc (.cells #[.func (.func G) #[] #[]] 219)) := (Below.refl _ _).alloc (Nat.le_refl _) _
 have hbx0 : (w.alloc (.cells #[.func (.func G) #[] #[]] 219)).cell? ⟨w.heap.size, 0, none⟩ = some (.func (.func G) #[] #[]) := (Blk.new w [.func (.func G) #[] #[]] _).cell 0 _ rfl
 obtain ⟨w1, hw⟩ : ∃ x, x = w.alloc (.cells #[.func (.func G) #[] #[]] 219) := ⟨_, rfl⟩
 rw [← hw] at hw1 hbx0
 have hs1 : w1.heap.size = w.heap.size + 1 := by rw [hw, World.size_alloc]
 have cC := gConIv_any 206 (.pointer (some ⟨w.heap.size, 0, none⟩)) (fun a => !Pf a) A cap l w1 (hr.below IvC.stays hw1) hl (fun _ _ => rfl) (fun a ha c V hb hc => by
  refine gInvIv_any G Pf a c w.heap.size V hcf hc ((hb.cell (p := ⟨w.heap.size, 0, none⟩) (by show w.heap.size < w1.heap.size; omega)).trans hbx0) (fun V' hV' => ?_)
  have hbV : Below w.heap.size w V := hw1.trans (hb.mono (by omega))
  exact hG a ha c V' (hbV.trans (hV'.mono hbV.size)) (IvC.stays V V' a c hc hV'))
 have hany : l.any (fun a => !Pf a) = !l.all Pf := by rw [List.not_all_eq_any_not]
 rw [hany] at cC
 obtain ⟨N, hN⟩ : ∃ N, N = l.length := ⟨_, rfl⟩
 obtain ⟨z, hz⟩ : ∃ z, z = l.all Pf := ⟨_, rfl⟩
 rw [← hN, ← hz] at cC
 rw [← hN, ← hz]
 have C := Lib.hid cC
 rw [hw] at C
 have HW := Lib.hid hw1
 rw [hw] at HW
 clear hr hl hcf hG cC hN hz hany hw1 hbx0 hs1 hw
 by_cases hle : (N : Int) ≤ most
 ·have HLE := Lib.hid hle
  go_enter Tryz.func192, Tryz.ntmps192
  go_wp2_with fail
  refine C.out.mono ?_
  rintro e w2 ⟨rfl, hb⟩
  have HB := Lib.hid (HW.out.trans (hb.mono HW.out.size))
  clear hb C
  cases z with
  | true =>
   go_wp2_with fail
   go_ret
   exact ⟨by rw [decide_eq_true (by have := HLE.out; omega)]; rfl, HB.out⟩
  | false =>
   go_wp2_with fail
   go_ret
   exact ⟨by rw [Bool.and_false]; rfl, HB.out⟩
 ·have HLE := Lib.hid hle
  clear C
  go_enter Tryz.func192, Tryz.ntmps192
  go_wp2_with fail
  go_ret
  exact ⟨by rw [decide_eq_false (by have := HLE.out; omega)]; rfl, HW.out⟩

set_option maxHeartbeats 4000000 in
theorem gIdxMv_any (H : FuncId) (cv : Value) (Pf : (Int × Int) → Bool) (A : Option Addr) (cap : Nat) (l : List (Int × Int)) (w : World) (hr : RowAt MvC 2 w A l) (hl : l.length ≤ 1000000000) (hcf : ∀ (args : Array Value) (V : World), (callFunc H args).run Tryz.prog V = .ok (.enter H args) V)
  (hF : ∀ a ∈ l, ∀ (c : List Value) (V : World), Below w.heap.size w V → MvC V V.heap.size a c → Calls Tryz.prog H #[(.agg c.toArray), cv] V fun e w' => e = .returned (.bool (Pf a)) ∧ Below V.heap.size V w') :
  Calls Tryz.prog 195 #[.slice A l.length cap, .func (.func H) #[] #[cv]] w fun e w' => ∃ r : Int, e = .returned (.int .i64 r) ∧ decide (0 ≤ r) = l.any Pf ∧ Below w.heap.size w w' := by
 obtain ⟨N, hN⟩ : ∃ N, N = l.length := ⟨_, rfl⟩
 rw [← hN] at hl ⊢
 have HR := Lib.hid hr
 have HF := Lib.hid hF
 have HCF := Lib.hid hcf
 have HN := Lib.hid hN
 clear hr hF hcf hN
 go_enter Tryz.func195, Tryz.ntmps195
 go_wp2_with fail
 go_loopw [8] (fun i wr => ∃ j : Nat, j ≤ N ∧ i = .int .i64 j ∧ (l.take j).any Pf = false ∧ Below w.heap.size w wr) (fun i _ => N - (intOf i).toNat)
 case atStart => exact ⟨0, Nat.zero_le _, rfl, rfl, Below.refl _ _⟩
 case round =>
  obtain ⟨j, hj, rfl, ha, hb⟩ := hrel
  obtain ⟨wo, rfl⟩ : ∃ wo : World, wo = wr := ⟨_, rfl⟩
  have HA := Lib.hid (And.intro ha hb)
  clear ha hb
  by_cases hlt : j < N
  ·have hlt2 : j < l.length := by rw [← HN.out]; exact hlt
   obtain ⟨el, hg⟩ : ∃ a, l[j]? = some a := ⟨_, List.getElem?_eq_getElem hlt2⟩
   have hs := any_take_succ Pf l j _ hg
   have ht := any_true Pf l j _ hg
   obtain ⟨b, off, c, rfl, hbl, hcc, HCN⟩ := (HR.out.below MvC.stays HA.out.2) j el hg
   have CFN := HF.out el (List.mem_of_getElem? hg) c wo HA.out.2 hcc
   obtain ⟨q, hq⟩ : ∃ q, q = Pf el := ⟨_, rfl⟩
   rw [← hq] at CFN hs ht
   have HQ := Lib.hid (And.intro hs ht)
   clear hs ht hg hlt2 hq hbl
   have hcc2 : c = _ := hcc
   subst hcc2
   obtain ⟨ea, eb⟩ := el
   dsimp only at HCN CFN ⊢
   clear hcc
   have d0 : wo.cell? ⟨b, off + j * 2, none⟩ = some _ := HCN 0 _ rfl
   have d1 := HCN 1 _ rfl
   have CF := Lib.hid CFN
   have hc0 := HCF.out #[.agg #[.int .i64 ea, .int .i64 eb], cv] wo
   have j1 : (j : Int) < N := by omega
   clear HCN CFN
   go_wp2_with fail
   refine CF.out.mono ?_
   rintro e w2 ⟨rfl, hb2⟩
   have HB := Lib.hid (HA.out.2.trans (hb2.mono HA.out.2.size))
   clear hb2 CF hc0 d0 d1
   cases q with
   | true =>
    go_wp2_with fail
    go_ret
    exact ⟨_, rfl, by rw [HQ.out.2 (by first | rfl | trivial)]; exact decide_eq_true (by omega), HB.out⟩
   | false =>
    go_wp2_with fail
    go_roundw
    case rel => exact ⟨j + 1, by omega, by go_num, by rw [HQ.out.1, HA.out.1]; rfl, HB.out⟩
    case measure => simp [intOf]; omega
  ·obtain rfl : j = N := by omega
   have hli : ¬ (j : Int) < j := by omega
   have hall : l.any Pf = false := by have := HA.out.1; rwa [HN.out, List.take_length] at this
   have HH := Lib.hid hall
   clear hall
   go_wp2_with fail
   go_ret
   exact ⟨_, rfl, by rw [HH.out]; rfl, HA.out.2⟩
set_option maxHeartbeats 2000000 in
theorem gConMv_any (H : FuncId) (cv : Value) (Pf : (Int × Int) → Bool) (A : Option Addr) (cap : Nat) (l : List (Int × Int)) (w : World) (hr : RowAt MvC 2 w A l) (hl : l.length ≤ 1000000000) (hcf : ∀ (args : Array Value) (V : World), (callFunc H args).run Tryz.prog V = .ok (.enter H args) V)
  (hF : ∀ a ∈ l, ∀ (c : List Value) (V : World), Below w.heap.size w V → MvC V V.heap.size a c → Calls Tryz.prog H #[(.agg c.toArray), cv] V fun e w' => e = .returned (.bool (Pf a)) ∧ Below V.heap.size V w') :
  Calls Tryz.prog 176 #[.slice A l.length cap, .func (.func H) #[] #[cv]] w fun e w' => e = .returned (.bool (l.any Pf)) ∧ Below w.heap.size w w' := by
 have C := Lib.hid (gIdxMv_any H cv Pf A cap l w hr hl hcf hF)
 obtain ⟨N, hN⟩ : ∃ N, N = l.length := ⟨_, rfl⟩
 obtain ⟨z, hz⟩ : ∃ z, z = l.any Pf := ⟨_, rfl⟩
 rw [← hN, ← hz] at C
 rw [← hN, ← hz]
 clear hr hl hcf hF hN hz
 go_enter Tryz.func176, Tryz.ntmps176
 go_wp2_with fail
 refine C.out.mono ?_
 rintro e w' ⟨r, rfl, hi, hw'⟩
 have HI := Lib.hid (And.intro hi hw')
 clear hi C hw'
 go_wp2_with fail
 go_ret
 exact ⟨by rw [← HI.out.1]; rfl, HI.out.2⟩
set_option maxHeartbeats 4000000 in
theorem gInvMv_any (G : FuncId) (gv : Value) (Pf : (Int × Int) → Bool) (a : (Int × Int)) (c : List Value) (bx : Nat) (V : World) (hcf : ∀ (args : Array Value) (V : World), (callFunc G args).run Tryz.prog V = .ok (.enter G args) V) (hc : MvC V V.heap.size a c)
  (hbx : V.cell? ⟨bx, 0, none⟩ = some (.func (.func G) #[] #[gv])) (hG : ∀ V', Below V.heap.size V V' → Calls Tryz.prog G #[(.agg c.toArray), gv] V' fun e w' => e = .returned (.bool (Pf a)) ∧ Below V'.heap.size V' w') :
  Calls Tryz.prog 175 #[(.agg c.toArray), .pointer (some ⟨bx, 0, none⟩)] V fun e w' => e = .returned (.bool (!Pf a)) ∧ Below V.heap.size V w' := by
 obtain ⟨q, hq⟩ : ∃ q, q = Pf a := ⟨_, rfl⟩
 rw [← hq] at hG ⊢
 obtain ⟨el, hel⟩ : ∃ x, x = a := ⟨_, rfl⟩
 rw [← hel] at hc
 have CFN := hG
 have hcc := hc
 have hlt : bx < V.heap.size := block_lt_of_cell hbx
 clear hG hc hq hel
 have hcc2 : c = _ := hcc
 subst hcc2
 obtain ⟨ea, eb⟩ := el
 dsimp only at CFN ⊢
 clear hcc
 have CF := Lib.hid CFN
 have hc0 := fun V => hcf #[.agg #[.int .i64 ea, .int .i64 eb], gv] V
 clear CFN hcf
 go_enter Tryz.func175, Tryz.ntmps175
 go_wp2_with fail
 refine (CF.out _ ((Below.refl _ _).alloc (Nat.le_refl _) _)).mono ?_
 rintro e w2 ⟨rfl, hb⟩
 have HB := Lib.hid (((Below.refl V.heap.size V).alloc (Nat.le_refl _) _).trans (hb.mono (by simp)))
 clear hb CF hc0
 cases q with
 | true =>
  go_wp2_with fail
  go_ret
  exact ⟨rfl, HB.out⟩
 | false =>
  go_wp2_with fail
  go_ret
  exact ⟨rfl, HB.out⟩
set_option maxHeartbeats 4000000 in
theorem gVlMv_any (G : FuncId) (gv : Value) (Pf : (Int × Int) → Bool) (A : Option Addr) (cap : Nat) (l : List (Int × Int)) (most : Int) (w : World) (hr : RowAt MvC 2 w A l) (hl : l.length ≤ 1000000000) (hcf : ∀ (args : Array Value) (V : World), (callFunc G args).run Tryz.prog V = .ok (.enter G args) V)
  (hG : ∀ a ∈ l, ∀ (c : List Value) (V : World), Below w.heap.size w V → MvC V V.heap.size a c → Calls Tryz.prog G #[(.agg c.toArray), gv] V fun e w' => e = .returned (.bool (Pf a)) ∧ Below V.heap.size V w') :
  Calls Tryz.prog 142 #[.slice A l.length cap, .int .i64 most, .func (.func G) #[] #[gv]] w fun e w' => e = .returned (.bool (decide ((l.length : Int) ≤ most) && l.all Pf)) ∧ Below w.heap.size w w' := by
 have hw1 : Below w.heap.size w (w.alloc (.cells #[.func (.func G) #[] #[gv]] 179)) := (Below.refl _ _).alloc (Nat.le_refl _) _
 have hbx0 : (w.alloc (.cells #[.func (.func G) #[] #[gv]] 179)).cell? ⟨w.heap.size, 0, none⟩ = some (.func (.func G) #[] #[gv]) := (Blk.new w [.func (.func G) #[] #[gv]] _).cell 0 _ rfl
 obtain ⟨w1, hw⟩ : ∃ x, x = w.alloc (.cells #[.func (.func G) #[] #[gv]] 179) := ⟨_, rfl⟩
 rw [← hw] at hw1 hbx0
 have hs1 : w1.heap.size = w.heap.size + 1 := by rw [hw, World.size_alloc]
 have cC := gConMv_any 175 (.pointer (some ⟨w.heap.size, 0, none⟩)) (fun a => !Pf a) A cap l w1 (hr.below MvC.stays hw1) hl (fun _ _ => rfl) (fun a ha c V hb hc => by
  refine gInvMv_any G gv Pf a c w.heap.size V hcf hc ((hb.cell (p := ⟨w.heap.size, 0, none⟩) (by show w.heap.size < w1.heap.size; omega)).trans hbx0) (fun V' hV' => ?_)
  have hbV : Below w.heap.size w V := hw1.trans (hb.mono (by omega))
  exact hG a ha c V' (hbV.trans (hV'.mono hbV.size)) (MvC.stays V V' a c hc hV'))
 have hany : l.any (fun a => !Pf a) = !l.all Pf := by rw [List.not_all_eq_any_not]
 rw [hany] at cC
 obtain ⟨N, hN⟩ : ∃ N, N = l.length := ⟨_, rfl⟩
 obtain ⟨z, hz⟩ : ∃ z, z = l.all Pf := ⟨_, rfl⟩
 rw [← hN, ← hz] at cC
 rw [← hN, ← hz]
 have C := Lib.hid cC
 rw [hw] at C
 have HW := Lib.hid hw1
 rw [hw] at HW
 clear hr hl hcf hG cC hN hz hany hw1 hbx0 hs1 hw
 by_cases hle : (N : Int) ≤ most
 ·have HLE := Lib.hid hle
  go_enter Tryz.func142, Tryz.ntmps142
  go_wp2_with fail
  refine C.out.mono ?_
  rintro e w2 ⟨rfl, hb⟩
  have HB := Lib.hid (HW.out.trans (hb.mono HW.out.size))
  clear hb C
  cases z with
  | true =>
   go_wp2_with fail
   go_ret
   exact ⟨by rw [decide_eq_true (by have := HLE.out; omega)]; rfl, HB.out⟩
  | false =>
   go_wp2_with fail
   go_ret
   exact ⟨by rw [Bool.and_false]; rfl, HB.out⟩
 ·have HLE := Lib.hid hle
  clear C
  go_enter Tryz.func142, Tryz.ntmps142
  go_wp2_with fail
  go_ret
  exact ⟨by rw [decide_eq_false (by have := HLE.out; omega)]; rfl, HW.out⟩
end Go.Proofs.YtkgddcemocfgfaaGreatDoor
end

