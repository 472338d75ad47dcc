import Derived.Maps.AppendAt
import Derived.Test.YtkelfcgomeojeaaDoorJSignPo
import Derived.Test.YtkelfcgomeojeaaDoorJSignRk

section
/- The reference's levels. -/



namespace Go.Proofs.YtkelfcgomeojeaaDoor
open Go.RowKit
set_option linter.unusedVariables false
set_option maxRecDepth 100000

/-- The rows so far. -/
structure LvO (w0 : World) (sd : List UInt8) (h l : Nat) (out : Value) (vs : List Value) (w : World) : Prop where
  own : w.ownsRow w0.heap.size 47 1 out (l + 1) vs
  rows : ∀ j, j ≤ l → ∃ g, Row1 sd j (2 ^ (h - j)) w (vs.getD j undef) g ∧ out.ownBlock ≠ some g
  bel : Below w0.heap.size w0 w
theorem LvO.below {w0 : World} {sd : List UInt8} {h l : Nat} {out : Value} {vs : List Value} {w w' : World} (H : LvO w0 sd h l out vs w) (hb : Below w.heap.size w w') : LvO w0 sd h l out vs w' :=
  ⟨own_below H.own hb (Nat.le_refl _), fun j hj => by obtain ⟨g, h1, h2⟩ := H.rows j hj; exact ⟨g, h1.below hb, h2⟩, H.bel.trans (hb.mono H.bel.size)⟩
theorem one_row (u : Value) (n : Nat) (g cap : Nat) (h : u = .slice (some ⟨g, 0, none⟩) n cap) : u.oneCell' = true := by rw [h]; rfl
theorem build_row (w : World) (A : Option Addr) (n c : Nat) : (Instr.buildSlice 48 1 #[(0, .slice A n c)]).run Tryd.prog w = .ok (.slice (some ⟨w.heap.size, 0, none⟩) 1 1) (w.alloc (.cells #[.slice A n c] 47)) := by
  go_simp
theorem wpList_build_dig {ops : Array Oper} {rest : List Oper} {o : Oper} {a : Act} {w : World} {Q : Exit → Act → World → Prop} (hg : o.guard = none) (x : Operand) (ho : o.op = .buildSlice 47 1 #[(0, x)]) (L : List Value) (hL : L.length = 16) (hx : a.eval x = .agg L.toArray)
    (h : wpList Tryd.prog ops Q rest (a.put o.dst (.slice (some ⟨w.heap.size, 0, none⟩) 1 1)) (w.alloc (.cells L.toArray 23))) : wpList Tryd.prog ops Q (o :: rest) a w := by
  refine wpList_plain hg fun K hK => ?_
  unfold Oper.wp execOp
  simp only [ho, List.map_toArray, List.map_cons, List.map_nil, hx, Sem.run_bind, build_dig w L hL, Result.andThen_ok]
  exact hK _ _ h
theorem at_row (w : World) (o l n cap : Nat) (hl : l < n) : (Instr.indexAt 48 (.slice (some ⟨o, 0, none⟩) n cap) (.int .i64 l)).run Tryd.prog w = .ok (.pointer (some ⟨o, l, none⟩)) w := by
  have h1 : (l : Int) < n := by omega
  have h2 : (0 : Int) ≤ l := by omega
  go_simp
theorem get_row (w : World) (o l : Nat) (A : Option Addr) (n c : Nat) (h : w.cell? ⟨o, l, none⟩ = some (.slice A n c)) : (Instr.loadAt 47 (.pointer (some ⟨o, l, none⟩))).run Tryd.prog w = .ok (.slice A n c) w := by
  go_simp
theorem at_dig (w : World) (g k n cap : Nat) (hk : k < n) : (Instr.indexAt 47 (.slice (some ⟨g, 0, none⟩) n cap) (.int .i64 k)).run Tryd.prog w = .ok (.pointer (some ⟨g, 16 * k, none⟩)) w := by
  have h1 : (k : Int) < n := by omega
  have h2 : (0 : Int) ≤ k := by omega
  have h3 : (Tryd.prog.info? 23).map (·.size) = some 16 := by kernel_rfl
  go_simp
theorem load_dig (w : World) (b o : Nat) (L : List Value) (h : w.rangeAt b o L) (hL : L.length = 16) : (Instr.loadAt 23 (.pointer (some ⟨b, o, none⟩))).run Tryd.prog w = .ok (.agg L.toArray) w :=
  run_loadAt_mid (P := Tryd.prog) w b o 23 L _ h Tryd.underlying23 rfl (by rw [hL]; kernel_rfl)
/-- A slice of one digest in a row of its own. -/
def Fact.one16 (cs : Array Value) : Fact :=
  ⟨fun v w => ∃ b, v = .slice (some ⟨b, 0, none⟩) 1 1 ∧ w.heap[b]? = some (.cells cs 23 (0, 0)), fun _ _ _ ⟨b, h1, h3⟩ hb => ⟨b, h1, (hb.block b (Array.getElem?_eq_some_iff.1 h3).1).trans h3⟩⟩

theorem LvO.grow {w WO wr w7 : World} {sd : List UInt8} {h l n o ocap g1 : Nat} {vs : List Value} {u v' : Value} (H : LvO w sd h l (.slice (some ⟨o, 0, none⟩) (l + 1) ocap) vs WO) (hbel : Below WO.heap.size WO wr) (hrow1 : Row1 sd (l + 1) n wr u g1) (hg : WO.heap.size ≤ g1) (ho : o < WO.heap.size) (hwo : w.heap.size ≤ o) (hn : n = 2 ^ (h - l - 1)) (hlen : vs.length = l + 1) (obj : Obj)
    (hown7 : w7.ownsRow w.heap.size 47 1 v' (l + 1 + 1) (vs ++ [u])) (hgrow7 : (wr.alloc obj).grownBy w7 (Value.ownBlock (.slice (some ⟨o, 0, none⟩) (l + 1) ocap))) (hat7 : v'.ownBlock = Value.ownBlock (.slice (some ⟨o, 0, none⟩) (l + 1) ocap) ∨ v'.ownBlock = some (wr.alloc obj).heap.size) : LvO w sd h (l + 1) v' (vs ++ [u]) w7 := by
  have eo : Value.ownBlock (.slice (some ⟨o, 0, none⟩) (l + 1) ocap) = some o := rfl
  rw [eo] at hgrow7 hat7
  have hsz : (wr.alloc obj).heap.size = wr.heap.size + 1 := World.size_alloc _ _
  have hkeep : ∀ gj, gj < wr.heap.size → gj ≠ o → w7.heap[gj]? = wr.heap[gj]? := fun gj h1 h2 =>
    (hgrow7.block gj (by omega) (fun e => h2 (Option.some.inj e))).trans (Below.heap_alloc wr obj gj h1)
  have hs7 : wr.heap.size ≤ w7.heap.size := by have := hgrow7.size; omega
  have hapart : ∀ gj, gj < wr.heap.size → gj ≠ o → v'.ownBlock ≠ some gj := fun gj h1 h2 e => by
    rcases hat7 with h3 | h3 <;> rw [h3] at e <;> have := Option.some.inj e <;> omega
  refine ⟨hown7, fun j hj => ?_, ?_⟩
  · by_cases hjl : j ≤ l
    · obtain ⟨gj, hrj, hgj⟩ := H.rows j hjl
      have hgl : gj < WO.heap.size := by obtain ⟨_, _, _, _, h4, _⟩ := hrj; exact h4
      have hoj : gj ≠ o := fun e => hgj (by rw [e]; rfl)
      have hgw : gj < wr.heap.size := Nat.lt_of_lt_of_le hgl hbel.size
      rw [List.getD_eq_getElem?_getD, List.getElem?_append_left (by omega), ← List.getD_eq_getElem?_getD]
      exact ⟨gj, hrj.keep (Nat.le_trans hbel.size hs7) ((hkeep gj hgw hoj).trans (hbel.block gj hgl)), hapart gj hgw hoj⟩
    · have hj1 : j = l + 1 := by omega
      have hgw : g1 < wr.heap.size := by obtain ⟨_, _, _, _, h4, _⟩ := hrow1; exact h4
      have hoj : g1 ≠ o := by omega
      rw [hj1, List.getD_eq_getElem?_getD, List.getElem?_append_right (by omega), hlen, Nat.sub_self, ← Nat.sub_sub, ← hn]
      exact ⟨g1, hrow1.keep hs7 (hkeep g1 hgw hoj), hapart g1 hgw hoj⟩
  · have b1 := H.bel.trans (hbel.mono H.bel.size)
    exact (b1.alloc b1.size obj).grown hgrow7 (by have := b1.size; omega) (fun k hk => by have := Option.some.inj hk; omega)

set_option maxHeartbeats 8000000 in
theorem refLevels_any (s : ByteArray) (h : Nat) (w : World) (hs : s.size ≤ 1000) (hh : h ≤ 6) (hR : RTab w) :
    Calls Tryd.prog 24 #[.string s, .int .i64 (h : Int)] w fun e w' => ∃ v vs, e = .returned v ∧ LvO w (sb s) h h v vs w' := by
  obtain ⟨i0, hi, hz0, hz1, hz2⟩ := info_parts info_dig
  obtain ⟨j0, hj, hy0, hy1, hy2⟩ := info_parts info_row
  obtain ⟨sd, hsd⟩ : ∃ sd, sd = sb s := ⟨_, rfl⟩
  have c1 := fun i W hi h => refLeaf_any s i W hs hi h
  rw [← hsd] at c1 ⊢
  have h64 : 2 ^ h ≤ 64 := Nat.pow_le_pow_right (n := 2) (by decide) hh
  obtain ⟨P, hP⟩ : ∃ P, P = 2 ^ h := ⟨_, rfl⟩
  have hw : wrap64 ((2 : Int) ^ h) = (P : Int) := by
    rw [hP, ← w64 (2 ^ h) (by omega)]
    simp
  have hPp : 0 < P := by rw [hP]; exact Nat.two_pow_pos h
  have hP64 : P ≤ 64 := by omega
  have C1 := Lib.hid c1
  have HR := Lib.hid hR
  have HP := Lib.hid (And.intro hP hh)
  clear c1 hR hsd hs h64 hP
  go_enter Tryd.func24, Tryd.ntmps24
  go_wp2_with fail
  go_loopw [5, 6] (fun f i wr => ∃ k : Nat, k ≤ P ∧ i = .int .i64 k ∧ wr.ownsRow w.heap.size 23 16 f k (rowD sd 0 k) ∧ Below w.heap.size w wr) (fun _ i _ => P - (intOf i).toNat)
  case atStart => exact ⟨0, by omega, rfl, ⟨by simp [rowD], .inl ⟨rfl, rfl⟩⟩, Below.refl _ _⟩
  case round =>
    obtain ⟨k, hk, rfl, hown, hbel⟩ := hrel
    by_cases hlt : k < P
    · have ik : (k : Int) < P := by omega
      obtain ⟨L, hL⟩ : ∃ L, L = (Sg.leaf sd k).map bv := ⟨_, rfl⟩
      have lL : L.length = 16 := by rw [hL, List.length_map]; exact Sg.of_len _ _
      have oL : ∀ u ∈ L, u.oneCell' = true := by rw [hL]; exact bytes_one _
      have c := C1.out k wr (by omega) (HR.out.below hbel (Nat.le_refl _))
      rw [← hL] at c
      have hsucc : rowD sd 0 (k + 1) = rowD sd 0 k ++ L := by rw [rowD_succ, hL]; rfl
      have C := Lib.hid c
      have K := Lib.hid (And.intro hown hbel)
      have HL := Lib.hid (And.intro lL (And.intro oL hsucc))
      clear c hown hbel hL lL oL hsucc
      go_wp2_with fail
      refine C.out.mono ?_
      rintro e w2 ⟨rfl, hb2⟩
      have own2 := own_below K.out.1 hb2 (Nat.le_refl _)
      have bel2 := K.out.2.trans (hb2.mono K.out.2.size)
      have hbs := build_dig w2 L HL.out.1
      have own3 := own2.alloc (.cells L.toArray 23)
      have bel3 := bel2.alloc bel2.size (.cells L.toArray 23)
      have hcell : ∀ (j : Nat) (u : Value), L[j]? = some u → (w2.alloc (.cells L.toArray 23)).cell? ((⟨w2.heap.size, 0, none⟩ : Addr).add j) = some u := fun j u hu => cells_new w2 L _ j u hu
      have K3 := Lib.hid (And.intro own3 (And.intro bel3 hcell))
      have hl16 : L.length = 1 * 16 := HL.out.1
      have oL := HL.out.2.1
      clear hb2 own2 bel2 own3 bel3 hcell K C
      go_wp2_with (first
        | (refine wpList_build_dig rfl (.tmp 20) rfl L HL.out.1 rfl ?_)
        | (at_builtin; refine wpList_append_own_at _ rfl (.tmp 17) (.tmp 21) 47 rfl w.heap.size 23 i0 _ 16 16 Tryd.underlying47 hi hz0 hz1 hz2 rfl (by decide) _ k (rowD sd 0 k) rfl K3.out.1 ⟨w2.heap.size, 0, none⟩ 1 1 L rfl hl16 K3.out.2.2 oL (by unfold maxLen; omega) (by omega) K3.out.2.1.size ?_; intro v' w4 hown4 hgrow4 _ _))
      have bel4 := K3.out.2.1.grown hgrow4 K3.out.2.1.size (fun j hj => (K3.out.1.lt j hj).1)
      rw [← HL.out.2.2] at hown4
      exact ⟨⟨k + 1, by omega, by go_num, hown4, bel4⟩, by simp [intOf]; omega⟩
    · have hkP : k = P := by omega
      have ik : (P : Int) ≤ k := by omega
      rw [hkP] at hown
      obtain ⟨g, hrow, hob, hgb⟩ := own_row1 hown hPp
      obtain ⟨cap, rfl, hcap, hcm, hgs, hcells⟩ := hrow
      have hrow : Row1 sd 0 P wr (.slice (some ⟨g, 0, none⟩) P cap) g := ⟨cap, rfl, hcap, hcm, hgs, hcells⟩
      have hbs := build_row wr (some ⟨g, 0, none⟩) P cap
      have hal : Below wr.heap.size wr (wr.alloc (.cells #[.slice (some ⟨g, 0, none⟩) P cap] 47)) := (Below.refl _ _).alloc (Nat.le_refl _) _
      have hO : LvO w sd h 0 (.slice (some ⟨wr.heap.size, 0, none⟩) 1 1) [.slice (some ⟨g, 0, none⟩) P cap] (wr.alloc (.cells #[.slice (some ⟨g, 0, none⟩) P cap] 47)) := by
        refine ⟨⟨rfl, .inr ⟨wr.heap.size, 1, _, rfl, hbel.size, heap_alloc_new wr _, Nat.le_refl _, by decide, rfl, rfl⟩⟩, fun j hj => ?_, hbel.trans (hal.mono hbel.size)⟩
        rw [show j = 0 by omega, Nat.sub_zero, ← HP.out.1]
        refine ⟨g, hrow.below hal, fun e => ?_⟩
        have e2 : wr.heap.size = g := Option.some.inj e
        omega
      have HO := Lib.hid hO
      clear hown hbel hob hgb hcap hcm hgs hcells hrow hal hO hkP
      go_wp2_with fail
      clear hw
      go_loopw [7, 8, 9, 10] (fun out l _ _ wx => ∃ (m : Nat) (vs : List Value), m ≤ h ∧ l = .int .i64 m ∧ LvO w sd h m out vs wx) (fun _ l _ _ _ => h - (intOf l).toNat)
      case atStart => exact ⟨0, _, by omega, rfl, HO.out⟩
      case round =>
        clear HO
        obtain ⟨l, vs, hl, rfl, hO⟩ := hrel
        obtain ⟨WO, hWO⟩ : ∃ W, W = wr := ⟨_, rfl⟩
        subst hWO
        by_cases hll : l < h
        · have il : (l : Int) < h := by omega
          obtain ⟨n, hn⟩ : ∃ n, n = 2 ^ (h - l - 1) := ⟨_, rfl⟩
          obtain ⟨n2, hn22⟩ : ∃ n2, n2 = 2 * n := ⟨_, rfl⟩
          have hn2 : 2 ^ (h - l) = n2 := by rw [hn22, hn, show h - l = (h - l - 1) + 1 by omega, Nat.pow_succ, Nat.mul_comm]; simp
          have hn0 : 0 < n := by rw [hn]; exact Nat.two_pow_pos _
          have hn64 : n ≤ 64 := by rw [hn]; exact Nat.pow_le_pow_right (n := 2) (by decide) (show h - l - 1 ≤ 6 by omega)
          obtain ⟨o, ocap, rfl, hob, hog, hoc, hom, hocell⟩ := own_form hO.own (by omega)
          obtain ⟨ug, hrow, hug⟩ := hO.rows l (Nat.le_refl _)
          rw [hn2] at hrow
          obtain ⟨u, hu⟩ : ∃ u, u = vs.getD l undef := ⟨_, rfl⟩
          rw [← hu] at hrow
          have hlen : vs.length = l + 1 := by have := hO.own.1; omega
          have hvl : vs[l]? = some u := by rw [List.getElem?_eq_getElem (by omega), hu]; simp [hlen]
          have hol : WO.cell? ⟨o, l, none⟩ = some u := by have := hocell l u hvl; rw [Addr.add_mid, Nat.zero_add] at this; exact this
          obtain ⟨ucap, rfl, huc, hum, hugs, hucells⟩ := hrow
          have hrow : Row1 sd l n2 WO (.slice (some ⟨ug, 0, none⟩) n2 ucap) ug := ⟨ucap, rfl, huc, hum, hugs, hucells⟩
          have HO := Lib.hid hO
          have K0 := Lib.hid (And.intro hrow (And.intro hol hog))
          have HN := Lib.hid (And.intro hn (And.intro hn2 (And.intro hlen (And.intro hob hoc))))
          have hoc' : ((l + 1 : Nat) : Int) ≤ ocap := by omega
          have HN2 := Lib.hid hn22
          clear hO hn hn2 hn22 hob hog hom hocell hug hu hlen hvl hol huc hum hugs hucells hrow hbs
          go_wp2_with fail
          go_loopw [9, 10] (fun nx i wy => ∃ k k2 : Nat, k ≤ n ∧ k2 = 2 * k ∧ i = .int .i64 (k2 : Int) ∧ wy.ownsRow WO.heap.size 23 16 nx k (rowD sd (l + 1) k) ∧ Below WO.heap.size WO wy) (fun _ i _ => n2 - (intOf i).toNat)
          case atStart => exact ⟨0, 0, by omega, rfl, rfl, ⟨by simp [rowD], .inl ⟨rfl, rfl⟩⟩, Below.refl _ _⟩
          case round =>
            obtain ⟨kk, k2, hkk, hk2, rfl, hown, hbel⟩ := hrel
            have har := fun W => at_row W o l (l + 1) ocap (by omega)
            have hcl : ∀ W, Below WO.heap.size WO W → W.cell? ⟨o, l, none⟩ = some (.slice (some ⟨ug, 0, none⟩) n2 ucap) := fun W hW => by
              rw [hW.cell (p := ⟨o, l, none⟩) K0.out.2.2]; exact K0.out.2.1
            have hgr := fun W hW => get_row W o l (some ⟨ug, 0, none⟩) n2 ucap (hcl W hW)
            have hcl1 := hcl wr hbel
            have il1 : (l : Int) < ((l + 1 : Nat) : Int) := by omega
            have AR := Lib.hid har
            have GR := Lib.hid hgr
            have K := Lib.hid (And.intro hown hbel)
            clear har hgr hcl hown hbel
            by_cases hlt : kk < n
            · have ik : (k2 : Int) + 1 < n2 := by have := HN2.out; omega
              have hk128 : k2 ≤ 126 := by omega
              have hkl : k2 + 1 < n2 := by have := HN2.out; omega
              have HK2 := Lib.hid hk2
              clear hk2
              obtain ⟨AV, hAV⟩ : ∃ V, V = (Sg.tree sd l k2).map bv := ⟨_, rfl⟩
              obtain ⟨BV, hBV⟩ : ∃ V, V = (Sg.tree sd l (k2 + 1)).map bv := ⟨_, rfl⟩
              obtain ⟨NV, hNV⟩ : ∃ V, V = (Sg.node (Sg.tree sd l k2) (Sg.tree sd l (k2 + 1))).map bv := ⟨_, rfl⟩
              have hsucc : rowD sd (l + 1) (kk + 1) = rowD sd (l + 1) kk ++ NV := by rw [rowD_succ, hNV, HK2.out]; rfl
              have cn := fun W hW => refNode_any (Sg.tree sd l k2) (Sg.tree sd l (k2 + 1)) W (tree_len _ _ _) (tree_len _ _ _) hW
              rw [← hAV, ← hBV, ← hNV] at cn
              have r2 : ∀ W, Below WO.heap.size WO W → W.rangeAt ug (16 * k2) AV ∧ W.rangeAt ug (16 * (k2 + 1)) BV := fun W hW => by
                have hr := K0.out.1.below hW
                rw [hAV, hBV]
                exact ⟨hr.range k2 (by omega), hr.range (k2 + 1) hkl⟩
              have hl : AV.length = 16 ∧ BV.length = 16 ∧ NV.length = 16 ∧ ∀ u ∈ NV, u.oneCell' = true := by
                rw [hAV, hBV, hNV]
                refine ⟨by rw [List.length_map, tree_len], by rw [List.length_map, tree_len], ?_, bytes_one _⟩
                rw [List.length_map]; exact Sg.of_len _ _
              have CN := Lib.hid cn
              have R2 := Lib.hid r2
              have HL := Lib.hid hl
              have HS := Lib.hid hsucc
              clear cn r2 hl hsucc hAV hBV hNV
              go_wp2_with fail
              try go_frame
              refine wp_region_list [40, 41, 42, 43, 44, 45, 46, 47, 48, 49, 50, 51, 52, 53, 54, 55, 56, 57] [.is u9, .is (.slice (some ⟨o, 0, none⟩) (l + 1) ocap), .is (.int .i64 l), .is (.pointer (some ⟨o, l, none⟩)), .is (.slice (some ⟨ug, 0, none⟩) n2 ucap), .is (.int .i64 k2), .is (.pointer (some ⟨ug, 16 * k2, none⟩)), .is (.agg AV.toArray), .is (.slice (some ⟨o, 0, none⟩) (l + 1) ocap), .is (.int .i64 l), .is (.pointer (some ⟨o, l, none⟩)), .is (.slice (some ⟨ug, 0, none⟩) n2 ucap), .is (.int .i64 k2), .is (.int .i64 ((k2 + 1 : Nat) : Int)), .is (.pointer (some ⟨ug, 16 * (k2 + 1), none⟩)), .is (.agg BV.toArray), .is (.agg NV.toArray), Fact.one16 NV.toArray] (by kernel_rfl) (by kernel_rfl) ?_ ?_
              · intro z hz b w' hb hd hx o' ho
                match z, hz with
                | 0, _ =>
                  obtain rfl := Option.some.inj ho; exact ⟨hx 9 rfl, Below.refl _ _⟩
                | 1, _ =>
                  obtain rfl := Option.some.inj ho; exact ⟨hx 7 rfl, Below.refl _ _⟩
                | 2, _ =>
                  obtain rfl := Option.some.inj ho; exact ⟨hx 8 rfl, Below.refl _ _⟩
                | 3, _ =>
                  obtain rfl := Option.some.inj ho
                  have e0 : b.tmps.getD 41 undef = .slice (some ⟨o, 0, none⟩) (l + 1) ocap := hd 1 (by kernel_rfl) (by decide)
                  have e1 : b.tmps.getD 42 undef = .int .i64 l := hd 2 (by kernel_rfl) (by decide)
                  have hr := AR.out w'
                  rw [← e0, ← e1] at hr
                  exact runs_value rfl hr ⟨rfl, Below.refl _ _⟩
                | 4, _ =>
                  obtain rfl := Option.some.inj ho
                  have e0 : b.tmps.getD 43 undef = .pointer (some ⟨o, l, none⟩) := hd 3 (by kernel_rfl) (by decide)
                  have hr := GR.out w' (K.out.2.trans (hb.mono K.out.2.size))
                  rw [← e0] at hr
                  exact runs_value rfl hr ⟨rfl, Below.refl _ _⟩
                | 5, _ =>
                  obtain rfl := Option.some.inj ho; exact ⟨hx 10 rfl, Below.refl _ _⟩
                | 6, _ =>
                  obtain rfl := Option.some.inj ho
                  have e0 : b.tmps.getD 44 undef = .slice (some ⟨ug, 0, none⟩) n2 ucap := hd 4 (by kernel_rfl) (by decide)
                  have e1 : b.tmps.getD 45 undef = .int .i64 k2 := hd 5 (by kernel_rfl) (by decide)
                  have hr := at_dig w' ug k2 n2 ucap (by omega)
                  rw [← e0, ← e1] at hr
                  exact runs_value rfl hr ⟨rfl, Below.refl _ _⟩
                | 7, _ =>
                  obtain rfl := Option.some.inj ho
                  have e0 : b.tmps.getD 46 undef = .pointer (some ⟨ug, 16 * k2, none⟩) := hd 6 (by kernel_rfl) (by decide)
                  have hr := load_dig w' ug (16 * k2) AV (R2.out w' (K.out.2.trans (hb.mono K.out.2.size))).1 HL.out.1
                  rw [← e0] at hr
                  exact runs_value rfl hr ⟨rfl, Below.refl _ _⟩
                | 8, _ =>
                  obtain rfl := Option.some.inj ho; exact ⟨hx 7 rfl, Below.refl _ _⟩
                | 9, _ =>
                  obtain rfl := Option.some.inj ho; exact ⟨hx 8 rfl, Below.refl _ _⟩
                | 10, _ =>
                  obtain rfl := Option.some.inj ho
                  have e0 : b.tmps.getD 48 undef = .slice (some ⟨o, 0, none⟩) (l + 1) ocap := hd 8 (by kernel_rfl) (by decide)
                  have e1 : b.tmps.getD 49 undef = .int .i64 l := hd 9 (by kernel_rfl) (by decide)
                  have hr := AR.out w'
                  rw [← e0, ← e1] at hr
                  exact runs_value rfl hr ⟨rfl, Below.refl _ _⟩
                | 11, _ =>
                  obtain rfl := Option.some.inj ho
                  have e0 : b.tmps.getD 50 undef = .pointer (some ⟨o, l, none⟩) := hd 10 (by kernel_rfl) (by decide)
                  have hr := GR.out w' (K.out.2.trans (hb.mono K.out.2.size))
                  rw [← e0] at hr
                  exact runs_value rfl hr ⟨rfl, Below.refl _ _⟩
                | 12, _ =>
                  obtain rfl := Option.some.inj ho; exact ⟨hx 10 rfl, Below.refl _ _⟩
                | 13, _ =>
                  obtain rfl := Option.some.inj ho
                  have e0 : b.tmps.getD 52 undef = .int .i64 k2 := hd 12 (by kernel_rfl) (by decide)
                  have hr := run_add1 w' k2 (by omega) (.tmp 52) (.const (.int .i64 1))
                  rw [← e0] at hr
                  exact runs_value rfl hr ⟨rfl, Below.refl _ _⟩
                | 14, _ =>
                  obtain rfl := Option.some.inj ho
                  have e0 : b.tmps.getD 51 undef = .slice (some ⟨ug, 0, none⟩) n2 ucap := hd 11 (by kernel_rfl) (by decide)
                  have e1 : b.tmps.getD 53 undef = .int .i64 ((k2 + 1 : Nat) : Int) := hd 13 (by kernel_rfl) (by decide)
                  have hr := at_dig w' ug (k2 + 1) n2 ucap (by omega)
                  rw [← e0, ← e1] at hr
                  exact runs_value rfl hr ⟨rfl, Below.refl _ _⟩
                | 15, _ =>
                  obtain rfl := Option.some.inj ho
                  have e0 : b.tmps.getD 54 undef = .pointer (some ⟨ug, 16 * (k2 + 1), none⟩) := hd 14 (by kernel_rfl) (by decide)
                  have hr := load_dig w' ug (16 * (k2 + 1)) BV (R2.out w' (K.out.2.trans (hb.mono K.out.2.size))).2 HL.out.2.1
                  rw [← e0] at hr
                  exact runs_value rfl hr ⟨rfl, Below.refl _ _⟩
                | 16, _ =>
                  obtain rfl := Option.some.inj ho
                  have e1 : b.tmps.getD 47 undef = .agg AV.toArray := hd 7 (by kernel_rfl) (by decide)
                  have e2 : b.tmps.getD 55 undef = .agg BV.toArray := hd 15 (by kernel_rfl) (by decide)
                  refine runs_call rfl (fun _ _ => rfl) ?_
                  show Calls _ _ #[b.tmps.getD 47 undef, b.tmps.getD 55 undef] w' _
                  rw [e1, e2]
                  exact (CN.out w' (HR.out.below (HO.out.bel.trans ((K.out.2.trans (hb.mono K.out.2.size)).mono HO.out.bel.size)) (Nat.le_refl _))).mono fun e w'' h => ⟨_, h.1, rfl, h.2⟩
                | 17, _ =>
                  obtain rfl := Option.some.inj ho
                  have e1 : b.tmps.getD 56 undef = .agg NV.toArray := hd 16 (by kernel_rfl) (by decide)
                  have hr := build_dig w' NV HL.out.2.2.1
                  rw [← e1] at hr
                  refine runs_value (X := Instr.buildSlice 47 1 #[(0, b.tmps.getD 56 undef)]) (by unfold execOp; simp [Act.eval]) hr ⟨⟨w'.heap.size, rfl, heap_alloc_new w' _⟩, (Below.refl _ _).alloc (Nat.le_refl _) _⟩
                | z + 18, hz => exact absurd hz (by simp)
              · intro vals w6 hb6 hf6
                have e0 : vals 0 = u9 := hf6 0 (by decide)
                obtain ⟨nb, e17, hnb⟩ := hf6 17 (by decide)
                have own6 := own_below K.out.1 hb6 (Nat.le_refl _)
                have bel6 := K.out.2.trans (hb6.mono K.out.2.size)
                have hcell : ∀ (j : Nat) (u : Value), NV[j]? = some u → w6.cell? ((⟨nb, 0, none⟩ : Addr).add j) = some u := fun j u hu => by
                  rw [Addr.add_mid, Nat.zero_add, cell_of_row w6 nb j _ _ _ hnb]; simpa using hu
                simp only [puts, List.length_cons, List.length_nil, Nat.zero_add, Nat.reduceAdd, List.drop_succ_cons, List.drop_zero, e0, e17]
                have K6 := Lib.hid (And.intro own6 (And.intro bel6 hcell))
                have hl16 : NV.length = 1 * 16 := HL.out.2.2.1
                have oN := HL.out.2.2.2
                clear hb6 hf6 own6 bel6 hcell e0 e17 hnb
                go_frame
                go_wp2_with (at_builtin; refine wpList_append_own_at _ rfl (.tmp 40) (.tmp 57) 47 rfl WO.heap.size 23 i0 _ 16 16 Tryd.underlying47 hi hz0 hz1 hz2 rfl (by decide) _ kk (rowD sd (l + 1) kk) rfl K6.out.1 ⟨nb, 0, none⟩ 1 1 NV rfl hl16 K6.out.2.2 oN (by unfold maxLen; omega) (by omega) K6.out.2.1.size ?_; intro v' w7 hown7 hgrow7 _ _)
                have bel7 := K6.out.2.1.grown hgrow7 K6.out.2.1.size (fun j hj => (K6.out.1.lt j hj).1)
                rw [← HS.out] at hown7
                have h2 := HK2.out
                exact ⟨⟨kk + 1, k2 + 2, by omega, by omega, by go_num, hown7, bel7⟩, by simp [intOf]; omega⟩
            · have hkn : kk = n := by omega
              have ik : (n2 : Int) ≤ (k2 : Int) + 1 := by have := HN2.out; omega
              have hk128 : k2 ≤ 128 := by omega
              obtain ⟨hown, hbel⟩ := K.out
              rw [hkn] at hown
              obtain ⟨g1, hrow1, hob1, hgb1⟩ := own_row1 hown hn0
              obtain ⟨cap1, rfl, hc1, hc2, hc3, hc4⟩ := hrow1
              have hrow1 : Row1 sd (l + 1) n wr (.slice (some ⟨g1, 0, none⟩) n cap1) g1 := ⟨cap1, rfl, hc1, hc2, hc3, hc4⟩
              have hbs := build_row wr (some ⟨g1, 0, none⟩) n cap1
              have ownO := (own_below HO.out.own hbel (Nat.le_refl _)).alloc (.cells #[.slice (some ⟨g1, 0, none⟩) n cap1] 47)
              have belO := HO.out.bel.trans (hbel.mono HO.out.bel.size)
              have hszO := (belO.alloc belO.size (.cells #[.slice (some ⟨g1, 0, none⟩) n cap1] 47)).size
              have hcell := cell_one_new wr (.slice (some ⟨g1, 0, none⟩) n cap1) 47
              have KK := Lib.hid (And.intro ownO (And.intro hszO (And.intro hcell (And.intro hrow1 (And.intro hgb1 hbel)))))
              clear ownO belO hszO hcell hrow1 hgb1 hob1 hbel hown hc1 hc2 hc3 hc4 hkn hk2 K
              go_wp2_with (at_builtin; (refine wpList_append_own_at _ rfl (.tmp 59) (.tmp 61) 48 rfl w.heap.size 47 j0 _ 1 24 Tryd.underlying48 hj hy0 hy1 hy2 rfl (by decide) _ (l + 1) vs rfl KK.out.1 ⟨wr.heap.size, 0, none⟩ 1 1 [.slice (some ⟨g1, 0, none⟩) n cap1] rfl rfl KK.out.2.2.1 (by intro u hu; rw [List.mem_singleton.1 hu]; rfl) (by unfold maxLen; omega) (by omega) KK.out.2.1 ?_; intro v' w7 hown7 hgrow7 _ hat7))
              have hO := HO.out.grow KK.out.2.2.2.2.2 KK.out.2.2.2.1 KK.out.2.2.2.2.1 K0.out.2.2 HN.out.2.2.2.1 HN.out.1 HN.out.2.2.1 _ hown7 hgrow7 hat7
              exact ⟨⟨l + 1, _, by omega, by go_num, hO⟩, by simp [intOf]; omega⟩
        · have hlh : l = h := by omega
          have il : (h : Int) ≤ l := by omega
          rw [hlh] at hO
          have HO := Lib.hid hO
          clear hO hlh
          go_wp2_with fail
          go_ret
          exact ⟨_, vs, rfl, HO.out⟩
end Go.Proofs.YtkelfcgomeojeaaDoor
end

