import Derived.Maps.AppendAt
import Derived.Test.YtkelfcgomeojeaaDoorJHashLaid
import Derived.Test.YtkelfcgomeojeaaDoorJHashN2
import Derived.Test.YtkelfcgomeojeaaDoorJSignPc
import Derived.Test.YtkelfcgomeojeaaDoorJSignRa
import Derived.Test.YtkelfcgomeojeaaDoorJWireK0

section
/- The reference's Digits. -/





namespace Go.Proofs.YtkelfcgomeojeaaDoor
open Go.RowKit
set_option linter.unusedVariables false
set_option maxRecDepth 100000

/-- Between two bytes: the digest's block, the digits so far, their check. -/
def DgO (w : World) (X : List Value) (d : List UInt8) (i : Nat) (out sum : Value) (wr : World) : Prop :=
  wr.ownsRow (w.heap.size + 1) 3 1 out (4 * i) ((Sg.quads (d.take i)).map dv) ∧ sum = dv (Sg.check (Sg.quads (d.take i))) ∧ Blk wr w.heap.size X 23 ∧ Below w.heap.size w wr ∧ w.heap.size + 1 ≤ wr.heap.size
def DgI (w : World) (X : List Value) (Q q : List Nat) (B k : Nat) (out sum : Value) (wr : World) : Prop :=
  wr.ownsRow (w.heap.size + 1) 3 1 out (Q.length + k) ((Q ++ q.take k).map dv) ∧ sum = dv (Sg.check (Q ++ q.take k)) ∧ Blk wr w.heap.size X 23 ∧ Below w.heap.size w wr ∧ w.heap.size + 1 ≤ wr.heap.size ∧
    Blk wr B (q.map dv) 3 ∧ out.ownBlock ≠ some B ∧ w.heap.size + 1 ≤ B

set_option maxRecDepth 100000 in
set_option maxHeartbeats 4000000 in
theorem refDigits_any (d : List UInt8) (w : World) (hd : d.length = 16) :
    Calls Tryd.prog 11 #[.agg (d.map bv).toArray] w fun e w' => ∃ v, e = .returned v ∧ w'.ownsRow (w.heap.size + 1) 3 1 v 68 ((Sg.digits d).map dv) ∧ Below w.heap.size w w' := by
  obtain ⟨i0, hi, hz0, hz1, hz2⟩ := info_parts info_int
  obtain ⟨X, hX⟩ : ∃ X, X = d.map bv := ⟨_, rfl⟩
  have hXl : X.length = 16 := by rw [hX, List.length_map, hd]
  rw [← hX]
  have hb0 : DgO w X d 0 (.slice none 0 0) (.int .i64 0) (w.alloc (.cells X.toArray 23)) := ⟨own_nil _ _ _ _, rfl, Blk.new w _ _, (Below.refl _ _).alloc (Nat.le_refl _) _, by simp⟩
  have HB0 := Lib.hid hb0
  have HX := Lib.hid hX
  have HL := Lib.hid (And.intro hd hXl)
  clear hX hXl hb0 hd
  go_enter Tryd.func11, Tryd.ntmps11
  go_wp2_with fail
  go_loopw [3, 4, 5] (fun out sum i wr => ∃ n : Nat, n ≤ 16 ∧ i = .int .i64 n ∧ DgO w X d n out sum wr) (fun _ _ i _ => 16 - (intOf i).toNat)
  case atStart => exact ⟨0, by omega, rfl, HB0.out⟩
  case round =>
    clear HB0
    obtain ⟨n, hn, rfl, hO⟩ := hrel
    by_cases hlt : n < 16
    · obtain ⟨x, hx⟩ : ∃ x, x = d.getD n 0 := ⟨_, rfl⟩
      have g1 : wr.cell? ⟨w.heap.size, n, none⟩ = some (.int .u8 (x.toNat : Int)) := hO.2.2.1.cell n (bv x) (by rw [HX.out, List.getElem?_map, getD_at d n 0 (by have := HL.out.1; omega), hx]; rfl)
      have hq := quads_snoc d n (by have := HL.out.1; omega)
      rw [← hx] at hq
      have Hq := Lib.hid hq
      have ik : (n : Int) < 16 := by omega
      have ik0 : (0 : Int) ≤ n := by omega
      have HO := Lib.hid hO
      obtain ⟨-, rfl, -⟩ := hO
      clear hx hq
      unfold dv
      go_wp2_with fail
      rw [quad_cells]
      obtain ⟨B, hB⟩ : ∃ B, B = wr.heap.size := ⟨_, rfl⟩
      obtain ⟨Q, hQ⟩ : ∃ Q, Q = Sg.quads (d.take n) := ⟨_, rfl⟩
      obtain ⟨q, hq⟩ : ∃ q, q = quad x := ⟨_, rfl⟩
      have hQl : Q.length = 4 * n := by rw [hQ, quads_len, List.length_take]; have := HL.out.1; omega
      have hql : q.length = 4 := by rw [hq]; rfl
      have hq4 : ∀ y ∈ q, y < 4 := by rw [hq]; exact quad_lt x
      have hI : DgI w X Q q B 0 u3 (dv (Sg.check Q)) (wr.alloc (.cells (q.map dv).toArray 3)) := by
        obtain ⟨h1, -, h3, h4, h5⟩ := HO.out
        rw [← hQ, ← hQl] at h1
        refine ⟨?_, ?_, h3.alloc _, h4.alloc (by omega) _, by simp; omega, by rw [hB]; exact Blk.new _ _ _, fun e => ?_, by omega⟩
        · rw [List.take_zero, List.append_nil]; exact h1.alloc _
        · rw [List.take_zero, List.append_nil]
        · have := (h1.lt _ e).2; omega
      rw [← hB, ← hQ, ← hq]
      rw [← hQ, ← hq] at Hq
      have hI' := Lib.hid hI
      have hn4 : n < 16 := hlt
      clear hI HO g1 hB hQ hq
      go_loopw [3, 4, 8] (fun out sum k wi => ∃ j : Nat, j ≤ 4 ∧ k = .int .i64 j ∧ DgI w X Q q B j out sum wi) (fun _ _ k _ => 4 - (intOf k).toNat)
      case atStart => exact ⟨0, by omega, rfl, hI'.out⟩
      case round =>
        clear hI'
        obtain ⟨j, hj, rfl, hI⟩ := hrel
        by_cases hlj : j < 4
        · obtain ⟨h1, rfl, h3, h4, h5, h6, h7, h8⟩ := hI
          obtain ⟨y, hy⟩ : ∃ y, y = q.getD j 0 := ⟨_, rfl⟩
          have hy4 : y < 4 := hq4 y (by rw [hy, show q.getD j 0 = q[j]'(by omega) from by simp [hql, hlj]]; exact List.getElem_mem _)
          have gy : wr.cell? ⟨B, j, none⟩ = some (.int .i64 (y : Int)) := h6.cell j (dv y) (by rw [List.getElem?_map, getD_at q j 0 (by omega), hy]; rfl)
          have hnx : q.take (j + 1) = q.take j ++ [y] := by rw [List.take_add_one, List.getElem?_eq_getElem (by omega), hy, show q.getD j 0 = q[j]'(by omega) from by simp [hql, hlj]]; rfl
          have hnx2 : (Q ++ q.take (j + 1)).map dv = (Q ++ q.take j).map dv ++ [.int .i64 (y : Int)] := by rw [hnx, ← List.append_assoc, List.map_append]; rfl
          have hck : Sg.check (Q ++ q.take (j + 1)) = Sg.check (Q ++ q.take j) + (3 - y) := by rw [hnx, ← List.append_assoc, check_snoc]
          have hcl : Sg.check (Q ++ q.take j) ≤ 300 := by have := check_le (Q ++ q.take j); rw [List.length_append, List.length_take] at this; omega
          obtain ⟨S, hS⟩ : ∃ S, S = Sg.check (Q ++ q.take j) := ⟨_, rfl⟩
          rw [← hS] at hck hcl
          rw [← hS]
          have Hn := Lib.hid (And.intro hnx2 hck)
          have H := Lib.hid (And.intro h3 (And.intro h4 (And.intro h6 (And.intro h7 h8))))
          have ij : (j : Int) < 4 := by omega
          have ij0 : (0 : Int) ≤ j := by omega
          have hmx : Q.length + j + 1 ≤ maxLen := by unfold maxLen; omega
          have HSS := Lib.hid hS
          have hyv : ((q.map dv)[j]? : Option Value) = some (.int .i64 (y : Int)) := by rw [List.getElem?_map, getD_at q j 0 (by omega), hy]; rfl
          have Hyv := Lib.hid hyv
          clear hnx hnx2 hck hS hy hyv h3 h4 h6 h7
          unfold dv
          go_wp2_with (at_builtin; refine wpList_append_own_at _ rfl (.tmp 32) (.tmp 37) 25 rfl (w.heap.size + 1) 3 i0 (.int .i64 0) 1 8 Tryd.underlying25 hi hz0 hz1 hz2 rfl (by decide) _ (Q.length + j) ((Q ++ q.take j).map dv) rfl (h1.alloc _) ⟨wr.heap.size, 0, none⟩ 1 1 [.int .i64 (y : Int)] rfl rfl (cell_one _ _ _) (by intro u hu; simp at hu; subst hu; rfl) hmx (by unfold maxLen at hmx; omega) (by simp only [World.size_alloc]; omega) ?_; intro v' w1 hown' hgrow _ hat; have hB1 : Blk w1 B (q.map dv) 3 := (hgrow.block B (by have := H.out.2.2.1.lt; simp only [World.size_alloc]; omega) (fun e => H.out.2.2.2.1 e.symm)).trans (H.out.2.2.1.alloc _); have gy1 := hB1.cell j (.int .i64 (y : Int)) Hyv.out)
          have hz := hgrow.size
          simp only [World.size_alloc] at hz
          refine ⟨⟨j + 1, by omega, by go_num, ?_, ?_, ?_, ?_, by omega, hB1, ?_, H.out.2.2.2.2⟩, by simp [intOf]; omega⟩
          · rw [Hn.out.1]; exact hown'
          · rw [Hn.out.2]; unfold dv; congr 1; omega
          · exact (hgrow.block w.heap.size (by simp only [World.size_alloc]; omega) (fun e => by have := (h1.lt _ e.symm).1; omega)).trans (H.out.1.alloc _)
          · exact (H.out.2.1.alloc (by omega) _).grown hgrow (by simp only [World.size_alloc]; omega) (fun k hk => by have := (h1.lt k hk).1; omega)
          · have hBl := H.out.2.2.1.lt
            intro e
            rcases hat with h | h
            · exact H.out.2.2.2.1 (h.symm.trans e)
            · rw [h] at e; simp only [World.size_alloc, Option.some.injEq] at e; omega
        · have hj4 : j = 4 := by omega
          have ge : (4 : Int) ≤ j := by omega
          obtain ⟨h1, rfl, h3, h4, h5, -, -, -⟩ := hI
          rw [hj4, List.take_of_length_le (by omega)] at h1 ⊢
          rw [← Hq.out, show Q.length + 4 = 4 * (n + 1) by omega] at h1
          obtain ⟨S, hS⟩ : ∃ S, S = Sg.check (Q ++ q) := ⟨_, rfl⟩
          have hS2 : S = Sg.check (Sg.quads (d.take (n + 1))) := by rw [hS, Hq.out]
          rw [← hS]
          have H := Lib.hid (And.intro h1 (And.intro h3 (And.intro h4 (And.intro h5 hS2))))
          clear h1 h3 h4 h5 hS hS2 hj4
          unfold dv
          go_wp2_with fail
          refine ⟨⟨n + 1, by omega, by go_num, H.out.1, ?_, H.out.2.1, H.out.2.2.1, H.out.2.2.2.1⟩, by simp [intOf]; omega⟩
          rw [← H.out.2.2.2.2]; rfl
    · have hn16 : n = 16 := by omega
      have ge : (16 : Int) ≤ n := by omega
      obtain ⟨h1, rfl, h3, h4, h5⟩ := hO
      rw [hn16, List.take_of_length_le (by have := HL.out.1; omega)] at h1 ⊢
      obtain ⟨S, hS⟩ : ∃ S, S = Sg.check (Sg.quads d) := ⟨_, rfl⟩
      have hSl : S ≤ 192 := by rw [hS]; have := check_le (Sg.quads d); rw [quads_len] at this; have := HL.out.1; omega
      have hdg : (Sg.digits d).map dv = (Sg.quads d).map dv ++ [S / 64, S / 16 % 4, S / 4 % 4, S % 4].map dv := by unfold Sg.digits; rw [List.map_append, hS]
      obtain ⟨G, hG⟩ : ∃ G, G = [S / 64, S / 16 % 4, S / 4 % 4, S % 4].map dv := ⟨_, rfl⟩
      have hGl : G.length = 4 := by rw [hG]; rfl
      have hG1 : ∀ u ∈ G, u.oneCell' = true := by rw [hG]; intro u hu; obtain ⟨z, -, rfl⟩ := List.mem_map.1 hu; rfl
      have h4c : #[Value.int IntKind.i64 ((S : Int) / 64), Value.int IntKind.i64 ((S : Int) / 16 % 4), Value.int IntKind.i64 ((S : Int) / 4 % 4), Value.int IntKind.i64 ((S : Int) % 4)] = G.toArray := by rw [hG]; rfl
      rw [← hG] at hdg
      rw [← hS]
      have H4 := Lib.hid h4c
      have HD := Lib.hid hdg
      have HG := Lib.hid (And.intro hGl hG1)
      clear hS hdg hG hGl hG1 h4c hn16 HX
      unfold dv
      go_wp2_with (at_builtin; rw [H4.out]; refine wpList_append_own _ rfl (.tmp 46) (.tmp 57) 25 rfl (w.heap.size + 1) 3 i0 (.int .i64 0) 1 8 Tryd.underlying25 hi hz0 hz1 hz2 rfl (by decide) _ 64 ((Sg.quads d).map dv) rfl (h1.alloc _) ⟨wr.heap.size, 0, none⟩ 4 4 G rfl (by rw [HG.out.1]) (cells_new _ _ _) HG.out.2 (by unfold maxLen; omega) (by omega) (by simp only [World.size_alloc]; omega) ?_; intro v' w1 hown' hgrow _)
      go_ret
      rw [HD.out]
      exact ⟨_, rfl, hown', (h4.alloc (by omega) _).grown hgrow (by simp only [World.size_alloc]; omega) (fun k hk => by have := (h1.lt k hk).1; omega)⟩
end Go.Proofs.YtkelfcgomeojeaaDoor
end

section
/- The reference's advance: a region that draws its order, three of its operations calls. -/


namespace Go.Proofs.YtkelfcgomeojeaaDoor
open Go.RowKit
set_option linter.unusedVariables false
set_option maxRecDepth 100000

set_option maxRecDepth 100000 in
set_option maxHeartbeats 4000000 in
theorem refAdvance_any (i c t n : Nat) (v : List UInt8) (w : World) (hi : i ≤ 1000000) (hc : c ≤ 1000000) (ht : t + n ≤ 1000000) (hv : v.length = 16) (hR : RTab w) :
    Calls Tryd.prog 30 #[.int .i64 i, .int .i64 c, .int .i64 t, .int .i64 ((t + n : Nat) : Int), .agg (v.map bv).toArray] w fun e w' => e = .returned (.agg ((Sg.adv i c t n v).map bv).toArray) ∧ Below w.heap.size w w' := by
  obtain ⟨hzd, -⟩ := zero_of_info dig_zero
  obtain ⟨Zd, hZd⟩ : ∃ Zd, Zd = (H.zeros 16).map bv := ⟨_, rfl⟩
  rw [← hZd] at hzd
  have lZd : Zd.length = 16 := by rw [hZd, List.length_map, H.zeros_len]
  obtain ⟨X, hX⟩ : ∃ X : Nat → List Value, ∀ k, X k = (Sg.adv i c t k v).map bv := ⟨_, fun _ => rfl⟩
  have lX : ∀ k, (X k).length = 16 := fun k => by rw [hX, List.length_map, adv_len _ _ _ _ _ hv]
  have yX := fun k => size_dig (lX k)
  have oX : ∀ k, (X k).toArray.all (·.oneCell') = true := fun k => all_oneCell_toArray (by rw [hX]; exact bytes_one _)
  have hX0 : (v.map bv) = X 0 := by rw [hX]; rfl
  rw [hX0, ← hX n]
  obtain ⟨W0, hW0⟩ : ∃ W0, W0 = (w.alloc (.cells (X 0).toArray 23)).alloc (.cells Zd.toArray 23) := ⟨_, rfl⟩
  have hS : Blk W0 w.heap.size (X 0) 23 ∧ Blk W0 (w.heap.size + 1) Zd 23 ∧ Below w.heap.size w W0 := by
    rw [hW0]
    refine ⟨(Blk.new w _ _).below ((Below.refl _ _).alloc (Nat.le_refl _) _) (by simp), ?_, ((Below.refl _ _).alloc (Nat.le_refl _) _).alloc (by simp) _⟩
    have h := Blk.new (w.alloc (.cells (X 0).toArray 23)) Zd 23
    simpa using h
  obtain ⟨m, hm⟩ : ∃ m, m = t + n := ⟨_, rfl⟩
  rw [← hm]
  have HS := Lib.hid hS
  have HW0 := Lib.hid hW0
  have HM := Lib.hid hm
  have HX := Lib.hid hX
  have LX := Lib.hid (And.intro lX lZd)
  have YX := Lib.hid yX
  have HR := Lib.hid hR
  clear hS hW0 hX hX0 lX yX hZd lZd hR hm
  go_enter Tryd.func30, Tryd.ntmps30
  go_wp2_with fail
  rw [← HW0.out]
  go_loopw [11] (fun s wr => ∃ k : Nat, k ≤ n ∧ s = .int .i64 ((t + k : Nat) : Int) ∧ Blk wr w.heap.size (X k) 23 ∧ Blk wr (w.heap.size + 1) Zd 23 ∧ Below w.heap.size w wr) (fun s _ => m - (intOf s).toNat)
  case atStart => exact ⟨0, Nat.zero_le _, rfl, HS.out⟩
  case round =>
    clear HS
    obtain ⟨k, hk, rfl, hV, hZ, hbel⟩ := hrel
    obtain ⟨p, hp⟩ : ∃ p, p = t + k := ⟨_, rfl⟩
    rw [← hp]
    by_cases hlt : p < m
    · have hlt' : (p : Int) < m := by omega
      have HP := Lib.hid hp
      have H := Lib.hid (And.intro hV (And.intro hZ hbel))
      clear hp hV hZ hbel
      go_wp2_with fail
      try go_frame
      obtain ⟨I3, hI3⟩ : ∃ I3, I3 = [(i : Int), (c : Int), (p : Int)] := ⟨_, rfl⟩
      obtain ⟨a, ha⟩ : ∃ a, a = Sg.ints I3 := ⟨_, rfl⟩
      obtain ⟨V, hV⟩ : ∃ V, V = Sg.adv i c t k v := ⟨_, rfl⟩
      have hXV : X k = V.map bv := by rw [HX.out, hV]
      have lV : V.length = 16 := by rw [hV]; exact adv_len _ _ _ _ _ hv
      have hpi : p ≤ 1000000 := by have := HM.out; omega
      have hII : ∀ n ∈ I3, M.I64 n := by
        rw [hI3]
        intro n hn
        simp only [List.mem_cons, List.not_mem_nil, or_false] at hn
        unfold M.I64
        omega
      have hI3l : I3.length = 3 := by rw [hI3]; rfl
      have hal : a.length ≤ 36 := by rw [ha]; have := ints_len I3 hII (by omega); omega
      have hnext : (dig 5 [bs a, bs V]).map bv = X (k + 1) := by
        rw [show (5 : Int) = ((5 : Nat) : Int) from rfl, dig_of 5 (by omega), HX.out, adv_snoc, ← hV, ha, hI3, HP.out]
        rfl
      refine wp_region_list [18, 19, 20, 21, 22, 23, 24, 25, 26] [.is (.int .i64 i), .is (.int .i64 c), .is (.int .i64 p), .row (I3.map iv) 3, .is (.string (bs a)), .is (.agg (X k).toArray), .is (.string (bs V)), .row ([bs a, bs V].map sv) 2, .is (.agg (X (k + 1)).toArray)] (by kernel_rfl) (by kernel_rfl) ?_ ?_
      · intro z hz b w' hb hd hx o ho
        match z, hz with
        | 0, _ =>
          obtain rfl := Option.some.inj ho
          exact ⟨hx 0 rfl, Below.refl _ _⟩
        | 1, _ =>
          obtain rfl := Option.some.inj ho
          exact ⟨hx 1 rfl, Below.refl _ _⟩
        | 2, _ =>
          obtain rfl := Option.some.inj ho
          exact ⟨hx 11 rfl, Below.refl _ _⟩
        | 3, _ =>
          obtain rfl := Option.some.inj ho
          have e0 : b.tmps.getD 18 undef = .int .i64 i := hd 0 (by kernel_rfl) (by decide)
          have e1 : b.tmps.getD 19 undef = .int .i64 c := hd 1 (by kernel_rfl) (by decide)
          have e2 : b.tmps.getD 20 undef = .int .i64 p := hd 2 (by kernel_rfl) (by decide)
          have hbs := build3 w' i c p
          rw [← e0, ← e1, ← e2] at hbs
          refine runs_value (X := Instr.buildSlice 25 3 #[(0, b.tmps.getD 18 undef), (1, b.tmps.getD 19 undef), (2, b.tmps.getD 20 undef)]) (by unfold execOp; simp [Act.eval]) hbs ⟨⟨some ⟨w'.heap.size, 0, none⟩, rfl, ?_⟩, (Below.refl _ _).alloc (Nat.le_refl _) _⟩
          rw [e0, e1, e2, hI3]
          exact rd_new w' [.int .i64 i, .int .i64 c, .int .i64 p] _
        | 4, _ =>
          obtain rfl := Option.some.inj ho
          obtain ⟨A, e3, h3⟩ := hd 3 (by kernel_rfl) (by decide)
          refine runs_call rfl (fun _ _ => rfl) ?_
          show Calls _ _ #[b.tmps.getD 21 undef] w' _
          rw [show b.tmps.getD 21 undef = _ from e3, ← hI3l]
          exact (refInts_text A I3.length I3 w' h3 (Nat.le_refl _) (by rw [hI3l]; decide) (by omega) hII).mono fun e w'' h => ⟨_, h.1, by rw [ha]; rfl, h.2⟩
        | 5, _ =>
          obtain rfl := Option.some.inj ho
          have e9 : b.tmps.getD 9 undef = .pointer (some ⟨w.heap.size, 0, none⟩) := hx 9 rfl
          have hr := row_load w' w.heap.size 23 5 16 (X k) (H.out.1.below hb H.out.1.lt) Tryd.underlying23 (YX.out k)
          rw [← e9] at hr
          exact runs_value rfl hr ⟨rfl, Below.refl _ _⟩
        | 6, _ =>
          obtain rfl := Option.some.inj ho
          have e5 : b.tmps.getD 23 undef = .agg (X k).toArray := hd 5 (by kernel_rfl) (by decide)
          refine runs_call rfl (fun _ _ => rfl) ?_
          show Calls _ _ #[b.tmps.getD 23 undef] w' _
          rw [e5, hXV]
          exact (text_any V w' lV).mono fun e w'' h => ⟨_, h.1, rfl, h.2⟩
        | 7, _ =>
          obtain rfl := Option.some.inj ho
          have e4 : b.tmps.getD 22 undef = .string (bs a) := hd 4 (by kernel_rfl) (by decide)
          have e6 : b.tmps.getD 24 undef = .string (bs V) := hd 6 (by kernel_rfl) (by decide)
          have hbs := build2s w' (bs a) (bs V)
          rw [← e4, ← e6] at hbs
          refine runs_value (X := Instr.buildSlice 59 2 #[(0, b.tmps.getD 22 undef), (1, b.tmps.getD 24 undef)]) (by unfold execOp; simp [Act.eval]) hbs ⟨⟨some ⟨w'.heap.size, 0, none⟩, rfl, ?_⟩, (Below.refl _ _).alloc (Nat.le_refl _) _⟩
          rw [e4, e6]
          exact rd_new w' [.string (bs a), .string (bs V)] _
        | 8, _ =>
          obtain rfl := Option.some.inj ho
          obtain ⟨A, e7, h7⟩ := hd 7 (by kernel_rfl) (by decide)
          refine runs_call rfl (fun _ _ => rfl) ?_
          show Calls _ _ #[.int .i64 5, b.tmps.getD 25 undef] w' _
          rw [show b.tmps.getD 25 undef = _ from e7]
          exact (refOf_upto 5 A 2 [bs a, bs V] w' h7 (by simp) (by intro s hs; simp only [List.mem_cons, List.not_mem_nil, or_false] at hs; rcases hs with rfl | rfl <;> rw [bbytes_size] <;> omega) (HR.out.below (H.out.2.2.trans (hb.mono H.out.2.2.size)) (Nat.le_refl _))).mono fun e w'' h => ⟨_, h.1, by rw [hnext]; rfl, h.2⟩
      · intro vals w' hb hf
        have e8 : vals 8 = .agg (X (k + 1)).toArray := hf 8 (by decide)
        simp only [puts, List.length_cons, List.length_nil, Nat.zero_add, Nat.reduceAdd, List.drop_succ_cons, List.drop_zero, e8]
        have hV2 := H.out.1.below hb H.out.1.lt
        have hZ2 := H.out.2.1.below hb H.out.2.1.lt
        have hb2 := H.out.2.2.trans (hb.mono H.out.2.2.size)
        have t1 : w'.there w.heap.size 0 (X (k + 1)).toArray.size := hV2.there 0 _ (by rw [List.size_toArray, LX.out.1, LX.out.1]; omega)
        have d1 := hV2.whole (X (k + 1)) (by rw [LX.out.1, LX.out.1])
        have c1 : Blk (w'.setCells w.heap.size 0 (X (k + 1))) (w.heap.size + 1) Zd 23 := Blk.outside _ _ _ _ hZ2 (by omega)
        have b1 : Below w.heap.size w (w'.setCells w.heap.size 0 (X (k + 1))) := below_setCells _ (Nat.le_refl _) _ _ _ hb2
        have T1 := Lib.hid t1
        have K1 := Lib.hid (And.intro d1 (And.intro c1 b1))
        have Y := Lib.hid (YX.out (k + 1))
        have O := oX (k + 1)
        clear e8 hV2 hZ2 hb2 t1 d1 c1 b1 hb hf hI3 ha hV hXV lV hII hI3l hal hnext
        have hpp : p = t + k := HP.out
        go_frame
        go_wp2_with (refine wpList_store_mid rfl 23 (.tmp 9) (.tmp 26) rfl w.heap.size 0 (X (k + 1)).toArray rfl rfl T1.out Y.out O ?_)
        have hmm : m = t + n := HM.out
        refine ⟨⟨k + 1, by omega, ?_, K1.out⟩, by simp [intOf]; omega⟩
        congr 1
    · have hpm : k = n := by have := HM.out; omega
      have hge : (m : Int) ≤ p := by have := HM.out; omega
      rw [hpm] at hV
      have t1 : wr.there (w.heap.size + 1) 0 (X n).toArray.size := hZ.there 0 _ (by rw [List.size_toArray, LX.out.1, LX.out.2]; omega)
      have d1 := hZ.whole (X n) (by rw [LX.out.1, LX.out.2])
      have hb3 : Below w.heap.size w (wr.setCells (w.heap.size + 1) 0 (X n)) := below_setCells _ (by omega) _ _ _ hbel
      have HhW := Lib.hid hV
      have T1 := Lib.hid t1
      have D1 := Lib.hid d1
      have B3 := Lib.hid hb3
      have Y := Lib.hid (YX.out n)
      have O := oX n
      clear hpm hp hV t1 d1 hb3 hZ hbel
      go_wp2_with (first | (refine wpList_load_row rfl 23 (.tmp 9) rfl w.heap.size rfl _ (X n).toArray (0, 0) _ HhW.out Tryd.underlying23 rfl Y.out ?_) | (refine wpList_store_mid rfl 23 (.tmp 10) (.tmp 27) rfl (w.heap.size + 1) 0 (X n).toArray rfl rfl T1.out Y.out O ?_))
      refine bodyPost_ret (results_cell_row rfl _ _ (w.heap.size + 1) 23 _ (0, 0) _ rfl D1.out Tryd.underlying23 rfl Y.out) rfl ⟨rfl, B3.out⟩
end Go.Proofs.YtkelfcgomeojeaaDoor
end

