/- The walk of the statement WireConcat. -/
import Derived.Test.YtacgekhphhhmpaaWireT
import Derived.Test.YtacgekhphhhmpaaWireMathC
namespace Go.Proofs.Ytacgekhphhhmpaa
open Go.RowKit
set_option linter.unusedVariables false

theorem run_append_ownB (w : World) (ty : TypeId) (base : Nat) (v : Value) (l l' : List UInt8) (A' : Option Addr) (c' : Nat) (hown : w.ownsRow base 5 1 v l.length (l.map bv)) (hr' : RdB w w.heap.size A' l')
    (hb : l.length + l'.length ≤ 1000000000) (hbase : base ≤ w.heap.size) :
    ∃ v' w', (Builtin.append_ #[28, 28] ty #[v, .slice A' l'.length c']).run Try.prog w = .ok v' w' ∧ w'.ownsRow base 5 1 v' (l ++ l').length ((l ++ l').map bv) ∧ w.grownBy w' v.ownBlock := by
  obtain ⟨i0, hi, hz0, hz1, hz2⟩ := info_parts info_u8
  rw [List.length_append, List.map_append]
  cases A' with
  | some a =>
    have hnews : ∀ (j : Nat) (u : Value), (l'.map bv)[j]? = some u → w.cell? (a.add j) = some u := by
      intro j u hu
      have hp : 0 < (l'.map bv).length := by have := (List.getElem?_eq_some_iff.1 hu).1; omega
      obtain ⟨b, off, e, hlt, hcell⟩ := hr' hp
      injection e with e
      subst e
      rw [Addr.add_mid]
      exact hcell j u hu
    obtain ⟨v', w', h1, h2, h3, -⟩ := run_append_own (P := Try.prog) w base 28 ty 5 i0 (.int .u8 0) 1 1 Try.underlying28 hi hz0 hz1 hz2 rfl (by decide) v l.length (l.map bv) hown a l'.length c' (l'.map bv) (by simp) hnews (one_cells _) (by unfold maxLen; omega) (by omega) hbase
    exact ⟨v', w', h1, h2, h3⟩
  | none =>
    have h0 : l' = [] := by
      cases l' with
      | nil => rfl
      | cons x t => obtain ⟨b, off, e, _⟩ := hr' (by simp); cases e
    subst h0
    refine ⟨v, w, ?_, by simpa using hown, ⟨rfl, rfl, rfl, Nat.le_refl _, fun _ _ _ => rfl⟩⟩
    rcases hown.2 with ⟨rfl, h0⟩ | ⟨g, cap, cur, rfl, _, _, hnc, _⟩
    · simp [Builtin.append_, run_underlying Try.underlying28, sizeOf, typeInfo, hi, Builtin.lenOf, Builtin.firstCells]
    · simp [Builtin.append_, run_underlying Try.underlying28, sizeOf, typeInfo, hi, Builtin.lenOf, Builtin.firstCells, hnc, storeCells]

theorem wpList_append_ownB {ops : Array Oper} {rest : List Oper} {o : Oper} {a : Act} {Q : Exit → Act → World → Prop} (w : World) (hgd : o.guard = none) (s x : Operand)
    (ho : o.op = .call { callee := .builtin .append, args := #[s, x], argTypes := #[28, 28] }) (base : Nat) (v : Value) (l l' : List UInt8) (A' : Option Addr) (c' : Nat)
    (hs : a.eval s = v) (hx : a.eval x = .slice A' l'.length c') (hown : w.ownsRow base 5 1 v l.length (l.map bv)) (hr' : RdB w w.heap.size A' l') (hb : l.length + l'.length ≤ 1000000000) (hbase : base ≤ w.heap.size)
    (h : ∀ v' w', w'.ownsRow base 5 1 v' (l ++ l').length ((l ++ l').map bv) → w.grownBy w' v.ownBlock → wpList Try.prog ops Q rest (a.put o.dst v') w') : wpList Try.prog ops Q (o :: rest) a w := by
  obtain ⟨v', w', hrun, h1, h2⟩ := run_append_ownB w o.type base v l l' A' c' hown hr' hb hbase
  refine wpList_plain hgd fun K hK => ?_
  unfold Oper.wp execOp
  simp only [ho, resolve, invoke, builtin, Sem.run_bind, Sem.run_pure, Result.andThen_ok, List.map_toArray, List.map_cons, List.map_nil, hs, hx, hrun]
  exact hK _ _ (h v' w' h1 h2)

set_option maxHeartbeats 2000000 in
theorem concat_walk (s : ByteArray) (A0 : Option Addr) (len cap : Nat) (zs : List Int) (w : World) (hs : s.size ≤ 140737488351232) (hrow : IsRow .i64 w A0 len cap zs) (hlen : len ≤ 140737488351232) :
    Calls Try.prog 10 #[.string s, .slice A0 len cap] w (Tells true w) := by
  obtain ⟨q, rfl, hrd, hc, hm, hI⟩ := row_ints hrow
  clear hrow
  by_cases hl : 2000 < s.size + q.length
  · have hl' : (2000 : Int) < (s.size : Int) + q.length := by omega
    go_enter Try.func10, Try.ntmps10
    go_wp2_with fail
    refine (sanity_any _).mono ?_
    rintro e w1 ⟨rfl, hb⟩
    go_wp2_with fail
    go_ret
    exact ⟨rfl, hb⟩
  · have hl' : (s.size : Int) + q.length ≤ 2000 := by omega
    obtain ⟨X, hX⟩ : ∃ X, X = M.encB (sb s) := ⟨_, rfl⟩
    obtain ⟨Y, hY⟩ : ∃ Y, Y = M.encL M.encI q := ⟨_, rfl⟩
    obtain ⟨L, hL⟩ : ∃ L, L = ([] ++ X) ++ Y := ⟨_, rfl⟩
    have hXl : X.length ≤ 2100 := by
      rw [hX]; unfold M.encB; rw [List.length_append, sb_len]
      have := M.encI_len_le s.size (M.I64_nat s.size (by omega)); omega
    have hYl : Y.length ≤ 20000 := by
      rw [hY]; unfold M.encL; rw [List.length_append]
      have h1 := M.encI_len_le q.length (M.I64_nat q.length (by omega))
      have h2 := M.flat_ints q hI; omega
    have hgb : M.getB L = (sb s, X.length, 0) := by rw [hL, hX, List.nil_append]; exact M.getB_enc (sb s) Y (by rw [sb_len]; omega)
    have hgi : M.getLs M.getI 1 Y = (q, Y.length, 0) := by
      have := M.getInts_enc q [] (by omega) hI
      rw [List.append_nil, ← hY] at this
      exact this
    have hLl : L.length = X.length + Y.length := by rw [hL]; simp
    have hdrop : L.drop X.length = Y := by rw [hL]; simp
    have hby := fun W => bytes_any s W (by omega)
    rw [← hX] at hby
    have hin := fun W hr => ints_any A0 cap q W hr hc hm (by omega) hI
    rw [← hY] at hin
    have hc0 : ((X.length : Int) + (Y.length : Int) == (L.length : Int)) = true := by rw [hLl]; simp
    have hc1 : (X.length : Int) ≤ L.length := by omega
    have Hrd := Lib.hid hrd
    have Hby := Lib.hid hby
    have Hin := Lib.hid hin
    have Hgb := Lib.hid hgb
    have Hgi := Lib.hid hgi
    have HLl := Lib.hid hLl
    have HL := Lib.hid hL
    have Hdrop := Lib.hid hdrop
    clear hrd hI hby hin hgb hgi hLl hL hdrop hX hY
    have hown0 : (w.alloc (.cells #[] 5)).ownsRow w.heap.size 5 1 (.slice (some ⟨w.heap.size, 0, none⟩) 0 0) ([] : List UInt8).length (([] : List UInt8).map bv) := World.ownsRow_made w #[] 0 (Nat.le_refl _) (by decide) rfl
    have Hown0 := Lib.hid hown0
    clear hown0
    go_enter Try.func10, Try.ntmps10
    go_wp2_with fail
    refine (Hby.out _).mono ?_
    rintro e w1 hmk
    obtain ⟨A1, c1, rfl, hr1, -, -, hb1⟩ := makes_gives hmk
    have hown1 := own_below Hown0.out hb1 (Nat.le_refl _)
    have hb1' : Below w.heap.size w w1 := behind1 hb1 (by simp)
    have hB1 := hb1'.size
    clear hmk Hown0 hb1 Hby
    go_wp2_with (at_builtin; refine wpList_append_ownB _ rfl (.tmp 19) (.tmp 21) rfl w.heap.size (.slice (some ⟨w.heap.size, 0, none⟩) 0 0) [] X A1 c1 rfl rfl hown1 hr1 (by simp; omega) hB1 ?_; intro v2 w2 hown2 hgr2)
    have hb2' := hb1'.grown hgr2 hB1 (fun k hk => (hown1.lt k hk).1)
    have hB2 := hb2'.size
    clear hgr2 hown1 hr1 hb1' hB1
    refine (Hin.out _ ((Hrd.out.below hb2').more hB2)).mono ?_
    rintro e w3 hmk
    obtain ⟨A3, c3, rfl, hr3, -, -, hb3⟩ := makes_gives hmk
    have hown3 := own_below hown2 hb3 (Nat.le_refl _)
    have hb3' := hb2'.trans (hb3.mono hB2)
    have hB3 := hb3'.size
    clear hmk hown2 hb3 hb2' hB2 Hin
    go_wp2_with (at_builtin; refine wpList_append_ownB _ rfl (.tmp 22) (.tmp 24) rfl w.heap.size v2 ([] ++ X) Y A3 c3 rfl rfl hown3 hr3 (by simp; omega) hB3 ?_; intro v4 w4 hown4 hgr4; rw [← HL.out] at hown4; have hb4 := hb3'.grown hgr4 hB3 (fun k hk => (hown3.lt k hk).1); obtain ⟨A4, c4, rfl, hr4, hc4, hm4⟩ := own_rd (B := 0) hown4; clear hown4 hgr4 hown3 hr3 hb3' hB3)
    have hg := getBytes_any A4 c4 L w4 _ hr4 hc4 hm4
    rw [Hgb.out] at hg
    refine hg.mono ?_
    rintro e w5 ⟨rfl, rfl⟩
    unfold S3
    rw [bs_sb]
    have hsl := cut_l w4 A4 L.length c4 X.length X.length rfl (by omega) hc4
    have hrd4 := Rd.drop (lo := X.length) (cap := c4) hr4 (by simpa using hc4)
    rw [← List.map_drop, Hdrop.out] at hrd4
    have eXY : L.length - X.length = Y.length := by have := HLl.out; omega
    rw [eXY] at hsl
    obtain ⟨A5, hA5⟩ : ∃ A5, A5 = cutA A4 X.length c4 := ⟨_, rfl⟩
    rw [← hA5] at hsl hrd4
    have hcY : Y.length ≤ c4 - X.length := by omega
    have hmY : c4 - X.length ≤ maxLen := by omega
    have Hrd4 := Lib.hid hrd4
    clear hg hA5 hrd4 hr4 eXY
    go_wp2_with fail
    refine (getInts_any A5 (c4 - X.length) Y w4 Hrd4.out hcY hmY (by omega)).mono ?_
    rintro e w6 ⟨v6, rfl, hown6, hb6⟩
    rw [Hgi.out] at hown6 ⊢
    have hb6' := hb4.trans (hb6.mono hb4.size)
    have hown6' := own_any hown6
    clear Hrd4 hsl hown6 hb6
    go_wp2_with fail
    refine (sanity_any _).mono ?_
    rintro e w7 ⟨rfl, hb7⟩
    have hb7' := hb6'.trans (hb7.mono hb6'.size)
    obtain ⟨A7, c7, rfl, hr7, hc7, hm7⟩ := own_rd (B := 0) (own_below hown6' hb7 (Nat.le_refl _))
    have hr7' : Rd w7 w7.heap.size A7 (List.map iv q) := hr7
    have hr0 := (Hrd.out.below hb7').more hb7'.size
    have hsame := sameInts_any A7 A0 c7 cap q q w7 hr7' hr0 (by unfold maxLen; omega) (by unfold maxLen; omega)
    have Hsame := Lib.hid hsame
    clear hsame hr0 hr7' hr7 hown6' hb7 hb6'
    go_wp2_with fail
    refine Hsame.out.mono ?_
    rintro e w8 ⟨rfl, hb8⟩
    simp only [decide_true]
    go_wp2_with fail
    go_ret
    exact ⟨rfl, hb7'.trans (hb8.mono hb7'.size)⟩
end Go.Proofs.Ytacgekhphhhmpaa
