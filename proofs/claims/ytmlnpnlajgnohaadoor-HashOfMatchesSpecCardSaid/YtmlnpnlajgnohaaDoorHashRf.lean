/- The walk of HashOfMatchesSpec. -/
import Derived.Test.YtmlnpnlajgnohaaDoorHashRe
namespace Go.Proofs.YtmlnpnlajgnohaaDoor
open Go.RowKit
set_option linter.unusedVariables false

theorem i64_and255 (x : Int) : bits .and .i64 x 255 = x % 256 := by
  have h : bits .and .i64 x 255 = IntKind.i64.wrap (((BitVec.ofInt 64 x &&& BitVec.ofInt 64 255).toNat : Nat) : Int) := rfl
  rw [h, BitVec.toNat_and, BitVec.toNat_ofInt, show (BitVec.ofInt 64 255).toNat = 2 ^ 8 - 1 from by decide, Nat.and_two_pow_sub_one_eq_mod, i64_in _ (by omega) (by omega)]
  omega
theorem run_and255 (X Y : Operand) (x : Int) (w : World) : (do eqGuard .and 3 X Y (.int .i64 x) (.int .i64 255); binOp .and 3 (.int .i64 x) (.int .i64 255) : Sem Value).run Tryd.prog w = .ok (.int .i64 (x % 256)) w := by
  have h := i64_and255 x
  go_simp
theorem dig_mod (tag : Int) (parts : List ByteArray) : dig (tag % 256) parts = dig tag parts := by
  unfold dig inp tagB
  rw [Int.emod_emod]

set_option maxHeartbeats 4000000 in
set_option maxRecDepth 100000 in
theorem of_walk (tag : Int) (A : Option Addr) (cap : Nat) (parts : List ByteArray) (W : World) (hR : RTab W) (hT : HTab W) (hr : Rd W W.heap.size A (parts.map sv)) (hm : parts.length ≤ maxLen) :
    Calls Tryd.prog 7 #[.int .i64 tag, .slice A parts.length cap] W (Tells true W) := by
  obtain ⟨fa, hfa⟩ : ∃ fa, fa = fewB parts := ⟨_, rfl⟩
  have cFa := fun (W : World) (h : Rd W W.heap.size A (parts.map sv)) => few_any A cap parts W h hm
  rw [← hfa] at cFa
  obtain ⟨n, hn⟩ : ∃ n, n = parts.length := ⟨_, rfl⟩
  rw [← hn] at cFa ⊢
  have CFa := Lib.hid cFa
  have Hfa := Lib.hid hfa
  have Hn := Lib.hid hn
  have K0 : Hid (St W [(A, parts.map sv)] W) := Lib.hid ⟨Below.refl _ _, hT, Mem.one hr⟩
  have HR := Lib.hid hR
  clear cFa hfa hn hr hR hm
  go_enter Tryd.func7, Tryd.ntmps7
  go_wp2_with fail
  refine (sanity_any W hT).mono ?_
  rintro e w1 ⟨rfl, hb1⟩
  have K1 := Lib.hid (K0.out.step hb1)
  clear hb1 K0 hT
  go_wp2_with fail
  refine (CFa.out w1 (K1.out.get A _ (.head _))).mono ?_
  rintro e w2 ⟨rfl, hb1⟩
  have K2 := Lib.hid (K1.out.step hb1)
  clear hb1 K1 CFa
  cases fa with
  | false =>
    go_wp2_with fail
    go_ret
    exact ⟨rfl, K2.out.1⟩
  | true =>
  have fw := (fewB_iff parts).1 Hfa.out.symm
  have Fw := Lib.hid fw
  obtain ⟨hzd, -⟩ := zero_of_info dig_zero
  obtain ⟨Zd, hZd⟩ : ∃ Zd, Zd = (H.zeros 16).map bv := ⟨_, rfl⟩
  rw [← hZd] at hzd
  have lZd : Zd.length = 16 := by rw [hZd, List.length_map, H.zeros_len]
  obtain ⟨d, hd⟩ : ∃ d, d = dig tag parts := ⟨_, rfl⟩
  obtain ⟨D, hD⟩ : ∃ D, D = d.map bv := ⟨_, rfl⟩
  have ld : d.length = 16 := by rw [hd, dig_len]
  have lD : D.length = 16 := by rw [hD, List.length_map, ld]
  have yD := size_dig lD
  have oD : D.toArray.all (·.oneCell') = true := all_oneCell_toArray (by rw [hD]; exact bytes_one _)
  have hli : (inp tag parts).length ≤ 6000 := by have h := inp_len tag parts fw.1 fw.2 parts.length; rwa [pre_full] at h
  have cO := fun (W : World) h1 h2 => of_any tag A cap parts W h1 (by omega) (fun s hs => by have := fw.2 s hs; omega) (by omega) h2
  have cP := fun (W : World) h1 h2 => of_any (tag % 256) A cap parts W h1 (by omega) (fun s hs => by have := fw.2 s hs; omega) (by rw [show inp (tag % 256) parts = inp tag parts by unfold inp tagB; rw [Int.emod_emod]]; omega) h2
  have cR := fun (W : World) h1 h2 => refOf_any tag A cap parts W h1 fw.1 fw.2 h2
  rw [← hd, ← hD, ← Hn.out] at cO cR
  rw [dig_mod, ← hd, ← hD, ← Hn.out] at cP
  have CO := Lib.hid cO
  have CP := Lib.hid cP
  have CR := Lib.hid cR
  have HD := Lib.hid (And.intro hD ld)
  have LL := Lib.hid (And.intro lZd lD)
  have YD := Lib.hid yD
  clear fw hZd lZd hd hD ld lD yD hli cO cP cR
  go_wp2_with fail
  refine (CO.out w2 (K2.out.get A _ (.head _)) K2.out.2.1).mono ?_
  rintro e w3 ⟨rfl, hb3⟩
  obtain ⟨w4, hW4, t4, d4, e4⟩ := row_new w3 44 16 Zd D LL.out.1 LL.out.2
  have K4 := Lib.hid (((K2.out.step hb3).step e4).add d4.rd)
  have HW4 := Lib.hid hW4
  have T4 := Lib.hid t4
  clear hW4 t4 d4 e4 hb3 CO K2
  go_wp2_with (refine wpList_store_mid rfl 44 (.tmp 6) (.tmp 14) rfl w3.heap.size 0 D.toArray rfl rfl T4.out YD.out oD ?_; rw [← HW4.out])
  clear T4 HW4
  generalize w3.heap.size = V at *
  refine wp_region_guarded [15, 16, 17, 18, 19, 20, 21, 22, 23, 24, 25, 26, 27, 28, 29, 30] [.is (.bool true), .is (.bool true), .is (.agg D.toArray), .is (.int .i64 tag), .is (.slice A n cap), .is (.agg D.toArray), .is (.bool true), .is (.bool true), .is (.bool true), .is (.agg D.toArray), .is (.int .i64 tag), .is (.int .i64 (tag % 256)), .is (.slice A n cap), .is (.agg D.toArray), .is (.bool true), .is (.bool true)] (by kernel_rfl) (by kernel_rfl) ?_ ?_
  · intro i hi b w' hb hd hx o ho
    have hld := fun (e5 : b.tmps.getD 6 undef = .pointer (some ⟨V, 0, none⟩)) => run_loadAt_mid (P := Tryd.prog) w' V 0 44 D _ ((K4.out.step hb).get (some ⟨V, 0, none⟩) D (.head _)).range Tryd.underlying44 rfl (by rw [← List.size_toArray]; exact YD.out)
    have heq : ∀ X Y : Operand, (do eqGuard .eql 44 X Y (.agg D.toArray) (.agg D.toArray); binOp .eql 44 (.agg D.toArray) (.agg D.toArray) : Sem Value).run Tryd.prog w' = .ok (.bool true) w' := fun X Y => by
      have hv := run_eql_dig X Y d d HD.out.2 HD.out.2 w'
      rwa [← HD.out.1, decide_eq_true rfl] at hv
    have hRw : RTab w' := HR.out.below (K4.out.1.trans (hb.mono K4.out.1.size)) (Nat.le_refl _)
    have hKw := K4.out.step hb
    match i, hi with
    | 0, _ => obtain rfl := Option.some.inj ho; exact ⟨hx 5 rfl, Below.refl _ _⟩
    | 1, _ => obtain rfl := Option.some.inj ho; exact ⟨hd 0 (by kernel_rfl) (by decide), Below.refl _ _⟩
    | 2, _ =>
      obtain rfl := Option.some.inj ho
      refine ⟨true, hd 1 (by kernel_rfl) (by decide), fun _ => ?_, fun h => absurd rfl h⟩
      have e5 : b.tmps.getD 6 undef = .pointer (some ⟨V, 0, none⟩) := hx 6 rfl
      have hv := hld e5
      rw [← e5] at hv
      exact runs_value rfl hv ⟨rfl, Below.refl _ _⟩
    | 3, _ =>
      obtain rfl := Option.some.inj ho
      exact ⟨true, hd 1 (by kernel_rfl) (by decide), fun _ => ⟨hx 0 rfl, Below.refl _ _⟩, fun h => absurd rfl h⟩
    | 4, _ =>
      obtain rfl := Option.some.inj ho
      exact ⟨true, hd 1 (by kernel_rfl) (by decide), fun _ => ⟨hx 1 rfl, Below.refl _ _⟩, fun h => absurd rfl h⟩
    | 5, _ =>
      obtain rfl := Option.some.inj ho
      refine ⟨true, hd 1 (by kernel_rfl) (by decide), fun _ => ?_, fun h => absurd rfl h⟩
      have e1 : b.tmps.getD 18 undef = .int .i64 tag := hd 3 (by kernel_rfl) (by decide)
      have e2 : b.tmps.getD 19 undef = .slice A n cap := hd 4 (by kernel_rfl) (by decide)
      refine runs_call rfl (fun _ _ => rfl) ?_
      show Calls _ _ #[b.tmps.getD 18 undef, b.tmps.getD 19 undef] w' _
      rw [e1, e2]
      exact (CR.out w' (hKw.get A _ (.tail _ (.head _))) hRw).mono fun e w'' h => ⟨_, h.1, rfl, h.2⟩
    | 6, _ =>
      obtain rfl := Option.some.inj ho
      refine ⟨true, hd 1 (by kernel_rfl) (by decide), fun _ => ?_, fun h => absurd rfl h⟩
      have e1 : b.tmps.getD 17 undef = .agg D.toArray := hd 2 (by kernel_rfl) (by decide)
      have e2 : b.tmps.getD 20 undef = .agg D.toArray := hd 5 (by kernel_rfl) (by decide)
      refine runs_value (X := (do eqGuard .eql 44 (.tmp 17) (.tmp 20) (b.tmps.getD 17 undef) (b.tmps.getD 20 undef); binOp .eql 44 (b.tmps.getD 17 undef) (b.tmps.getD 20 undef))) rfl ?_ ⟨rfl, Below.refl _ _⟩
      rw [e1, e2]
      exact heq _ _
    | 7, _ =>
      obtain rfl := Option.some.inj ho
      have e1 : b.tmps.getD 16 undef = .bool true := hd 1 (by kernel_rfl) (by decide)
      have e2 : b.tmps.getD 21 undef = .bool true := hd 6 (by kernel_rfl) (by decide)
      exact runs_pick rfl true e1 ⟨e2, Below.refl _ _⟩
    | 8, _ => obtain rfl := Option.some.inj ho; exact ⟨hd 7 (by kernel_rfl) (by decide), Below.refl _ _⟩
    | 9, _ =>
      obtain rfl := Option.some.inj ho
      refine ⟨true, hd 8 (by kernel_rfl) (by decide), fun _ => ?_, fun h => absurd rfl h⟩
      have e5 : b.tmps.getD 6 undef = .pointer (some ⟨V, 0, none⟩) := hx 6 rfl
      have hv := hld e5
      rw [← e5] at hv
      exact runs_value rfl hv ⟨rfl, Below.refl _ _⟩
    | 10, _ =>
      obtain rfl := Option.some.inj ho
      exact ⟨true, hd 8 (by kernel_rfl) (by decide), fun _ => ⟨hx 0 rfl, Below.refl _ _⟩, fun h => absurd rfl h⟩
    | 11, _ =>
      obtain rfl := Option.some.inj ho
      refine ⟨true, hd 8 (by kernel_rfl) (by decide), fun _ => ?_, fun h => absurd rfl h⟩
      have e1 : b.tmps.getD 25 undef = .int .i64 tag := hd 10 (by kernel_rfl) (by decide)
      have hv := run_and255 (.tmp 25) (.const (.int .i64 255)) tag w'
      rw [← e1] at hv
      exact runs_value rfl hv ⟨rfl, Below.refl _ _⟩
    | 12, _ =>
      obtain rfl := Option.some.inj ho
      exact ⟨true, hd 8 (by kernel_rfl) (by decide), fun _ => ⟨hx 1 rfl, Below.refl _ _⟩, fun h => absurd rfl h⟩
    | 13, _ =>
      obtain rfl := Option.some.inj ho
      refine ⟨true, hd 8 (by kernel_rfl) (by decide), fun _ => ?_, fun h => absurd rfl h⟩
      have e1 : b.tmps.getD 26 undef = .int .i64 (tag % 256) := hd 11 (by kernel_rfl) (by decide)
      have e2 : b.tmps.getD 27 undef = .slice A n cap := hd 12 (by kernel_rfl) (by decide)
      refine runs_call rfl (fun _ _ => rfl) ?_
      show Calls _ _ #[b.tmps.getD 26 undef, b.tmps.getD 27 undef] w' _
      rw [e1, e2]
      exact (CP.out w' (hKw.get A _ (.tail _ (.head _))) hKw.2.1).mono fun e w'' h => ⟨_, h.1, rfl, h.2⟩
    | 14, _ =>
      obtain rfl := Option.some.inj ho
      refine ⟨true, hd 8 (by kernel_rfl) (by decide), fun _ => ?_, fun h => absurd rfl h⟩
      have e1 : b.tmps.getD 24 undef = .agg D.toArray := hd 9 (by kernel_rfl) (by decide)
      have e2 : b.tmps.getD 28 undef = .agg D.toArray := hd 13 (by kernel_rfl) (by decide)
      refine runs_value (X := (do eqGuard .eql 44 (.tmp 24) (.tmp 28) (b.tmps.getD 24 undef) (b.tmps.getD 28 undef); binOp .eql 44 (b.tmps.getD 24 undef) (b.tmps.getD 28 undef))) rfl ?_ ⟨rfl, Below.refl _ _⟩
      rw [e1, e2]
      exact heq _ _
    | 15, _ =>
      obtain rfl := Option.some.inj ho
      have e1 : b.tmps.getD 23 undef = .bool true := hd 8 (by kernel_rfl) (by decide)
      have e2 : b.tmps.getD 29 undef = .bool true := hd 14 (by kernel_rfl) (by decide)
      exact runs_pick rfl true e1 ⟨e2, Below.refl _ _⟩
    | k + 16, h => exact absurd h (by simp)
  · intro vals w5 hb hf
    have e15 : vals 15 = .bool true := hf 15 (by decide)
    simp only [puts, List.length_cons, List.length_nil, Nat.zero_add, Nat.reduceAdd, List.drop_succ_cons, List.drop_zero, e15]
    have hfin := Lib.hid (K4.out.1.trans (hb.mono K4.out.1.size))
    clear e15 hf hb
    go_frame
    go_wp2_with fail
    go_ret
    exact ⟨rfl, hfin.out⟩
end Go.Proofs.YtmlnpnlajgnohaaDoor
