/- The contract of sanity. -/
import Derived.Test.YtmlnpnlajgnohaaDoorHashO
import Derived.Test.YtmlnpnlajgnohaaDoorHashEq
import Derived.Lib.SlBytesConst
namespace Go.Proofs.YtmlnpnlajgnohaaDoor
open Go.RowKit
set_option linter.unusedVariables false

def abc : List UInt8 := [97, 98, 99]
theorem abc_sha : hexS (H.sha abc) = [98, 97, 55, 56, 49, 54, 98, 102, 56, 102, 48, 49, 99, 102, 101, 97, 52, 49, 52, 49, 52, 48, 100, 101, 53, 100, 97, 101, 50, 50, 50, 51, 98, 48, 48, 51, 54, 49, 97, 51, 57, 54, 49, 55, 55, 97, 57, 99, 98, 52, 49, 48, 102, 102, 54, 49, 102, 50, 48, 48, 49, 53, 97, 100] := by
  have h : (hexS (H.sha abc) == [98, 97, 55, 56, 49, 54, 98, 102, 56, 102, 48, 49, 99, 102, 101, 97, 52, 49, 52, 49, 52, 48, 100, 101, 53, 100, 97, 101, 50, 50, 50, 51, 98, 48, 48, 51, 54, 49, 97, 51, 57, 54, 49, 55, 55, 97, 57, 99, 98, 52, 49, 48, 102, 102, 54, 49, 102, 50, 48, 48, 49, 53, 97, 100]) = true := by kernel_rfl
  exact eq_of_beq h
def hx1 : List UInt8 := [98, 97, 55, 56, 49, 54, 98, 102, 56, 102, 48, 49, 99, 102, 101, 97, 52, 49, 52, 49, 52, 48, 100, 101, 53, 100, 97, 101, 50, 50, 50, 51, 98, 48, 48, 51, 54, 49, 97, 51, 57, 54, 49, 55, 55, 97, 57, 99, 98, 52, 49, 48, 102, 102, 54, 49, 102, 50, 48, 48, 49, 53, 97, 100]
def hx2 : List UInt8 := [53, 98, 100, 99, 99, 49, 52, 54, 98, 102, 54, 48, 55, 53, 52, 101, 54, 97, 48, 52, 50, 52, 50, 54, 48, 56, 57, 53, 55, 53, 99, 55, 53, 97, 48, 48, 51, 102, 48, 56, 57, 100, 50, 55, 51, 57, 56, 51, 57, 100, 101, 99, 53, 56, 98, 57, 54, 52, 101, 99, 51, 56, 52, 51]
def hx3 : List UInt8 := [51, 54, 99, 100, 53, 48, 56, 53, 48, 51, 50, 57, 102, 56, 56, 52, 48, 54, 101, 51, 49, 98, 98, 56, 97, 55, 100, 56, 102, 98, 54, 50]
def jefe : List UInt8 := [74, 101, 102, 101]
def whatdo : List UInt8 := [119, 104, 97, 116, 32, 100, 111, 32, 121, 97, 32, 119, 97, 110, 116, 32, 102, 111, 114, 32, 110, 111, 116, 104, 105, 110, 103, 63]

theorem abc_sha' : hexS (H.sha abc) = hx1 := abc_sha
theorem mac_hex : hexS (mac jefe whatdo) = hx2 := by
  have h : (hexS (mac jefe whatdo) == hx2) = true := by kernel_rfl
  exact eq_of_beq h
theorem dig_hex : hexS (dig 8 [bs [97], bs []]) = hx3 := by
  have h : (hexS (dig 8 [bs [97], bs []]) == hx3) = true := by kernel_rfl
  exact eq_of_beq h

theorem conv_lit (w : World) (C : Array Value) (n c : Nat) : (convert 22 22 (.slice (some ⟨w.heap.size, 0, none⟩) n c)).run Tryd.prog (w.alloc (.cells C 5)) = .ok (.slice (some ⟨w.heap.size, 0, none⟩) n c) (w.alloc (.cells C 5 (C.size, C.size + 1))) :=
  Lib.run_convert_bytes_const w _ _ C n c Tryd.underlying22 Tryd.underlying5
theorem rd_lit (w : World) (xs : List Value) (t : TypeId) (p : Nat × Nat) : Rd (w.alloc (.cells xs.toArray t p)) (w.alloc (.cells xs.toArray t p)).heap.size (some ⟨w.heap.size, 0, none⟩) xs := fun _ =>
  ⟨w.heap.size, 0, rfl, by simp, fun j u hu => by rw [← hu]; unfold World.cell?; rw [heap_alloc_new w (.cells xs.toArray t p)]; simp⟩
/-- A row in a variable of its own. -/
theorem row_new (w : World) (t : TypeId) (n : Nat) (Z R : List Value) (hZ : Z.length = n) (hR : R.length = n) :
    ∃ W2, W2 = (w.alloc (.cells Z.toArray t)).setCells w.heap.size 0 R ∧ (w.alloc (.cells Z.toArray t)).there w.heap.size 0 R.toArray.size ∧ Blk W2 w.heap.size R t ∧ Below w.heap.size w W2 :=
  ⟨_, rfl, (Blk.new w Z _).there 0 _ (by rw [List.size_toArray, hZ, hR]; omega), (Blk.new w Z _).whole R (by rw [hZ, hR]), below_setCells _ (Nat.le_refl _) _ _ _ ((Below.refl _ _).alloc (Nat.le_refl _) _)⟩
theorem sSum3 (R : List Value) (w : World) (hR : R = (H.sha abc).map bv) (hT : HTab w) :
    Calls Tryd.prog 11 #[.slice (some ⟨w.heap.size, 0, none⟩) 3 3] (w.alloc (.cells #[.int .u8 97, .int .u8 98, .int .u8 99] 5 (3, 4))) fun e w' => e = .returned (.agg R.toArray) ∧ Below w.heap.size w w' := by
  subst hR
  exact (hsum_any _ 3 abc _ (rd_lit w (abc.map bv) 5 (3, 4)) (by decide) (hT.below ((Below.refl _ _).alloc (Nat.le_refl _) _) (Nat.le_refl _))).mono fun e w' h => ⟨h.1, behind1 h.2 (by simp)⟩

theorem sOf (D : List Value) (w : World) (hD : D = (dig 8 [bs [97], bs []]).map bv) (hT : HTab w) :
    Calls Tryd.prog 21 #[.int .i64 8, .slice (some ⟨w.heap.size, 0, none⟩) 2 2] (w.alloc (.cells #[.string { data := #[97] }, .string { data := #[] }] 9)) fun e w' => e = .returned (.agg D.toArray) ∧ Below w.heap.size w w' := by
  subst hD
  exact (of_any 8 _ 2 [bs [97], bs []] _ (rd_new w ([bs [97], bs []].map sv) 9) (by decide) (by intro s hs; simp at hs; rcases hs with rfl | rfl <;> decide) (by decide) (hT.below ((Below.refl _ _).alloc (Nat.le_refl _) _) (Nat.le_refl _))).mono fun e w' h => ⟨h.1, behind1 h.2 (by simp)⟩
theorem sMac (w : World) (m : ByteArray) (hm : m = bs (mac jefe whatdo)) (hT : HTab w) :
    Calls Tryd.prog 18 #[.string { data := #[74, 101, 102, 101] }, .string { data := #[119, 104, 97, 116, 32, 100, 111, 32, 121, 97, 32, 119, 97, 110, 116, 32, 102, 111, 114, 32, 110, 111, 116, 104, 105, 110, 103, 63] }] w fun e w' => e = .returned (.string m) ∧ Below w.heap.size w w' := by
  subst hm
  exact mac_any _ _ w (by decide) (by decide) hT
theorem sEqual (a b : ByteArray) (w : World) (ha : a.size ≤ 100) (hb : b.size ≤ 100) (r : Bool) (h : decide (sb a = sb b) = r) :
    Calls Tryd.prog 24 #[.string a, .string b] w (Tells r w) := h ▸ equal_any a b w (by omega) (by omega)

theorem sBytes32 (R : List Value) (q : ByteArray) (w : World) (hR : R = (H.sha abc).map bv) (hq : q = bs (H.sha abc)) :
    Calls Tryd.prog 20 #[.agg R.toArray] w fun e w' => e = .returned (.string q) ∧ Below w.heap.size w w' := by
  subst hR hq
  exact bytes32_any _ w (H.sha_len _)
theorem sText (D : List Value) (q : ByteArray) (w : World) (hD : D = (dig 8 [bs [97], bs []]).map bv) (hq : q = bs (dig 8 [bs [97], bs []])) :
    Calls Tryd.prog 26 #[.agg D.toArray] w fun e w' => e = .returned (.string q) ∧ Below w.heap.size w w' := by
  subst hD hq
  exact text_any _ w (dig_len _ _)
theorem sHex (l : List UInt8) (q r : ByteArray) (w : World) (hq : q = bs l) (hl : l.length ≤ 1000000) (hr : bs (hexS l) = r) :
    Calls Tryd.prog 25 #[.string q] w fun e w' => e = .returned (.string r) ∧ Below w.heap.size w w' := by
  subst hq hr
  have := hex_any (bs l) w (by rw [bbytes_size]; exact hl)
  rwa [sb_bs] at this
theorem hex1 : bs (hexS (H.sha abc)) = { data := #[98, 97, 55, 56, 49, 54, 98, 102, 56, 102, 48, 49, 99, 102, 101, 97, 52, 49, 52, 49, 52, 48, 100, 101, 53, 100, 97, 101, 50, 50, 50, 51, 98, 48, 48, 51, 54, 49, 97, 51, 57, 54, 49, 55, 55, 97, 57, 99, 98, 52, 49, 48, 102, 102, 54, 49, 102, 50, 48, 48, 49, 53, 97, 100] } := by rw [abc_sha]; rfl
theorem hex2 : bs (hexS (mac jefe whatdo)) = { data := #[53, 98, 100, 99, 99, 49, 52, 54, 98, 102, 54, 48, 55, 53, 52, 101, 54, 97, 48, 52, 50, 52, 50, 54, 48, 56, 57, 53, 55, 53, 99, 55, 53, 97, 48, 48, 51, 102, 48, 56, 57, 100, 50, 55, 51, 57, 56, 51, 57, 100, 101, 99, 53, 56, 98, 57, 54, 52, 101, 99, 51, 56, 52, 51] } := by rw [mac_hex]; rfl
theorem hex3 : bs (hexS (dig 8 [bs [97], bs []])) = { data := #[51, 54, 99, 100, 53, 48, 56, 53, 48, 51, 50, 57, 102, 56, 56, 52, 48, 54, 101, 51, 49, 98, 98, 56, 97, 55, 100, 56, 102, 98, 54, 50] } := by rw [dig_hex]; rfl
theorem wpList_load_wanted {P : Program} {ops : Array Oper} {rest : List Oper} {op : Oper} {a : Act} {w : World} {Q : Exit → Act → World → Prop} (ty : TypeId) (x : Operand) (ho : op.op = .load ty x) (hw : Region.wanted op (yielded ops a.tmps) = true)
    (b o : Nat) (hx : a.eval x = .pointer (some ⟨b, o, none⟩)) (cs : List Value) (d : TypeDesc) (hc : w.rangeAt b o cs)
    (hu : P.underlying ty = some d) (hd : d.isRow = true) (hi : (P.info? ty).map (·.size) = some cs.length)
    (h : wpList P ops Q rest (a.put op.dst (.agg cs.toArray)) w) : wpList P ops Q (op :: rest) a w :=
  wpList_step fun K hK => by simp only [hw, if_true]; exact wp_load_mid ty x ho b o hx cs d hc hu hd hi (hK _ _ h)
theorem row_load (w : World) (b : Nat) (t e : TypeId) (n : Nat) (R : List Value) (hb : Blk w b R t) (ht : Tryd.prog.underlying t = some (.array n e)) (hs : (Tryd.prog.info? t).map (·.size) = some R.toArray.size) :
    (Instr.loadAt t (.pointer (some ⟨b, 0, none⟩))).run Tryd.prog w = .ok (.agg R.toArray) w :=
  run_loadAt_mid (P := Tryd.prog) w b 0 t R _ hb.range ht rfl (by rw [← List.size_toArray]; exact hs)

set_option maxHeartbeats 4000000 in
set_option maxRecDepth 100000 in
theorem sanity_any (w : World) (hT : HTab w) : Calls Tryd.prog 10 #[] w (Tells true w) := by
  obtain ⟨hz, -⟩ := zero_of_info sum_zero
  obtain ⟨hzd, -⟩ := zero_of_info dig_zero
  obtain ⟨Z, hZ⟩ : ∃ Z, Z = (H.zeros 32).map bv := ⟨_, rfl⟩
  obtain ⟨Zd, hZd⟩ : ∃ Zd, Zd = (H.zeros 16).map bv := ⟨_, rfl⟩
  obtain ⟨R, hR⟩ : ∃ R, R = (H.sha abc).map bv := ⟨_, rfl⟩
  obtain ⟨D, hD⟩ : ∃ D, D = (dig 8 [bs [97], bs []]).map bv := ⟨_, rfl⟩
  obtain ⟨S0, hS0⟩ : ∃ S0, S0 = (Strm []).toArray := ⟨_, rfl⟩
  obtain ⟨S1, hS1⟩ : ∃ S1, S1 = (Strm [97]).toArray := ⟨_, rfl⟩
  obtain ⟨S2, hS2⟩ : ∃ S2, S2 = (Strm abc).toArray := ⟨_, rfl⟩
  rw [← hZ] at hz
  rw [← hZd] at hzd
  have lZ : Z.length = 32 := by rw [hZ, List.length_map, H.zeros_len]
  have lZd : Zd.length = 16 := by rw [hZd, List.length_map, H.zeros_len]
  have lR : R.length = 32 := by rw [hR, List.length_map, H.sha_len]
  have lD : D.length = 16 := by rw [hD, List.length_map, dig_len]
  have cBegin := fun W : World => begin_strm W
  rw [← hS0] at cBegin
  have cAdd1 := fun (W : World) h => add_to [] [97] S0 S1 (bs [97]) W hS0 hS1 (by rw [sb_bs]; rfl) (by decide) h
  have cAdd2 := fun (W : World) h => add_to [97] abc S1 S2 (bs [98, 99]) W hS1 hS2 (by rw [sb_bs]; rfl) (by decide) h
  have cSum := fun (W : World) h => sum_of abc S2 R W hS2 hR (by decide) h
  have cSum3 := fun (W : World) h => sSum3 R W hR h
  have y1 := size_sum lR
  have y2 := size_dig lD
  have o1 : R.toArray.all (·.oneCell') = true := all_oneCell_toArray (by rw [hR]; exact bytes_one _)
  have o2 : D.toArray.all (·.oneCell') = true := all_oneCell_toArray (by rw [hD]; exact bytes_one _)
  have hcs := conv_lit w #[.int .u8 97, .int .u8 98, .int .u8 99] 3 3
  have CB := Lib.hid cBegin
  have CA1 := Lib.hid cAdd1
  have CA2 := Lib.hid cAdd2
  have CS := Lib.hid cSum
  have CS3 := Lib.hid cSum3
  have L := Lib.hid (And.intro lZ (And.intro lZd (And.intro lR lD)))
  have Y1 := Lib.hid y1
  have Y2 := Lib.hid y2
  have HR := Lib.hid hR
  have HD := Lib.hid hD
  have HT := Lib.hid hT
  clear hZ hZd hR hD hS0 hS1 hS2 lZ lZd lR lD cBegin cAdd1 cAdd2 cSum cSum3 y1 y2 hT
  go_enter Tryd.func10, Tryd.ntmps10
  go_wp2_with fail
  refine (CS3.out w HT.out).mono ?_
  rintro e w1 ⟨rfl, hb1⟩
  obtain ⟨Wa, hWa, t1, d1, e1⟩ := row_new w1 24 32 Z R L.out.1 L.out.2.2.1
  have Ka := Lib.hid (And.intro d1 (hb1.trans (e1.mono hb1.size)))
  have HWa := Lib.hid hWa
  have T1 := Lib.hid t1
  obtain ⟨Va, hVa⟩ : ∃ Va, Va = w1.heap.size := ⟨_, rfl⟩
  clear hWa t1 d1 e1 hb1
  go_wp2_with (refine wpList_store_mid rfl 24 (.tmp 1) (.tmp 9) rfl w1.heap.size 0 R.toArray rfl rfl T1.out Y1.out o1 ?_; rw [← HWa.out, ← hVa])
  clear T1 HWa
  generalize w1.heap.size = Va at *
  refine (CB.out Wa).mono ?_
  rintro e w2 ⟨rfl, hb2⟩
  have ht2 := (HT.out.next Ka.out.2).next hb2
  go_wp2_with fail
  refine (CA1.out w2 ht2).mono ?_
  rintro e w3 ⟨rfl, hb'⟩
  have hb3 := hb2.trans (hb'.mono hb2.size)
  have ht3 := ht2.next hb'
  clear hb2 hb' ht2
  go_wp2_with fail
  refine (CA2.out w3 ht3).mono ?_
  rintro e w4 ⟨rfl, hb'⟩
  have hb4 := hb3.trans (hb'.mono hb3.size)
  have ht4 := ht3.next hb'
  clear hb3 hb' ht3
  go_wp2_with fail
  refine (CS.out w4 ht4).mono ?_
  rintro e w5 ⟨rfl, hb'⟩
  have hb5 := hb4.trans (hb'.mono hb4.size)
  obtain ⟨Wb, hWb, t1, d1, e1⟩ := row_new w5 24 32 Z R L.out.1 L.out.2.2.1
  have Kb := Lib.hid (And.intro (Ka.out.1.below (hb5.trans (e1.mono hb5.size)) Ka.out.1.lt) (And.intro d1 (Ka.out.2.trans ((hb5.trans (e1.mono hb5.size)).mono Ka.out.2.size))))
  have HWb := Lib.hid hWb
  have T1 := Lib.hid t1
  clear hWb t1 d1 e1 hb4 hb' ht4 hb5 Ka
  go_wp2_with (refine wpList_store_mid rfl 24 (.tmp 2) (.tmp 13) rfl w5.heap.size 0 R.toArray rfl rfl T1.out Y1.out o1 ?_; rw [← HWb.out])
  clear T1 HWb
  generalize w5.heap.size = Vb at *
  obtain ⟨m, hm⟩ : ∃ m, m = bs (mac jefe whatdo) := ⟨_, rfl⟩
  have Hm := Lib.hid hm
  clear hm
  refine (sOf D Wb HD.out (HT.out.next Kb.out.2.2)).mono ?_
  rintro e w6 ⟨rfl, hb6⟩
  obtain ⟨Wc, hWc, t1, d1, e1⟩ := row_new w6 44 16 Zd D L.out.2.1 L.out.2.2.2
  have Kc := Lib.hid (And.intro (Kb.out.1.below (hb6.trans (e1.mono hb6.size)) Kb.out.1.lt) (And.intro (Kb.out.2.1.below (hb6.trans (e1.mono hb6.size)) Kb.out.2.1.lt) (And.intro d1 (Kb.out.2.2.trans ((hb6.trans (e1.mono hb6.size)).mono Kb.out.2.2.size)))))
  have HWc := Lib.hid hWc
  have T1 := Lib.hid t1
  clear hWc t1 d1 e1 hb6 Kb
  go_wp2_with (refine wpList_store_mid rfl 44 (.tmp 3) (.tmp 15) rfl w6.heap.size 0 D.toArray rfl rfl T1.out Y2.out o2 ?_; rw [← HWc.out])
  clear T1 HWc
  generalize w6.heap.size = Vc at *
  refine (sMac Wc m Hm.out (HT.out.next Kc.out.2.2.2)).mono ?_
  rintro e w7 ⟨rfl, hb7⟩
  go_wp2_with fail
  refine (sEqual _ _ w7 (by decide) (by decide) true (by decide)).mono ?_
  rintro e w8 ⟨rfl, hb'⟩
  have hb8 := hb7.trans (hb'.mono hb7.size)
  clear hb7 hb'
  go_wp2_with fail
  refine (sEqual _ _ w8 (by decide) (by decide) false (by decide)).mono ?_
  rintro e w9 ⟨rfl, hb'⟩
  have hb9 := hb8.trans (hb'.mono hb8.size)
  clear hb8 hb'
  go_wp2_with fail
  refine (sEqual _ _ w9 (by decide) (by decide) false (by decide)).mono ?_
  rintro e w10 ⟨rfl, hb'⟩
  have hb10 := hb9.trans (hb'.mono hb9.size)
  clear hb9 hb'
  have k10 := Kc.out.2.2.2.trans (hb10.mono Kc.out.2.2.2.size)
  have x1 := Kc.out.1.below hb10 Kc.out.1.lt
  have x2 := Kc.out.2.1.below hb10 Kc.out.2.1.lt
  have x3 := Kc.out.2.2.1.below hb10 Kc.out.2.2.1.lt
  have X := Lib.hid (And.intro x1 (And.intro x2 (And.intro x3 k10)))
  have r1 := Lib.hid x1.range
  have n1 : Hid ((Tryd.prog.info? 24).map (·.size) = some R.length) := Lib.hid (by rw [← List.size_toArray]; exact Y1.out)
  have n2 : Hid ((Tryd.prog.info? 44).map (·.size) = some D.length) := Lib.hid (by rw [← List.size_toArray]; exact Y2.out)
  clear hb10 k10 x1 x2 x3 Kc
  obtain ⟨q1, hq1⟩ : ∃ q1, q1 = bs (H.sha abc) := ⟨_, rfl⟩
  obtain ⟨q3, hq3⟩ : ∃ q3, q3 = bs (dig 8 [bs [97], bs []]) := ⟨_, rfl⟩
  have H1 := Lib.hid hq1
  have H3 := Lib.hid hq3
  clear hq1 hq3
  go_wp2_with (refine wpList_load_wanted 24 (.tmp 1) rfl rfl Va 0 rfl R _ r1.out Tryd.underlying24 rfl n1.out ?_)
  refine (sBytes32 R q1 w10 HR.out H1.out).mono ?_
  rintro e w11 ⟨rfl, hb11⟩
  clear r1
  go_wp2_with fail
  refine (sHex _ q1 _ w11 H1.out (by rw [H.sha_len]; decide) hex1).mono ?_
  rintro e w12 ⟨rfl, hb'⟩
  have hb12 := hb11.trans (hb'.mono hb11.size)
  have r2 := Lib.hid (X.out.1.below hb12 X.out.1.lt).range
  have r3 := Lib.hid (X.out.2.1.below hb12 X.out.2.1.lt).range
  have heq := eq_sum (H.sha abc) (H.sha abc) (H.sha_len _) (H.sha_len _) w12
  rw [← HR.out, decide_eq_true rfl] at heq
  clear hb11 hb'
  go_wp2_with (first | (refine wpList_load_wanted 24 (.tmp 1) rfl rfl Va 0 rfl R _ r2.out Tryd.underlying24 rfl n1.out ?_) | (refine wpList_load_wanted 24 (.tmp 2) rfl rfl Vb 0 rfl R _ r3.out Tryd.underlying24 rfl n1.out ?_))
  refine (sHex _ m _ w12 Hm.out (by rw [mac_len]; decide) hex2).mono ?_
  rintro e w13 ⟨rfl, hb'⟩
  have hb13 := hb12.trans (hb'.mono hb12.size)
  have r4 := Lib.hid (X.out.2.2.1.below hb13 X.out.2.2.1.lt).range
  clear hb12 hb' r2 r3 heq
  go_wp2_with (refine wpList_load_wanted 44 (.tmp 3) rfl rfl Vc 0 rfl D _ r4.out Tryd.underlying44 rfl n2.out ?_)
  refine (sText D q3 w13 HD.out H3.out).mono ?_
  rintro e w14 ⟨rfl, hb'⟩
  have hb14 := hb13.trans (hb'.mono hb13.size)
  clear hb13 hb' r4
  go_wp2_with fail
  refine (sHex _ q3 _ w14 H3.out (by rw [dig_len]; decide) hex3).mono ?_
  rintro e w15 ⟨rfl, hb'⟩
  have hb15 := Lib.hid (X.out.2.2.2.trans ((hb14.trans (hb'.mono hb14.size)).mono X.out.2.2.2.size))
  clear hb14 hb'
  go_wp2_with fail
  go_ret
  exact ⟨rfl, hb15.out⟩
end Go.Proofs.YtmlnpnlajgnohaaDoor
