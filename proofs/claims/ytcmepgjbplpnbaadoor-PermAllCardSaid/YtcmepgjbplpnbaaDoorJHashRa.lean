import Derived.Test.YtcmepgjbplpnbaaDoorJHashLaid
import Derived.Test.YtcmepgjbplpnbaaDoorJHashY
import Derived.Test.YtcmepgjbplpnbaaDoorJHashZ
import Derived.Test.YtcmepgjbplpnbaaDoorJOpen
import Derived.Test.YtcmepgjbplpnbaaDoorJVars

section
/- The contract of the reference's Sum. -/





namespace Go.Proofs.YtcmepgjbplpnbaaDoor
open Go.RowKit
set_option linter.unusedVariables false
set_option maxRecDepth 100000

theorem wnotr (x : H.W) : bits .xor .u32 (nv x) 4294967295 = nv (H.onot x) := by
  have h := wnot' x
  rw [show (if IntKind.u32.signed = true then (-1 : Int) else IntKind.u32.max) = 4294967295 from by decide] at h
  rw [← h]
  have e : nv (4294967295#32) = 4294967295 := by decide
  have h1 := wxor x (4294967295#32)
  have h2 := wxor (4294967295#32) x
  rw [e] at h1 h2
  rw [h1, h2]
  unfold H.oxor
  rw [BitVec.xor_comm]
/-- While a block is made part of the state: the result's variable, the state's, the words', the message. -/
def Rnd (w : World) (Z : List Value) (s : H.St) (V : Nat) (X : List H.W) (Am : Option Addr) (P : List UInt8) (wr : World) : Prop :=
  Blk wr w.heap.size Z 73 ∧ Blk wr (w.heap.size + 1) (s.words.map wv) 65 ∧ Blk wr V (X.map wv) 84 ∧ RdB wr wr.heap.size Am P ∧ Below w.heap.size w wr
section
variable {w wr : World} {Z : List Value} {s : H.St} {V : Nat} {X : List H.W} {Am : Option Addr} {P : List UInt8}
theorem Rnd.drewN (h : Rnd w Z s V X Am P wr) (n : Nat) : Rnd w Z s V X Am P (wr.drewN n) := ⟨h.1.drewN n, h.2.1.drewN n, h.2.2.1.drewN n, h.2.2.2.1, drewN_below h.2.2.2.2 n⟩
theorem Rnd.word (h : Rnd w Z s V X Am P wr) (j : Nat) (hj : j < X.length) : wr.cell? ⟨V, j, none⟩ = some (.int .u32 (nv (H.wat X j))) :=
  h.2.2.1.cell j (wv (H.wat X j)) (by rw [List.getElem?_map, getD_at X j 0 hj]; rfl)
end
/-- Between blocks. -/
def Btw (w : World) (Z : List Value) (s : H.St) (Am : Option Addr) (P : List UInt8) (wr : World) : Prop :=
  Blk wr w.heap.size Z 73 ∧ Blk wr (w.heap.size + 1) (s.words.map wv) 65 ∧ RdB wr wr.heap.size Am P ∧ Below w.heap.size w wr
theorem Btw.below {w wr w' : World} {Z : List Value} {s : H.St} {Am : Option Addr} {P : List UInt8} (h : Btw w Z s Am P wr) (hb : Below wr.heap.size wr w') : Btw w Z s Am P w' :=
  ⟨h.1.below hb h.1.lt, h.2.1.below hb h.2.1.lt, (h.2.2.1.below hb).more hb.size, h.2.2.2.trans (hb.mono h.2.2.2.size)⟩
theorem words_zero : (Tryd.prog.info? 84).map (fun i => (i.zero, i.size)) = some (some (.agg (List.replicate 64 (wv 0)).toArray), 64) := by kernel_rfl
theorem state_zero : (Tryd.prog.info? 65).map (fun i => (i.zero, i.size)) = some (some (.agg (List.replicate 8 (wv 0)).toArray), 8) := by kernel_rfl
theorem size_words {xs : List Value} (h : xs.length = 64) : (Tryd.prog.info? 84).map (·.size) = some xs.toArray.size := by rw [List.size_toArray, h]; kernel_rfl
theorem size_state {xs : List Value} (h : xs.length = 8) : (Tryd.prog.info? 65).map (·.size) = some xs.toArray.size := by rw [List.size_toArray, h]; kernel_rfl
def zero8V : List Value := [.int .u32 0, .int .u32 0, .int .u32 0, .int .u32 0, .int .u32 0, .int .u32 0, .int .u32 0, .int .u32 0]
def initV : List Value := [.int .u32 1779033703, .int .u32 3144134277, .int .u32 1013904242, .int .u32 2773480762, .int .u32 1359893119, .int .u32 2600822924, .int .u32 528734635, .int .u32 1541459225]
theorem initV_eq : initV = H.init.words.map wv := by rfl
theorem rdb_part {w : World} {B cap : Nat} {A : Option Addr} {l : List UInt8} (h : RdB w B A l) {lo n : Nat} (hh : lo + n ≤ l.length) (hc : l.length ≤ cap) : RdB w B (cutA A lo cap) ((l.drop lo).take n) := by
  have := Rd.cut (lo := lo) (hi := lo + n) (cap := cap) h (by rw [List.length_map]; exact hh) (by omega)
  unfold RdB
  rw [List.map_take, List.map_drop]
  rw [List.drop_take, show lo + n - lo = n by omega] at this
  exact this
theorem rdb_apart {w : World} {B g c o : Nat} {P : List UInt8} (h : RdB w B (some ⟨g, 0, none⟩) P) (vs : List Value) (hne : g ≠ c) : RdB (w.setCells c o vs) B (some ⟨g, 0, none⟩) P := fun hn => by
  obtain ⟨b, off, e, hb, _⟩ := h hn
  have hr := World.rangeAt_setCells_apart (Rd.range h) c o vs (.inl hne)
  simp only [Option.some.injEq, Addr.mk.injEq] at e
  obtain ⟨rfl, rfl, -⟩ := e
  exact ⟨_, 0, rfl, hb, fun j u hu => hr j u hu⟩
/-- While the hash is written out. -/
def Fin32 (w : World) (Z : List Value) (F : H.St) (wr : World) : Prop := Blk wr w.heap.size Z 73 ∧ Blk wr (w.heap.size + 1) (F.words.map wv) 65 ∧ Below w.heap.size w wr
theorem fold_step (P : List UInt8) (s : H.St) (i : Nat) : H.fold P s (i + 1) = H.compress (H.fold P s i) (H.blk P i) := rfl

set_option maxRecDepth 100000 in
set_option maxHeartbeats 4000000 in
theorem refSum_any (A : Option Addr) (cap : Nat) (l : List UInt8) (w : World) (hr : RdB w w.heap.size A l) (hl : l.length ≤ 100000000) (hR : RTab w) :
    Calls Tryd.prog 64 #[.slice A l.length cap] w fun e w' => e = .returned (.agg ((H.sha l).map bv).toArray) ∧ Below w.heap.size w w' := by
  obtain ⟨hz, -⟩ := zero_of_info sum_zero
  obtain ⟨hz64, -⟩ := zero_of_info words_zero
  obtain ⟨Z, hZ⟩ : ∃ Z, Z = (H.zeros 32).map bv := ⟨_, rfl⟩
  obtain ⟨Z64, hZ64⟩ : ∃ Z, Z = List.replicate 64 (wv 0) := ⟨_, rfl⟩
  rw [← hZ] at hz
  rw [← hZ64] at hz64
  have lZ : Z.length = 32 := by rw [hZ, List.length_map, H.zeros_len]
  have lZ64 : Z64.length = 64 := by rw [hZ64, List.length_replicate]
  obtain ⟨W1, hW1⟩ : ∃ W1, W1 = w.alloc (.cells Z.toArray 73) := ⟨_, rfl⟩
  have hb1 : Below w.heap.size w W1 := by rw [hW1]; exact (Below.refl _ _).alloc (Nat.le_refl _) _
  have hk1 : Blk W1 w.heap.size Z 73 := by rw [hW1]; exact Blk.new w _ _
  have hs1 : W1.heap.size = w.heap.size + 1 := by rw [hW1]; simp only [World.size_alloc]
  obtain ⟨W2, hW2⟩ : ∃ W2, W2 = W1.alloc (.cells initV.toArray 65) := ⟨_, rfl⟩
  have d2 : Blk W2 W1.heap.size initV 65 := by rw [hW2]; exact Blk.new W1 _ _
  have e2 : Below W1.heap.size W1 W2 := by rw [hW2]; exact (Below.refl _ _).alloc (Nat.le_refl _) _
  have K2 : Btw w Z H.init A l W2 := ⟨hk1.below e2 hk1.lt, by rw [← initV_eq, ← hs1]; exact d2, ((hr.below hb1).more (by omega) |>.below e2).more e2.size, hb1.trans (e2.mono hb1.size)⟩
  obtain ⟨n, hn⟩ : ∃ n, n = l.length := ⟨_, rfl⟩
  have cP := refPadded_any A cap l W2 K2.2.2.1 hl
  obtain ⟨P, hP⟩ : ∃ P, P = H.pad l := ⟨_, rfl⟩
  rw [← hn] at cP hl ⊢
  rw [← hP] at cP
  have CP := Lib.hid cP
  have HP := Lib.hid hP
  have HK2 := Lib.hid K2
  have HW1 := Lib.hid hW1
  have HW2 := Lib.hid hW2
  have HRt := Lib.hid hR
  have Hn := Lib.hid hn
  have S1 := Lib.hid hs1
  have HZ := Lib.hid hZ
  have LL := Lib.hid (And.intro lZ lZ64)
  clear hZ hZ64 lZ lZ64 hW1 hb1 hk1 hs1 hW2 d2 e2 K2 cP hP hR hr hn
  go_enter Tryd.func64, Tryd.ntmps64
  go_wp2_with fail
  change Calls _ _ _ ((w.alloc _).alloc (.cells initV.toArray _)) _
  rw [← HW1.out, ← HW2.out]
  refine CP.out.mono ?_
  rintro e w3 ⟨v3, rfl, hown3, hb3⟩
  obtain ⟨g0, c0, e0, hg0, -, -, -, -⟩ := own_form hown3 (by rw [HP.out, H.pad_len]; omega)
  obtain ⟨Am, cm, e1, hrm, hcm1, hcm2⟩ := own_rd (B := 0) hown3
  have hAm : Am = some ⟨g0, 0, none⟩ := by
    rw [e0] at e1
    injection e1 with h1 h2 h3
    exact h1.symm
  have hg2 : w.heap.size + 2 ≤ g0 := by have := HK2.out.2.1.lt; omega
  have HA := Lib.hid (And.intro hAm hg2)
  clear e0 hg0 hAm hg2
  subst e1
  have hbs : Btw w Z H.init Am P w3 := ⟨HK2.out.1.below hb3 HK2.out.1.lt, HK2.out.2.1.below hb3 HK2.out.2.1.lt, hrm, HK2.out.2.2.2.trans (hb3.mono HK2.out.2.2.2.size)⟩
  obtain ⟨nb, hnb⟩ : ∃ nb, nb = P.length / 64 := ⟨_, rfl⟩
  have hP64 : P.length % 64 = 0 := by rw [HP.out]; exact H.pad_mod l
  have hPle : P.length ≤ 100000200 := by rw [HP.out, H.pad_len, ← Hn.out]; omega
  obtain ⟨pl, hpl⟩ : ∃ pl, pl = P.length := ⟨_, rfl⟩
  rw [← hpl] at hcm1 hnb hP64 hPle ⊢
  have HB := Lib.hid hbs
  have HNB := Lib.hid (And.intro hnb (And.intro hP64 hpl))
  clear hown3 hb3 hrm hbs hnb hP64 hpl CP HK2 HW1 HW2
  go_wp2_with fail
  go_loopw [5] (fun a wr => ∃ (i q : Nat), Hid (q = 64 * i) ∧ i ≤ nb ∧ a = .int .i64 q ∧ Btw w Z (H.fold P H.init i) Am P wr) (fun a _ => pl - (intOf a).toNat)
  case atStart => exact ⟨0, 0, Lib.hid rfl, Nat.zero_le _, rfl, HB.out⟩
  case round =>
    clear HB
    obtain ⟨i, q, Hq, hi, rfl, hB⟩ := hrel
    have KB := Lib.hid hB
    clear hB
    by_cases hlt : i < nb
    · have hq1 : q + 64 ≤ pl := by have := Hq.out; have := HNB.out.1; have := HNB.out.2.1; omega
      have hq2 : (q : Int) < pl := by omega
      have hcut : (Instr.slice 57 (.slice Am pl cm) (some (.int .i64 (q : Int))) (some (.int .i64 ((q : Int) + 64))) none).run Tryd.prog wr = .ok (.slice (cutA Am q cm) 64 (cm - q)) wr := by
        have := cut_lh wr Am pl cm q (q + 64) q ((q : Int) + 64) rfl (by omega) (by omega) (by omega)
        rwa [show q + 64 - q = 64 by omega] at this
      have hblk : ((P.drop q).take 64).length = 64 := by rw [List.length_take, List.length_drop, ← HNB.out.2.2]; omega
      have hpart : RdB wr wr.heap.size (cutA Am q cm) ((P.drop q).take 64) := rdb_part KB.out.2.2.1 (by rw [← HNB.out.2.2]; omega) (by rw [← HNB.out.2.2]; omega)
      obtain ⟨Ac, hAc⟩ : ∃ Ac, Ac = cutA Am q cm := ⟨_, rfl⟩
      obtain ⟨B, hBl⟩ : ∃ B, B = (P.drop q).take 64 := ⟨_, rfl⟩
      rw [← hAc] at hcut hpart
      rw [← hBl] at hblk hpart
      have hBB : B = H.blk P i := by rw [hBl, Hq.out]; rfl
      have cW := words_any Ac (cm - q) B wr hpart hblk
      obtain ⟨X, hX⟩ : ∃ X, X = H.sched B := ⟨_, rfl⟩
      obtain ⟨Xs, hXs⟩ : ∃ Xs, Xs = X.map wv := ⟨_, rfl⟩
      rw [← hX, ← hXs] at cW
      have hXl : X.length = 64 := by rw [hX]; exact H.sched_len B
      have hXsl : Xs.length = 64 := by rw [hXs, List.length_map, hXl]
      have yX := size_words hXsl
      have oX : Xs.toArray.all (·.oneCell') = true := all_oneCell_toArray (by rw [hXs]; exact words_cells X)
      have CW := Lib.hid cW
      have HX := Lib.hid (And.intro hX (And.intro hXs (And.intro hXl (And.intro hXsl hBB))))
      have YX := Lib.hid yX
      clear hblk hpart hAc hBl hBB cW hX hXs hXl hXsl yX
      go_wp2_with fail
      refine CW.out.mono ?_
      rintro e w4 ⟨rfl, hb4⟩
      obtain ⟨W5, hW5, t5, d5, e5⟩ := row_new w4 84 64 Z64 Xs LL.out.2 HX.out.2.2.2.1
      have KB5 := Lib.hid ((KB.out.below hb4).below e5)
      have D5 := Lib.hid d5
      have T5 := Lib.hid t5
      have HW5 := Lib.hid hW5
      have HVlt := Lib.hid (Nat.lt_of_lt_of_le KB.out.2.1.lt hb4.size)
      clear hb4 hW5 t5 d5 e5 hcut KB CW
      go_wp2_with (refine wpList_store_mid rfl 84 (.tmp 6) (.tmp 34) rfl w4.heap.size 0 Xs.toArray rfl rfl T5.out YX.out oX ?_; rw [← HW5.out])
      have hR5 : Rnd w Z (H.fold P H.init i) w4.heap.size X Am P W5 := ⟨KB5.out.1, KB5.out.2.1, by rw [← HX.out.2.1]; exact D5.out, KB5.out.2.2.1, KB5.out.2.2.2⟩
      obtain ⟨s, hs⟩ : ∃ s, s = H.fold P H.init i := ⟨_, rfl⟩
      rw [← hs] at hR5
      obtain ⟨V, hV⟩ : ∃ V, V = w4.heap.size := ⟨_, rfl⟩
      rw [← hV] at hR5 ⊢
      have Hs := Lib.hid hs
      have KR := Lib.hid hR5
      have HV := Lib.hid (And.intro hV (show w.heap.size + 1 < V by rw [hV]; exact HVlt.out))
      clear hR5 hs hV KB5 D5 T5 HW5
      obtain ⟨va, vb, vc, vd, ve, vf, vg, vh⟩ := s
      have ca : W5.cell? ⟨w.heap.size + 1, 0, none⟩ = some (.int .u32 (nv va)) := KR.out.2.1.cell 0 _ rfl
      have cb : W5.cell? ⟨w.heap.size + 1, 1, none⟩ = some (.int .u32 (nv vb)) := KR.out.2.1.cell 1 _ rfl
      have cc : W5.cell? ⟨w.heap.size + 1, 2, none⟩ = some (.int .u32 (nv vc)) := KR.out.2.1.cell 2 _ rfl
      have cd : W5.cell? ⟨w.heap.size + 1, 3, none⟩ = some (.int .u32 (nv vd)) := KR.out.2.1.cell 3 _ rfl
      have ce : W5.cell? ⟨w.heap.size + 1, 4, none⟩ = some (.int .u32 (nv ve)) := KR.out.2.1.cell 4 _ rfl
      have cf : W5.cell? ⟨w.heap.size + 1, 5, none⟩ = some (.int .u32 (nv vf)) := KR.out.2.1.cell 5 _ rfl
      have cg : W5.cell? ⟨w.heap.size + 1, 6, none⟩ = some (.int .u32 (nv vg)) := KR.out.2.1.cell 6 _ rfl
      have ch : W5.cell? ⟨w.heap.size + 1, 7, none⟩ = some (.int .u32 (nv vh)) := KR.out.2.1.cell 7 _ rfl
      go_quiet (fail)
      clear ca cb cc cd ce cf cg ch
      obtain ⟨wa, hwa⟩ : ∃ wa, wa = W5.drewN nq := ⟨_, rfl⟩
      rw [← hwa]
      have HCa := Lib.hid (show Rnd w Z ⟨va, vb, vc, vd, ve, vf, vg, vh⟩ V X Am P wa by rw [hwa]; exact KR.out.drewN nq)
      clear hwa KR
      obtain ⟨s, hs⟩ : ∃ s : H.St, s = ⟨va, vb, vc, vd, ve, vf, vg, vh⟩ := ⟨_, rfl⟩
      have Hs2 := Lib.hid hs
      rw [← hs] at HCa Hs
      clear hs
      go_wp2_with fail
      go_loopw [15, 7, 8, 9, 10, 11, 12, 13, 14] (fun t a b c d e f g h wr => ∃ (k : Nat) (r : H.St), k ≤ 64 ∧ t = .int .i64 k ∧ a = .int .u32 (nv r.a) ∧ b = .int .u32 (nv r.b) ∧ c = .int .u32 (nv r.c) ∧ d = .int .u32 (nv r.d) ∧ e = .int .u32 (nv r.e) ∧ f = .int .u32 (nv r.f) ∧ g = .int .u32 (nv r.g) ∧ h = .int .u32 (nv r.h) ∧ Hid (r = H.rounds X s k) ∧ Rnd w Z s V X Am P wr) (fun t _ _ _ _ _ _ _ _ _ => 64 - (intOf t).toNat)
      case atStart => exact ⟨0, ⟨va, vb, vc, vd, ve, vf, vg, vh⟩, by omega, rfl, rfl, rfl, rfl, rfl, rfl, rfl, rfl, rfl, Lib.hid Hs2.out.symm, HCa.out⟩
      case round =>
        clear HCa
        obtain ⟨k, r, hk, rfl, rfl, rfl, rfl, rfl, rfl, rfl, rfl, rfl, Hr, hC⟩ := hrel
        by_cases hlt2 : k < 64
        · obtain ⟨a, b', c, d, e, f, g, h⟩ := r
          have hC' := Lib.hid hC
          have hcw := hC.word k (by have := HX.out.2.2.1; omega)
          have htab : RTab wr := HRt.out.below hC.2.2.2.2 (Nat.le_refl _)
          have hck := htab k hlt2
          obtain ⟨x, hx⟩ : ∃ x, x = H.wat X k := ⟨_, rfl⟩
          obtain ⟨y, hy⟩ : ∃ y, y = H.K k := ⟨_, rfl⟩
          rw [← hx] at hcw
          rw [← hy] at hck
          have hstep : H.step ⟨a, b', c, d, e, f, g, h⟩ y x = H.rounds X s (k + 1) := by rw [hx, hy, Hr.out]; rfl
          have Hstep := Lib.hid hstep
          have ik : (k : Int) < 64 := by omega
          have ik0 : (0 : Int) ≤ k := by omega
          clear hC htab hx hy hstep
          go_wp2_with fail
          have r1 := wxor
          have r2 := wadd
          have r3 := wand
          have r4 := wnotr
          go_quiet ((go_at_call 70; exact rquiet_left (rrotr_z _ _ _ (by omega) (by omega))))
          clear r1 r2 r3 r4 hck hcw
          obtain ⟨wb, hwb⟩ : ∃ wb, wb = wr.drewN nq := ⟨_, rfl⟩
          rw [← hwb]
          have HCb := Lib.hid (show Rnd w Z s V X Am P wb by rw [hwb]; exact hC'.out.drewN nq)
          clear hwb hC'
          have htx : H.oadd (H.oadd (H.oadd (H.oadd h (H.oxor (H.oxor (H.rotr e 6) (H.rotr e 11)) (H.rotr e 25))) (H.oxor (H.oand e f) (H.oand (H.onot e) g))) y) x = H.tx ⟨a, b', c, d, e, f, g, h⟩ y x := rfl
          obtain ⟨TX, hTX⟩ : ∃ TX, TX = H.tx ⟨a, b', c, d, e, f, g, h⟩ y x := ⟨_, rfl⟩
          rw [← hTX] at htx
          rw [htx]
          have HTX := Lib.hid hTX
          clear htx hTX
          go_wp2_with (first | (refine (rrotr_z _ _ _ (by omega) (by omega)).mono ?_; rintro e w' ⟨rfl, m, rfl⟩))
          refine ⟨⟨k + 1, H.step ⟨a, b', c, d, e, f, g, h⟩ y x, by omega, by go_num, ?_, rfl, rfl, rfl, ?_, rfl, rfl, rfl, Lib.hid Hstep.out, ?_⟩, by simp [intOf]; omega⟩
          · simp only [wxor, wand, wadd']
            rw [HTX.out]
            rfl
          · rw [wadd', HTX.out]
            rfl
          · first | exact HCb.out.drewN _ | exact ((HCb.out.drewN _).drewN _).drewN _
        · have hk64 : r = H.rounds X s 64 := by rw [Hr.out, show k = 64 by omega]
          obtain ⟨a, b', c, d, e, f, g, h⟩ := r
          have hs := Hs2.out
          rw [hs] at hC
          have ca : wr.cell? ⟨w.heap.size + 1, 0, none⟩ = some (.int .u32 (nv va)) := hC.2.1.cell 0 _ rfl
          have cb : wr.cell? ⟨w.heap.size + 1, 1, none⟩ = some (.int .u32 (nv vb)) := hC.2.1.cell 1 _ rfl
          have cc : wr.cell? ⟨w.heap.size + 1, 2, none⟩ = some (.int .u32 (nv vc)) := hC.2.1.cell 2 _ rfl
          have cd : wr.cell? ⟨w.heap.size + 1, 3, none⟩ = some (.int .u32 (nv vd)) := hC.2.1.cell 3 _ rfl
          have ce : wr.cell? ⟨w.heap.size + 1, 4, none⟩ = some (.int .u32 (nv ve)) := hC.2.1.cell 4 _ rfl
          have cf : wr.cell? ⟨w.heap.size + 1, 5, none⟩ = some (.int .u32 (nv vf)) := hC.2.1.cell 5 _ rfl
          have cg : wr.cell? ⟨w.heap.size + 1, 6, none⟩ = some (.int .u32 (nv vg)) := hC.2.1.cell 6 _ rfl
          have ch : wr.cell? ⟨w.heap.size + 1, 7, none⟩ = some (.int .u32 (nv vh)) := hC.2.1.cell 7 _ rfl
          have hfin : (H.fold P H.init (i + 1)).words = [H.oadd va a, H.oadd vb b', H.oadd vc c, H.oadd vd d, H.oadd ve e, H.oadd vf f, H.oadd vg g, H.oadd vh h] := by
            rw [fold_step, ← Hs.out, ← HX.out.2.2.2.2]
            unfold H.compress
            rw [← HX.out.1, ← hk64, hs]
            rfl
          obtain ⟨R, hRR⟩ : ∃ R, R = (H.fold P H.init (i + 1)).words.map wv := ⟨_, rfl⟩
          have hRe : R = [.int .u32 ((nv va + nv a) % 4294967296), .int .u32 ((nv vb + nv b') % 4294967296), .int .u32 ((nv vc + nv c) % 4294967296), .int .u32 ((nv vd + nv d) % 4294967296), .int .u32 ((nv ve + nv e) % 4294967296), .int .u32 ((nv vf + nv f) % 4294967296), .int .u32 ((nv vg + nv g) % 4294967296), .int .u32 ((nv vh + nv h) % 4294967296)] := by
            rw [hRR, hfin]
            simp only [wadd']
            rfl
          have lR : R.length = 8 := by rw [hRR, List.length_map, H.words_len]
          have hth : wr.there (w.heap.size + 1) 0 R.toArray.size := hC.2.1.there 0 _ (by rw [List.size_toArray, lR, List.length_map, H.words_len]; omega)
          have yR := size_state lR
          have oR : R.toArray.all (·.oneCell') = true := all_oneCell_toArray (by rw [hRR]; exact words_cells _)
          have hB6 : Btw w Z (H.fold P H.init (i + 1)) Am P (wr.setCells (w.heap.size + 1) 0 R) := by
            refine ⟨Blk.outside _ _ _ _ hC.1 (by omega), ?_, ?_, below_setCells _ (by omega) _ _ _ hC.2.2.2.2⟩
            · rw [← hRR]; exact hC.2.1.whole R (by rw [hRe, List.length_map, H.words_len]; rfl)
            · have h1 := hC.2.2.2.1
              rw [HA.out.1] at h1 ⊢
              have := rdb_apart (o := 0) h1 R (c := w.heap.size + 1) (by have := HA.out.2; omega)
              rw [size_setCells]
              exact this
          have KB6 := Lib.hid hB6
          have HRe := Lib.hid hRe
          have YR := Lib.hid yR
          have TH := Lib.hid hth
          have hge : 64 ≤ k := by omega
          clear hk64 hs hC hfin hRR hRe hB6 Hr lR yR hth
          go_wp2_with (refine wpList_store_mid rfl 65 (.tmp 3) (.tmp 146) rfl (w.heap.size + 1) 0 R.toArray rfl (by rw [HRe.out]; rfl) TH.out YR.out oR ?_)
          refine ⟨⟨i + 1, q + 64, Lib.hid (by have := Hq.out; omega), by omega, by go_num, KB6.out⟩, by simp [intOf]; omega⟩
    · have hin : i = nb := by omega
      have hqp : q = pl := by have := Hq.out; have := HNB.out.1; have := HNB.out.2.1; omega
      have hge : (pl : Int) ≤ q := by omega
      obtain ⟨F, hF⟩ : ∃ F, F = H.fold P H.init nb := ⟨_, rfl⟩
      have hfin : F.bytes = H.sha l := by
        unfold H.sha
        rw [hF, HNB.out.1, HNB.out.2.2, HP.out]
      have hB := KB.out
      rw [hin, ← hF] at hB
      have KF := Lib.hid hB
      have HF := Lib.hid hfin
      clear hin hqp hF hfin hB KB
      obtain ⟨O, hO⟩ : ∃ O, O = wr.heap.size := ⟨_, rfl⟩
      have hO1 : w.heap.size + 1 < O := by rw [hO]; exact KF.out.2.1.lt
      have c5 : Blk (wr.alloc (.cells Z.toArray 73)) O ((F.bytes.take 0).map bv ++ List.replicate (32 - 0) (bv 0)) 73 := by
        have := Blk.new wr Z 73
        rw [← hO, HZ.out] at this
        rw [HZ.out]
        exact this
      have hS5 : Fin32 w Z F (wr.alloc (.cells Z.toArray 73)) := ⟨KF.out.1.alloc _, KF.out.2.1.alloc _, KF.out.2.2.2.alloc (by omega) _⟩
      obtain ⟨w5, hw5⟩ : ∃ w5, w5 = wr.alloc (.cells Z.toArray 73) := ⟨_, rfl⟩
      rw [← hw5] at c5 hS5
      have C5 := Lib.hid c5
      have HS5 := Lib.hid hS5
      have HW5 := Lib.hid hw5
      have HO := Lib.hid hO
      clear c5 hS5 hw5 hO KF
      go_wp2_with fail
      rw [← HW5.out, ← HO.out]
      go_loopw [19] (fun j wr => ∃ k : Nat, k ≤ 32 ∧ j = .int .i64 k ∧ Fin32 w Z F wr ∧ Blk wr O ((F.bytes.take k).map bv ++ List.replicate (32 - k) (bv 0)) 73) (fun j _ => 32 - (intOf j).toNat)
      case atStart => exact ⟨0, by omega, rfl, HS5.out, C5.out⟩
      case round =>
        clear HS5 C5
        obtain ⟨k, hk, rfl, hS, hW⟩ := hrel
        by_cases hlt3 : k < 32
        · obtain ⟨x, hx⟩ : ∃ x, x = H.wat F.words (k / 4) := ⟨_, rfl⟩
          have h8 : k / 4 < 8 := by omega
          have gx : wr.cell? ⟨w.heap.size + 1, k / 4, none⟩ = some (.int .u32 (nv x)) := hS.2.1.cell (k / 4) _ (by rw [wat_words F _ h8, hx])
          have hll : ((F.bytes.take k).map bv).length = k := by rw [List.length_map, List.length_take, H.bytes_len]; omega
          have g1 : wr.cell? ⟨O, k, none⟩ = some (bv 0) := hW.cell k _ (fill_at _ k 32 _ hll hlt3)
          have f1 : wr.frozen? ⟨O, k, none⟩ = false := hW.frozen _
          have hv : bv (H.wbyte x (k % 4)) = .int .u8 (nv x / 2 ^ (24 - 8 * (k % 4)) % 256) := by
            unfold H.wbyte nv
            rw [bv_ofNat, div_cast]
          have hW2 := hW.set k (bv (H.wbyte x (k % 4)))
          rw [fill_set _ k 32 _ _ hll hlt3, hx, show (List.map bv (F.bytes.take k) ++ [bv (H.wbyte (H.wat F.words (k / 4)) (k % 4))]) = (F.bytes.take (k + 1)).map bv from by rw [bytes_take F k hlt3, List.map_append]; rfl, ← hx, hv] at hW2
          have hS2 : Fin32 w Z F (wr.setCell ⟨O, k, none⟩ (.int .u8 (nv x / 2 ^ (24 - 8 * (k % 4)) % 256))) :=
            ⟨hS.1.other _ _ (by show _ ≠ O; omega), hS.2.1.other _ _ (by show _ ≠ O; omega), hS.2.2.setCell (by show _ ≤ O; omega) _⟩
          have K2 := Lib.hid (And.intro hS2 hW2)
          have hlt' : (k : Int) < 32 := by omega
          have hq4 : (k : Int) / 4 < 8 := by omega
          have x0 := nv_lo x
          have x1 := nv_hi x
          clear hx hll hv hW2 hS2 hS hW h8
          go_wp2_with fail
          refine ⟨⟨k + 1, by omega, by go_num, K2.out.1, K2.out.2⟩, by simp [intOf]; omega⟩
        · have hq32 : k = 32 := by omega
          rw [hq32, List.take_of_length_le (by rw [H.bytes_len]; omega), HF.out, show List.replicate (32 - 32) (bv 0) = [] from rfl, List.append_nil] at hW
          obtain ⟨R, hRR⟩ : ∃ R, R = (H.sha l).map bv := ⟨_, rfl⟩
          rw [← hRR] at hW
          have hRl : R.length = 32 := by rw [hRR, List.length_map, H.sha_len]
          have y := size_sum hRl
          have o2 : R.toArray.all (·.oneCell') = true := all_oneCell_toArray (by rw [hRR]; exact bytes_one _)
          have t1 : wr.there w.heap.size 0 R.toArray.size := hS.1.there 0 _ (by rw [List.size_toArray, hRl, LL.out.1]; omega)
          have d1 := hS.1.whole R (by rw [hRl, LL.out.1])
          have hb3 : Below w.heap.size w (wr.setCells w.heap.size 0 R) := below_setCells _ (by omega) _ _ _ hS.2.2
          have hge2 : (32 : Int) ≤ k := by omega
          have HR := Lib.hid hRR
          have HhW := Lib.hid hW
          have T1 := Lib.hid t1
          have Y := Lib.hid y
          have D1 := Lib.hid d1
          have B3 := Lib.hid hb3
          clear hq32 hRR hRl hW hS t1 y d1 hb3
          go_wp2_with (first | (refine wpList_load_row rfl 73 (.tmp 18) rfl O rfl _ R.toArray (0, 0) _ HhW.out Tryd.underlying73 rfl Y.out ?_) | (refine wpList_store_mid rfl 73 (.tmp 2) (.tmp 163) rfl w.heap.size 0 R.toArray rfl rfl T1.out Y.out o2 ?_))
          refine bodyPost_ret (results_cell_row rfl _ _ w.heap.size 73 _ (0, 0) _ rfl D1.out Tryd.underlying73 rfl Y.out) rfl ⟨?_, B3.out⟩
          rw [HR.out]
end Go.Proofs.YtcmepgjbplpnbaaDoor
end

