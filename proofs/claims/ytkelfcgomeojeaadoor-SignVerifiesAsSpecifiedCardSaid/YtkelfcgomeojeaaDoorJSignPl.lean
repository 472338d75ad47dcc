import Derived.Test.YtkelfcgomeojeaaDoorJHashRc
import Derived.Test.YtkelfcgomeojeaaDoorJSignPh
import Derived.Test.YtkelfcgomeojeaaDoorJSignPk
import Derived.Test.YtkelfcgomeojeaaDoorJWireRd1

section
/- The contract of sign.chainValues. -/





namespace Go.Proofs.YtkelfcgomeojeaaDoor
open Go.RowKit
set_option linter.unusedVariables false
set_option maxRecDepth 100000

/-- The first k chains of a key, each at the height given for it. -/
def cvs (i : Nat) (ds : List Nat) (sd : List UInt8) (k : Nat) : List UInt8 := (List.range k).flatMap fun c => Sg.adv i c 0 (ds.getD c 0) (Sg.start sd i c)

set_option maxHeartbeats 4000000 in
theorem chainValues_any (i : Nat) (ds : List Nat) (A : Option Addr) (cap : Nat) (s : ByteArray) (w : World) (hi : i ≤ 1000000) (hr : Rd w w.heap.size A (ds.map dv)) (hn : ds.length = 68) (hd : ∀ c, ds.getD c 0 ≤ 3) (hs : s.size ≤ 1000) (hT : HTab w) :
    Calls Tryd.prog 27 #[.string s, .int .i64 i, .slice A 68 cap] w fun e w' => e = .returned (.string (bs (cvs i ds (sb s) 68))) ∧ Below w.heap.size w w' := by
  obtain ⟨hzd, -⟩ := zero_of_info dig_zero
  obtain ⟨Zd, hZd⟩ : ∃ Zd, Zd = (H.zeros 16).map bv := ⟨_, rfl⟩
  rw [← hZd] at hzd
  have lZd : Zd.length = 16 := by rw [hZd, List.length_map, H.zeros_len]
  obtain ⟨f, hf⟩ : ∃ f : Nat → List UInt8, ∀ c, f c = Sg.adv i c 0 (ds.getD c 0) (Sg.start (sb s) i c) := ⟨_, fun _ => rfl⟩
  have htv : cvs i ds (sb s) 68 = (List.range 68).flatMap f := by unfold cvs; congr 1; funext c; rw [hf]
  have hfl : ∀ c, c < 68 → (f c).length = 16 := fun c hc => by rw [hf]; exact adv_len _ _ _ _ _ (start_len _ _ _)
  have hfm : ∀ k, k ≤ 68 → ((List.range k).flatMap f).length = 16 * k := fun k hk => flat_len f k fun c hc => hfl c (by omega)
  obtain ⟨b, off, rfl, hlt0, hcell⟩ := hr (by rw [List.length_map]; omega)
  have HC := Lib.hid hcell
  have HF := Lib.hid (And.intro hf (And.intro htv (And.intro hfl hfm)))
  have LZ := Lib.hid lZd
  have HT := Lib.hid hT
  have HD := Lib.hid hd
  have HB := Lib.hid hlt0
  clear hr hcell hf htv hfl hfm lZd hT hd hlt0 hZd
  go_enter Tryd.func27, Tryd.ntmps27
  go_wp2_with fail
  go_loopw [7, 8, 9, 10, 11, 14] (fun t _ _ _ _ n wr => ∃ k : Nat, k ≤ 68 ∧ n = .int .i64 k ∧ wr.ownsRow w.heap.size 5 1 t ((List.range k).flatMap f).length (((List.range k).flatMap f).map bv) ∧ Below w.heap.size w wr) (fun _ _ _ _ _ n _ => 68 - (intOf n).toNat)
  case atStart => exact ⟨0, by omega, rfl, own_nil0 _ _ _ _, Below.refl _ _⟩
  case round =>
    obtain ⟨k, hk, rfl, hown, hbel⟩ := hrel
    by_cases hlt : k < 68
    · have hlt' : (k : Int) < 68 := by omega
      have ik0 : (0 : Int) ≤ k := by omega
      obtain ⟨d, hd⟩ : ∃ d, d = ds.getD k 0 := ⟨_, rfl⟩
      have hd3 : d ≤ 3 := by rw [hd]; exact HD.out k
      have g1 : wr.cell? ⟨b, off + k, none⟩ = some (.int .i64 (d : Int)) := (hbel.cell HB.out).trans (HC.out k (dv d) (by rw [List.getElem?_map, getD_at ds k 0 (by omega), ← hd]; rfl))
      obtain ⟨I2, hI2⟩ : ∃ I2, I2 = [(i : Int), (k : Int)] := ⟨_, rfl⟩
      have hII : ∀ n ∈ I2, M.I64 n := by
        rw [hI2]
        intro n hn
        simp only [List.mem_cons, List.not_mem_nil, or_false] at hn
        unfold M.I64
        omega
      have hI2l : I2.length = 2 := by rw [hI2]; rfl
      have hil := ints_len I2 hII (by omega)
      obtain ⟨x, hx⟩ : ∃ x, x = bs (Sg.ints I2) := ⟨_, rfl⟩
      have hxs : x.size ≤ 100 := by rw [hx, bbytes_size]; omega
      obtain ⟨q, hq⟩ : ∃ q, q = (⟨#[99, 104, 97, 105, 110]⟩ : ByteArray) ++ x := ⟨_, rfl⟩
      have hqb : sb q = Sg.word ++ Sg.ints I2 := by rw [hq, sb_append, hx, sb_bs]; rfl
      have hqs : q.size ≤ 1000 := by rw [← sb_len, hqb, List.length_append]; have : Sg.word.length = 5 := rfl; omega
      obtain ⟨g, hg⟩ : ∃ g, g = mac (sb s) (sb q) := ⟨_, rfl⟩
      have hgl : g.length = 32 := by rw [hg]; unfold mac; rw [H.sha_len]
      obtain ⟨D, hDD⟩ : ∃ D, D = (Sg.start (sb s) i k).map bv := ⟨_, rfl⟩
      have hst : ((sb (bs g)).drop (0 * 16)).take 16 = Sg.start (sb s) i k := by rw [sb_bs, hg, hqb, hI2]; rfl
      obtain ⟨W1, hW1⟩ : ∃ W1, W1 = wr.alloc (.cells #[.int .i64 i, .int .i64 k] 3) := ⟨_, rfl⟩
      have hb1 : Below wr.heap.size wr W1 := by rw [hW1]; exact (Below.refl _ _).alloc (Nat.le_refl _) _
      have c0 := (ints_any (some ⟨wr.heap.size, 0, none⟩) 2 I2 W1 (by rw [hW1, hI2]; exact rd_new wr [.int .i64 i, .int .i64 k] _) (by omega) (by decide) (by omega) hII).mono fun e w' h => makes_gives h
      rw [hI2l] at c0
      have c1 := fun W h => mac_any s q W (by omega) (by omega) h
      rw [← hg] at c1
      have c2 := fun W => digestAt_any (bs g) 0 W (by rw [bbytes_size]; omega) (by rw [bbytes_size]; omega)
      rw [hst, ← hDD] at c2
      have c3 := fun (W : World) h => advance_any i k 0 d (Sg.start (sb s) i k) W hi (by omega) (by omega) (start_len _ _ _) h
      rw [Nat.zero_add, ← hDD, hd, ← HF.out.1 k, ← hd] at c3
      obtain ⟨T, hTT⟩ : ∃ T, T = (f k).map bv := ⟨_, rfl⟩
      have lT : T.length = 16 := by rw [hTT, List.length_map, HF.out.2.2.1 k hlt]
      have yT := size_dig lT
      have oT : T.toArray.all (·.oneCell') = true := all_oneCell_toArray (by rw [hTT]; exact bytes_one _)
      rw [← hTT] at c3
      have C0 := Lib.hid c0
      have C1 := Lib.hid c1
      have C2 := Lib.hid c2
      have C3 := Lib.hid c3
      have K := Lib.hid (And.intro (own_below hown hb1 (Nat.le_refl _)) (hbel.trans (hb1.mono hbel.size)))
      have HTT := Lib.hid (And.intro hTT lT)
      have YT := Lib.hid yT
      have HW1 := Lib.hid hW1
      have HX := Lib.hid hx
      have HQ := Lib.hid hq
      clear c0 c1 c2 c3 hown hbel hTT lT yT hd hW1 hx hq hqb hqs hg hgl hDD hst hI2 hII hI2l hil hb1
      go_wp2_with fail
      rw [← HW1.out]
      refine C0.out.mono ?_
      rintro e w2 ⟨A2, c2, rfl, hr2, -, -, hb2⟩
      have hcv := conv_bytes w2 _ A2 _ c2 hr2
      rw [show bs (M.encL M.encI I2) = x from HX.out.symm] at hcv
      have C1' := Lib.hid (C1.out w2 (HT.out.below (K.out.2.trans (hb2.mono K.out.2.size)) (Nat.le_refl _)))
      have K2 := Lib.hid (And.intro (own_below K.out.1 hb2 (Nat.le_refl _)) (K.out.2.trans (hb2.mono K.out.2.size)))
      obtain ⟨l2, hl2⟩ : ∃ l2, l2 = (M.encL M.encI I2).length := ⟨_, rfl⟩
      rw [← hl2] at hcv ⊢
      clear hb2 hr2 C0 C1 K hl2
      go_wp2_with fail
      rw [← HQ.out]
      refine C1'.out.mono ?_
      rintro e w2' ⟨rfl, hb2'⟩
      have K2' := Lib.hid (And.intro (own_below K2.out.1 hb2' (Nat.le_refl _)) (K2.out.2.trans (hb2'.mono K2.out.2.size)))
      clear hb2' C1' K2 hcv
      go_wp2_with fail
      refine (C2.out w2').mono ?_
      rintro e w2'' ⟨rfl, hb2⟩
      have C3' := Lib.hid (C3.out w2'' (HT.out.below (K2'.out.2.trans (hb2.mono K2'.out.2.size)) (Nat.le_refl _)))
      have K2 := Lib.hid (And.intro (own_below K2'.out.1 hb2 (Nat.le_refl _)) (K2'.out.2.trans (hb2.mono K2'.out.2.size)))
      clear hb2 K2' C2 C3
      go_wp2_with fail
      refine C3'.out.mono ?_
      rintro e w3 ⟨rfl, hb3⟩
      obtain ⟨W4, hW4, m1, m2, m3⟩ := row_new w3 23 16 Zd T LZ.out HTT.out.2
      have h4 := hb3.trans (m3.mono hb3.size)
      have own4 := own_below K2.out.1 h4 (Nat.le_refl _)
      have b4 := K2.out.2.trans (h4.mono K2.out.2.size)
      have r4 : RdB W4 W4.heap.size (some ⟨w3.heap.size, 0, none⟩) (f k) := by unfold RdB; rw [← HTT.out.1]; exact m2.rd
      have hsl := slice_b16 W4 w3.heap.size
      have hl4 := HF.out.2.2.2 k hk
      have hl5 := HF.out.2.2.1 k hlt
      have hsucc := flat_succ f k
      have HSU := Lib.hid hsucc
      have HL := Lib.hid (And.intro hl4 hl5)
      have M1 := Lib.hid m1
      have HW4 := Lib.hid hW4
      have K4 := Lib.hid (And.intro own4 (And.intro b4 r4))
      clear hb3 m1 m2 m3 h4 own4 b4 r4 hW4 hl4 hl5 hsucc K2 C3'
      go_wp2_with (first | (refine wpList_store_mid rfl 23 (.tmp 11) (.tmp 32) rfl w3.heap.size 0 T.toArray rfl rfl M1.out YT.out oT ?_; rw [← HW4.out]) |
        (at_builtin; refine wpList_append_ownB _ rfl (.tmp 33) (.tmp 34) rfl w.heap.size _ ((List.range k).flatMap f) (f k) (some ⟨w3.heap.size, 0, none⟩) 16 rfl (by rw [HL.out.2]; rfl) K4.out.1 K4.out.2.2 (by rw [HL.out.1, HL.out.2]; omega) K4.out.2.1.size ?_; intro v5 w5 hown5 hgrow5; have hb5 := Lib.hid (K4.out.2.1.grown hgrow5 K4.out.2.1.size (fun j hj => (K4.out.1.lt j hj).1)); rw [← HSU.out] at hown5; clear hgrow5 K4))
      exact ⟨⟨k + 1, by omega, by go_num, hown5, hb5.out⟩, by simp [intOf]; omega⟩
    · have hk8 : k = 68 := by omega
      rw [hk8] at hown
      obtain ⟨q, hq⟩ : ∃ q, q = (List.range 68).flatMap f := ⟨_, rfl⟩
      rw [← hq] at hown
      obtain ⟨A5, c5, rfl, hr5, -, -⟩ := own_rd (B := 0) hown
      have hge : (68 : Int) ≤ k := by omega
      have hcv := conv_bytes wr _ A5 _ c5 hr5
      have B5 := Lib.hid hbel
      have HQ := Lib.hid hq
      clear hq hown hbel hr5
      go_wp2_with fail
      go_ret
      exact ⟨by rw [HF.out.2.1, ← HQ.out]; rfl, B5.out⟩
end Go.Proofs.YtkelfcgomeojeaaDoor
end

section
/- What the closure of climb has around it; the nodes next to the way, as the closure writes them. -/


namespace Go.Proofs.YtkelfcgomeojeaaDoor
open Go.RowKit
set_option linter.unusedVariables false
set_option maxRecDepth 100000

/-- The nodes next to the way to leaf i within the subtree at level l, place k. -/
def way (sd : List UInt8) (i l k : Nat) : List UInt8 := if i / 2 ^ l = k then (Sg.beside sd i l).flatten else []
theorem beside_succ (sd : List UInt8) (i l : Nat) : Sg.beside sd i (l + 1) = Sg.beside sd i l ++ [Sg.tree sd l (if i / 2 ^ l % 2 = 1 then i / 2 ^ l - 1 else i / 2 ^ l + 1)] := by
  unfold Sg.beside
  rw [List.range_succ, List.map_append]
  rfl
theorem way_zero (sd : List UInt8) (i k : Nat) : way sd i 0 k = [] := by
  unfold way
  split <;> rfl
theorem way_off (sd : List UInt8) (i l k : Nat) (h : i / 2 ^ (l + 1) ≠ k) : way sd i (l + 1) k = [] ∧ way sd i l (2 * k) = [] ∧ way sd i l (2 * k + 1) = [] := by
  rw [Nat.pow_succ, ← Nat.div_div_eq_div_mul] at h
  refine ⟨?_, ?_, ?_⟩ <;> unfold way
  · rw [Nat.pow_succ, ← Nat.div_div_eq_div_mul, if_neg h]
  · rw [if_neg (by omega)]
  · rw [if_neg (by omega)]
theorem way_on (sd : List UInt8) (i l k : Nat) (h : i / 2 ^ (l + 1) = k) :
    way sd i (l + 1) k = way sd i l (2 * k) ++ way sd i l (2 * k + 1) ++ Sg.tree sd l (if i / 2 ^ l % 2 = 1 then 2 * k else 2 * k + 1) := by
  have h' := h
  rw [Nat.pow_succ, ← Nat.div_div_eq_div_mul] at h'
  unfold way
  rw [if_pos h, beside_succ, List.flatten_append]
  by_cases h2 : i / 2 ^ l % 2 = 1
  · rw [if_pos h2, if_pos h2, if_neg (show ¬ i / 2 ^ l = 2 * k by omega), if_pos (show i / 2 ^ l = 2 * k + 1 by omega), show i / 2 ^ l - 1 = 2 * k by omega]
    simp
  · rw [if_neg h2, if_neg h2, if_pos (show i / 2 ^ l = 2 * k by omega), if_neg (show ¬ i / 2 ^ l = 2 * k + 1 by omega), show i / 2 ^ l + 1 = 2 * k + 1 by omega]
    simp
theorem tree_len (sd : List UInt8) (l k : Nat) : (Sg.tree sd l k).length = 16 := by
  cases l <;> exact Sg.of_len _ _
theorem beside_len (sd : List UInt8) (i l : Nat) : (Sg.beside sd i l).flatten.length = 16 * l := by
  induction l with
  | zero => rfl
  | succ l ih =>
    rw [beside_succ, List.flatten_append, List.length_append, ih]
    simp only [List.flatten_cons, List.flatten_nil, List.append_nil, tree_len]
    omega
theorem way_len (sd : List UInt8) (i l k : Nat) : (way sd i l k).length ≤ 16 * l := by
  unfold way
  split
  · rw [beside_len]; omega
  · simp

/-- What the closure has around it: the blocks of its variables, and what they hold for good. -/
structure Env where
  w0 : World
  s : ByteArray
  i : Nat
  h : Nat
  bs : Nat
  bt : Nat
  br : Nat
  bn : Nat
  bi : Nat
  bp : Nat
  bq : Nat
def Env.caps (e : Env) : Array Value := #[.pointer (some ⟨e.bs, 0, none⟩), .pointer (some ⟨e.bt, 0, none⟩), .pointer (some ⟨e.bn, 0, none⟩), .pointer (some ⟨e.bi, 0, none⟩), .pointer (some ⟨e.bp, 0, none⟩)]
def Env.fv (e : Env) : Value := .func (.func 43) #[] e.caps
/-- Apart, and the closure's variables begin behind what was there. -/
structure Env.Ok (e : Env) : Prop where
  s : e.bs ≠ e.bp ∧ e.bs ≠ e.bq
  t : e.bt ≠ e.bp ∧ e.bt ≠ e.bq
  r : e.br ≠ e.bp ∧ e.br ≠ e.bq
  n : e.bn ≠ e.bp ∧ e.bn ≠ e.bq
  i : e.bi ≠ e.bp ∧ e.bi ≠ e.bq
  pq : e.bp ≠ e.bq
  base : e.w0.heap.size ≤ e.bp ∧ e.w0.heap.size ≤ e.bq
/-- The variables lie below block N. -/
structure Env.Lt (e : Env) (N : Nat) : Prop where
  s : e.bs < N
  t : e.bt < N
  r : e.br < N
  n : e.bn < N
  i : e.bi < N
  p : e.bp < N
  q : e.bq < N
/-- The state: the path's slice has n bytes, its row begins with q. -/
structure CQ (e : Env) (n : Nat) (q : List UInt8) (W : World) : Prop where
  cs : Blk W e.bs [.string e.s] 9
  ct : Blk W e.bt [.slice (some ⟨e.br, 0, none⟩) 68 68] 25
  cr : Blk W e.br ((List.replicate 68 3).map dv) 3
  cn : Blk W e.bn [e.fv] 67
  ci : Blk W e.bi [.int .i64 (e.i : Int)] 3
  cp : Blk W e.bp [.slice (some ⟨e.bq, 0, none⟩) n (e.h * 16)] 51
  cq : Blk W e.bq (q.map bv ++ List.replicate (e.h * 16 - q.length) (bv 0)) 5
  bel : Below e.w0.heap.size e.w0 W
theorem CQ.lt {e : Env} {n : Nat} {q : List UInt8} {W : World} (h : CQ e n q W) : e.Lt W.heap.size := ⟨h.cs.lt, h.ct.lt, h.cr.lt, h.cn.lt, h.ci.lt, h.cp.lt, h.cq.lt⟩
theorem Env.Lt.mono {e : Env} {N M : Nat} (h : e.Lt N) (hm : N ≤ M) : e.Lt M := ⟨Nat.lt_of_lt_of_le h.s hm, Nat.lt_of_lt_of_le h.t hm, Nat.lt_of_lt_of_le h.r hm, Nat.lt_of_lt_of_le h.n hm, Nat.lt_of_lt_of_le h.i hm, Nat.lt_of_lt_of_le h.p hm, Nat.lt_of_lt_of_le h.q hm⟩
theorem CQ.step {e : Env} {n : Nat} {q : List UInt8} {W W' : World} {N : Nat} (h : CQ e n q W) (hN : e.Lt N) (hok : e.Ok) (hb : Below N W W') : CQ e n q W' :=
  ⟨h.cs.below hb hN.s, h.ct.below hb hN.t, h.cr.below hb hN.r, h.cn.below hb hN.n, h.ci.below hb hN.i, h.cp.below hb hN.p, h.cq.below hb hN.q, h.bel.trans (hb.mono (by have := hok.base.1; have := hN.p; omega))⟩
theorem CQ.drew {e : Env} {n : Nat} {q : List UInt8} {W : World} (h : CQ e n q W) : CQ e n q W.drew := ⟨h.cs, h.ct, h.cr, h.cn, h.ci, h.cp, h.cq, h.bel.drew⟩
/-- Memory is as it was, the path's variable and its row aside. -/
def Rel (e : Env) (W W' : World) : Prop := W.heap.size ≤ W'.heap.size ∧ ∀ b, b < W.heap.size → b ≠ e.bp → b ≠ e.bq → W'.heap[b]? = W.heap[b]?
theorem Rel.refl (e : Env) (W : World) : Rel e W W := ⟨Nat.le_refl _, fun _ _ _ _ => rfl⟩
theorem Rel.trans {e : Env} {A B C : World} (h : Rel e A B) (k : Rel e B C) : Rel e A C := ⟨Nat.le_trans h.1 k.1, fun b hb h1 h2 => (k.2 b (Nat.lt_of_lt_of_le hb h.1) h1 h2).trans (h.2 b hb h1 h2)⟩
theorem Rel.of {e : Env} {W W' : World} (h : Below W.heap.size W W') : Rel e W W' := ⟨h.size, fun b hb _ _ => h.block b hb⟩
theorem Rel.then {e : Env} {W A B : World} (h : Rel e W A) (hb : Below W.heap.size A B) : Rel e W B := ⟨Nat.le_trans h.1 hb.size, fun b h1 h2 h3 => (hb.block b h1).trans (h.2 b h1 h2 h3)⟩
theorem Rel.drew {e : Env} {W W' : World} (h : Rel e W W') : Rel e W W'.drew := h
theorem Blk.rel {e : Env} {W W' : World} {b : Nat} {vs : List Value} {t : TypeId} (h : Blk W b vs t) (hr : Rel e W W') (h1 : b ≠ e.bp) (h2 : b ≠ e.bq) : Blk W' b vs t := (hr.2 b h.lt h1 h2).trans h
/-- Loads of one cell. -/
theorem load_func (W : World) (b : Nat) (v : Value) (h : Blk W b [v] 67) : (Instr.loadAt 67 (.pointer (some ⟨b, 0, none⟩))).run Tryd.prog W = .ok v W := by
  have hc := h.cell 0 v rfl
  go_simp
theorem load_path (W : World) (b : Nat) (v : Value) (h : Blk W b [v] 51) : (Instr.loadAt 51 (.pointer (some ⟨b, 0, none⟩))).run Tryd.prog W = .ok v W := by
  have hc := h.cell 0 v rfl
  go_simp
/-- A call of a closure. -/
theorem run_call_clo {P : Program} {o : Oper} {t : Nat} {f : FuncId} {caps : Array Value} {args : List Operand} {ats : Array TypeId} (ho : o.op = .call { callee := .value (.tmp t), args := args.toArray, argTypes := ats }) (hc : ∀ xs w, (callFunc f xs).run P w = .ok (.enter f xs) w) (b : Act) (w : World)
    (ht : b.tmps.getD t undef = .func (.func f) #[] caps) : (execOp b.eval o).run P w = .ok (.enter f ((args.map b.eval).toArray ++ caps)) w := by
  unfold execOp
  simp only [ho, resolve]
  have e : b.eval (.tmp t) = .func (.func f) #[] caps := ht
  rw [e]
  simp only [Deferred.ofValue, invoke, Sem.run_bind, Sem.run_pure, Result.andThen_ok, List.map_toArray, Array.empty_append, hc]
theorem runs_clo {P : Program} {R : Value → World → Prop} {o : Oper} {t : Nat} {f : FuncId} {caps : Array Value} {args : List Operand} {ats : Array TypeId} {b : Act} {w : World} (ho : o.op = .call { callee := .value (.tmp t), args := args.toArray, argTypes := ats }) (hc : ∀ xs w, (callFunc f xs).run P w = .ok (.enter f xs) w)
    (ht : b.tmps.getD t undef = .func (.func f) #[] caps) (h : Calls P f ((args.map b.eval).toArray ++ caps) w fun e w' => ∃ v, e = .returned v ∧ R v w') : Runs P R ((execOp b.eval o).run P w) := by
  rw [run_call_clo ho hc b w ht]
  exact h
end Go.Proofs.YtkelfcgomeojeaaDoor
end

