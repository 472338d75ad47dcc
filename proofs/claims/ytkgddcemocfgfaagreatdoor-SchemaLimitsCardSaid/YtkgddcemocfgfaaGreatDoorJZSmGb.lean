import Derived.Test.YtkgddcemocfgfaaGreatDoorJZSmPt
import Derived.Test.YtkgddcemocfgfaaGreatDoorJZSmPu

section
/- The program's reader: next, starts. -/


namespace Go.Proofs.YtkgddcemocfgfaaGreatDoor
open Go.RowKit
set_option linter.unusedVariables false
set_option linter.unusedSimpArgs false
set_option maxRecDepth 100000

/-- A body that falls off its end. -/
theorem bodyPost_fall {P : Program} {fn : Func} {R : Ending → World → Prop} {a : Act} {w : World} {v : Value} (h : (results fn a.tmps).run P w = .ok v w) (hd : a.defers = []) (hR : R (.returned v) w) : bodyPost P fn R .normal a w := ⟨hd, v, h, hR⟩
set_option maxHeartbeats 4000000 in
theorem gNext_any (rb : Nat) (s tok : ByteArray) (at0 : Nat) (f : Bool) (W : World) (h : Blk W rb [.string s, .int .i64 at0, .string tok, .bool f] 102) (hs : s.size ≤ 8192) (hle : at0 + tok.size ≤ s.size) :
  Calls Tryz.prog 61 #[.pointer (some ⟨rb, 0, none⟩)] W fun e w' => e = .returned (.tuple #[]) ∧
   Blk w' rb [.string s, .int .i64 (Sm.beg (sb s) (at0 + tok.size)), .string (s.extract (Sm.beg (sb s) (at0 + tok.size)) (Sm.tokE (sb s) (sb s).length (Sm.beg (sb s) (at0 + tok.size)))), .bool f] 102 ∧ But rb W w' := by
 obtain ⟨l, hl⟩ : ∃ l, l = sb s := ⟨_, rfl⟩
 have hll : l.length = s.size := by rw [hl]; exact sb_len s
 have hget : ∀ (k : Nat) (hk : k < s.size), l.getD k 0 = s[k]'hk := fun k hk => by
  rw [hl, List.getD_eq_getElem?_getD, sbGet s k hk]; rfl
 rw [← hl]
 obtain ⟨i0, hi0⟩ : ∃ i, i = at0 + tok.size := ⟨_, rfl⟩
 rw [← hi0] at hle ⊢
 obtain ⟨bg, hbg⟩ : ∃ b, b = Sm.beg l i0 := ⟨_, rfl⟩
 rw [← hbg]
 obtain ⟨E, hE⟩ : ∃ E, E = Sm.tokE l l.length bg := ⟨_, rfl⟩
 rw [← hE]
 have hbs : bg ≤ s.size := by rw [hbg, ← hll]; exact (Sm.beg_le l i0 (by omega)).2
 have hEs : bg ≤ E ∧ E ≤ s.size := by rw [hE, ← hll]; exact Sm.tokE_le l l.length bg (by omega)
 have hw : wrap64 ((at0 : Int) + tok.size) = (i0 : Int) := by unfold wrap64; omega
 have HB := Lib.hid h
 have q1 : ∀ q : BelS W.heap.size W, q.at.cell? ⟨rb, 1, none⟩ = some (.int .i64 at0) := fun q => (HB.out.below q.out HB.out.lt).cell 1 _ rfl
 have q2 : ∀ q : BelS W.heap.size W, q.at.cell? ⟨rb, 2, none⟩ = some (.string tok) := fun q => (HB.out.below q.out HB.out.lt).cell 2 _ rfl
 have HL := Lib.hid (And.intro hll hget)
 have HBG := Lib.hid hbg
 have HE := Lib.hid hE
 have HI := Lib.hid hi0
 clear hl hll hget hbg hE hi0 h
 go_enter Tryz.func61, Tryz.ntmps61
 go_wp2_with fail
 refine wp_region_headB 12 W.heap.size (by kernel_rfl) (by kernel_rfl) ?_
 dsimp only [List.take, List.drop]
 repeat (go_big_quiet_step (fail))
 refine wpQuiet_nil ?_
 intro w2' hw'
 obtain ⟨q, rfl⟩ := hw'
 have hbq := q.out
 obtain ⟨w1, hw1⟩ : ∃ w, w = q.at := ⟨_, rfl⟩
 rw [← hw1] at hbq ⊢
 have k1 := HB.out.below hbq HB.out.lt
 have c1 := k1.cell 1 _ rfl
 have f1 := k1.frozen 1
 have k2 : Blk (w1.setCell ⟨rb, 1, none⟩ (.int .i64 (wrap64 ((at0 : Int) + tok.size)))) rb [.string s, .int .i64 i0, .string tok, .bool f] 102 := by
  have := k1.set 1 (.int .i64 (wrap64 ((at0 : Int) + tok.size)))
  rw [hw] at this ⊢
  exact this
 have HK := Lib.hid (And.intro k2 ((But.of (b := rb) hbq).setCell ⟨rb, 1, none⟩ (.int .i64 (wrap64 ((at0 : Int) + tok.size))) rfl))
 clear q1 q2 hw1 q k1 hbq hw k2
 go_upto_block 0 with fail
 clear c1 f1
 obtain ⟨w2, hw2⟩ : ∃ w, w = w1.setCell ⟨rb, 1, none⟩ (.int .i64 (wrap64 ((at0 : Int) + tok.size))) := ⟨_, rfl⟩
 rw [← hw2] at HK ⊢
 clear hw2
 go_cut [] from 15 to 55 (fun wx => Blk wx rb [.string s, .int .i64 bg, .string tok, .bool f] 102 ∧ But rb W wx)
 case first =>
  go_wp2_with fail
  go_loopg [] (s.size + 1) (fun m wr => ∃ (k : Nat), k ≤ s.size ∧ Blk wr rb [.string s, .int .i64 k, .string tok, .bool f] 102 ∧ But rb W wr ∧ bg = Sm.beg l k ∧ s.size - k + 1 ≤ m)
  case atStart => exact ⟨i0, hle, HK.out.1, HK.out.2, HBG.out, by omega⟩
  case round =>
   clear HK
   obtain ⟨k, hk, hb, hbut, hbk, hm⟩ := hrel
   obtain ⟨wo, rfl⟩ : ∃ wo : World, wo = wr := ⟨_, rfl⟩
   have c0 := hb.cell 0 _ rfl
   have c1 := hb.cell 1 _ rfl
   have f1 := hb.frozen 1
   have HQ := Lib.hid (And.intro hb (And.intro hbut hbk))
   clear hb hbut hbk
   by_cases hlt : k < s.size
   ·have hltI : (k : Int) < s.size := by omega
    have h0I : (0 : Int) ≤ (k : Int) := by omega
    obtain ⟨c, hc⟩ : ∃ c, c = s[k]'hlt := ⟨_, rfl⟩
    have hcI : ((s[k]'hlt).toNat : Int) = (c.toNat : Int) := by rw [hc]
    have hkN : ((k : Int)).toNat = k := by omega
    have hwk : wrap64 ((k : Int) + 1) = (k : Int) + 1 := by unfold wrap64; omega
    have HC := Lib.hid (show l.getD k 0 = c by rw [hc]; exact HL.out.2 k hlt)
    clear hc
    by_cases h32 : (c.toNat : Int) = 32
    ·have b32 : ((c.toNat : Int) == 32) = true := by simpa using h32
     have HBL := Lib.hid (show Sm.blank (l.getD k 0) = true by rw [HC.out]; exact decide_eq_true (.inl (by omega)))
     go_wp2_with fail
     go_quiet (fail)
     have hbq := drewN_below (Below.refl wo.heap.size wo) nq
     generalize wo.drewN nq = x at hbq ⊢
     have kx := HQ.out.1.below hbq HQ.out.1.lt
     clear c0 c1 f1 h32 b32 hcI hkN
     have c1 := kx.cell 1 _ rfl
     have f1 := kx.frozen 1
     have HX := Lib.hid (And.intro kx (HQ.out.2.1.trans (But.of hbq)))
     clear kx hbq
     go_wp2_with fail
     go_roundg (s.size - (k + 1) + 1)
     case measure => omega
     case rel => exact ⟨k + 1, by omega, by have := HX.out.1.set 1 (.int .i64 ((k : Int) + 1)); rwa [show ((k + 1 : Nat) : Int) = (k : Int) + 1 by omega], HX.out.2.setCell _ _ rfl, by rw [HQ.out.2.2]; exact Sm.beg_blank l k (by rw [HL.out.1]; exact hlt) HBL.out, Nat.le_refl _⟩
    ·have b32 : ((c.toNat : Int) == 32) = false := by simpa using h32
     by_cases h10 : (c.toNat : Int) = 10
     ·have b10 : ((c.toNat : Int) == 10) = true := by simpa using h10
      have HBL := Lib.hid (show Sm.blank (l.getD k 0) = true by rw [HC.out]; exact decide_eq_true (.inr (by omega)))
      go_wp2_with fail
      go_quiet (fail)
      have hbq := drewN_below (Below.refl wo.heap.size wo) nq
      generalize wo.drewN nq = x at hbq ⊢
      have kx := HQ.out.1.below hbq HQ.out.1.lt
      clear c0 c1 f1 h32 b32 h10 b10 hcI hkN
      have c1 := kx.cell 1 _ rfl
      have f1 := kx.frozen 1
      have HX := Lib.hid (And.intro kx (HQ.out.2.1.trans (But.of hbq)))
      clear kx hbq
      go_wp2_with fail
      go_roundg (s.size - (k + 1) + 1)
      case measure => omega
      case rel => exact ⟨k + 1, by omega, by have := HX.out.1.set 1 (.int .i64 ((k : Int) + 1)); rwa [show ((k + 1 : Nat) : Int) = (k : Int) + 1 by omega], HX.out.2.setCell _ _ rfl, by rw [HQ.out.2.2]; exact Sm.beg_blank l k (by rw [HL.out.1]; exact hlt) HBL.out, Nat.le_refl _⟩
     ·have b10 : ((c.toNat : Int) == 10) = false := by simpa using h10
      have HEND := Lib.hid (show bg = k by rw [HQ.out.2.2]; exact Sm.skip_end l _ k (by rw [HC.out]; simp [Sm.blank]; omega))
      go_wp2_with fail
      go_quiet (fail)
      have hbq := drewN_below (Below.refl wo.heap.size wo) nq
      generalize wo.drewN nq = x at hbq ⊢
      have HX := Lib.hid (And.intro (HQ.out.1.below hbq HQ.out.1.lt) (HQ.out.2.1.trans (But.of hbq)))
      clear c0 c1 f1 hbq
      go_wp2_with fail
      go_meet
      case rel => rw [HEND.out]; exact HX.out
   ·have hltI : ¬ (k : Int) < s.size := by omega
    have HEND := Lib.hid (show bg = k by rw [HQ.out.2.2]; exact Sm.skip_end l _ k (by rw [HL.out.1]; omega))
    go_wp2_with fail
    go_quiet (fail)
    have hbq := drewN_below (Below.refl wo.heap.size wo) nq
    generalize wo.drewN nq = x at hbq ⊢
    have HX := Lib.hid (And.intro (HQ.out.1.below hbq HQ.out.1.lt) (HQ.out.2.1.trans (But.of hbq)))
    clear c0 c1 f1 hbq
    go_wp2_with fail
    go_meet
    case rel => rw [HEND.out]; exact HX.out
 case rest =>
  clear HK
  obtain ⟨wB, hwB⟩ : ∃ w, w = wc := ⟨_, rfl⟩
  rw [← hwB] at hcut ⊢
  clear hwB
  have HC := Lib.hid hcut
  have c0 := HC.out.1.cell 0 _ rfl
  have c1 := HC.out.1.cell 1 _ rfl
  clear hcut
  go_upto_block 2 with fail
  go_cut [2] from 60 to 86 (fun e wx => e = .int .i64 E ∧ wx = wB)
  case first =>
   go_wp2_with fail
   go_loopw [2] (fun e wr => ∃ (j G : Nat), j ≤ s.size ∧ e = .int .i64 j ∧ E = Sm.tokE l G j ∧ s.size ≤ j + G ∧ wr = wB) (fun e _ => s.size - (intOf e).toNat)
   case atStart => exact ⟨bg, l.length, by omega, rfl, HE.out, by rw [HL.out.1]; omega, rfl⟩
   case round =>
    obtain ⟨j, G, hj, rfl, hG, hjG, rfl⟩ := hrel
    have HG := Lib.hid hG
    clear hG
    by_cases hjl : j < s.size
    ·have hjI : (j : Int) < s.size := by omega
     have h0j : (0 : Int) ≤ (j : Int) := by omega
     obtain ⟨c, hc⟩ : ∃ c, c = s[j]'hjl := ⟨_, rfl⟩
     have hcj : ((s[j]'hjl).toNat : Int) = (c.toNat : Int) := by rw [hc]
     have hjN : ((j : Int)).toNat = j := by omega
     have HC2 := Lib.hid (show l.getD j 0 = c by rw [hc]; exact HL.out.2 j hjl)
     clear hc
     by_cases h1 : (33 : Int) ≤ c.toNat
     ·by_cases h2 : (c.toNat : Int) ≤ 126
      ·obtain ⟨G', rfl⟩ : ∃ G', G = G' + 1 := ⟨G - 1, by omega⟩
       have hT := Lib.hid (show Sm.inTok (l.getD j 0) = true by rw [HC2.out]; exact decide_eq_true ⟨by omega, by omega⟩)
       go_wp2_with fail
       exact ⟨⟨j + 1, G', by omega, by go_num, by rw [HG.out, Sm.tokE_next l G' j (by rw [HL.out.1]; exact hjl) hT.out], by omega, trivial⟩, by simp [intOf]; omega⟩
      ·have HE2 := Lib.hid (show E = j by rw [HG.out, Sm.tokE_end l G j (fun x => by have := of_decide_eq_true x.2; rw [HC2.out] at this; omega)])
       go_wp2_with fail
       go_meet
       case rel => exact ⟨by rw [HE2.out], rfl⟩
     ·have HE2 := Lib.hid (show E = j by rw [HG.out, Sm.tokE_end l G j (fun x => by have := of_decide_eq_true x.2; rw [HC2.out] at this; omega)])
      go_wp2_with fail
      go_meet
      case rel => exact ⟨by rw [HE2.out], rfl⟩
    ·have HE2 := Lib.hid (show E = j by rw [HG.out, Sm.tokE_end l G j (fun x => by have := x.1; rw [HL.out.1] at this; omega)])
     have hjn : ¬ (j : Int) < s.size := by omega
     go_wp2_with fail
     go_meet
     case rel => exact ⟨by rw [HE2.out], rfl⟩
  case rest =>
   obtain ⟨rfl, rfl⟩ := hcut
   obtain ⟨wD, hwD⟩ : ∃ w, w = wc := ⟨_, rfl⟩
   rw [← hwD] at HC ⊢
   clear hwD c0 c1
   have q0 : ∀ q : BelS wD.heap.size wD, q.at.cell? ⟨rb, 0, none⟩ = some (.string s) := fun q => (HC.out.1.below q.out HC.out.1.lt).cell 0 _ rfl
   have q1 : ∀ q : BelS wD.heap.size wD, q.at.cell? ⟨rb, 1, none⟩ = some (.int .i64 bg) := fun q => (HC.out.1.below q.out HC.out.1.lt).cell 1 _ rfl
   have z1 : (bg : Int) ≤ E := by omega
   have z2 : (E : Int) ≤ s.size := by omega
   have z3 : (0 : Int) ≤ bg := by omega
   have z4 : bg ≤ E := hEs.1
   have z5 : E ≤ s.size := hEs.2
   go_wp2_with fail
   refine wp_region_headB 13 wD.heap.size (by kernel_rfl) (by kernel_rfl) ?_
   dsimp only [List.take, List.drop]
   repeat (go_big_quiet_step (fail))
   refine wpQuiet_nil ?_
   intro w2' hw'
   obtain ⟨q, rfl⟩ := hw'
   have hbq := q.out
   obtain ⟨w3, hw3⟩ : ∃ w, w = q.at := ⟨_, rfl⟩
   rw [← hw3] at hbq ⊢
   have k1 := HC.out.1.below hbq HC.out.1.lt
   have c2 := k1.cell 2 _ rfl
   have f2 := k1.frozen 2
   have HK := Lib.hid (And.intro k1 (HC.out.2.trans (But.of (b := rb) hbq)))
   clear q0 q1 hw3 q k1 hbq
   go_wp2_with fail
   exact bodyPost_fall (results_none rfl _ _ _) rfl ⟨rfl, HK.out.1.set 2 _, HK.out.2.setCell _ _ rfl⟩

/-- A reader's variable, by what the reference's parser has done. -/
structure RdAt (rb : Nat) (s : ByteArray) (ts : List (Nat × Nat)) (stop : Nat) (p : Sm.PS) (W : World) : Prop where
 blk : Blk W rb [.string s, .int .i64 ((Sm.posG ts stop p.i : Nat) : Int), .string (Sm.look (tokT s ts) p), .bool p.f] 102
 chain : Sm.Chain (sb s) 0 ts stop
 sz : s.size ≤ 8192
 le : p.i ≤ ts.length
section
variable {rb : Nat} {s : ByteArray} {ts : List (Nat × Nat)} {stop : Nat} {p : Sm.PS} {W W' : World}
theorem RdAt.below (h : RdAt rb s ts stop p W) (hb : Below W.heap.size W W') : RdAt rb s ts stop p W' := ⟨h.blk.below hb h.blk.lt, h.chain, h.sz, h.le⟩
theorem RdAt.but {b : Nat} (h : RdAt rb s ts stop p W) (hb : But b W W') (hn : rb ≠ b) : RdAt rb s ts stop p W' := ⟨h.blk.but hb hn, h.chain, h.sz, h.le⟩
theorem RdAt.set (h : RdAt rb s ts stop p W) (a : Addr) (v : Value) (ha : rb ≠ a.block) : RdAt rb s ts stop p (W.setCell a v) := ⟨h.blk.other a v ha, h.chain, h.sz, h.le⟩
theorem RdAt.alloc (h : RdAt rb s ts stop p W) (o : Obj) : RdAt rb s ts stop p (W.alloc o) := h.below ((Below.refl _ _).alloc (Nat.le_refl _) _)
theorem RdAt.grown {row : Option Nat} (h : RdAt rb s ts stop p W) (hg : W.grownBy W' row) (hr : ∀ k, row = some k → rb < k) : RdAt rb s ts stop p W' := ⟨h.blk.grown hg (fun x => by have := hr _ x; omega), h.chain, h.sz, h.le⟩
theorem RdAt.drew (h : RdAt rb s ts stop p W) : RdAt rb s ts stop p W.drew := ⟨h.blk, h.chain, h.sz, h.le⟩
theorem RdAt.tok8 (h : RdAt rb s ts stop p W) : ∀ t ∈ ts, t.2 ≤ s.size := by
 have := (h.chain.le (Nat.zero_le _)).2
 rw [sb_len] at this
 exact this
end
theorem extract_nil (s : ByteArray) (a : Nat) : s.extract a a = Sm.nil := by
 apply ByteArray.ext
 simp [Sm.nil]
/-- Where the reader stands at k, of where the token before it ends. -/
theorem chain_state {s : ByteArray} {ts : List (Nat × Nat)} {stop : Nat} (h : Sm.Chain (sb s) 0 ts stop) (k : Nat) (hk : k ≤ ts.length) :
  Sm.beg (sb s) (Sm.endG ts k) = Sm.posG ts stop k ∧ s.extract (Sm.beg (sb s) (Sm.endG ts k)) (Sm.tokE (sb s) (sb s).length (Sm.beg (sb s) (Sm.endG ts k))) = Sm.look (tokT s ts) ⟨k, false⟩ := by
 obtain ⟨h1, h2, h3⟩ := h.here k hk
 rw [← h1]
 refine ⟨rfl, ?_⟩
 by_cases hlt : k < ts.length
 ·obtain ⟨t, ht⟩ : ∃ t, ts[k]? = some t := ⟨_, List.getElem?_eq_getElem hlt⟩
  have hp : Sm.posG ts stop k = t.1 := by unfold Sm.posG; rw [List.getD_eq_getElem?_getD, List.getElem?_map, ht]; rfl
  rw [look_at rfl t ht, hp, (h2 t ht).1]
 ·rw [h3 (by omega), extract_nil, look_out (.inr (by show ts.length ≤ k; omega))]
  rfl
theorem look_some {s : ByteArray} {ts : List (Nat × Nat)} {p : Sm.PS} (h : (Sm.look (tokT s ts) p).size ≠ 0) : p.f = false ∧ p.i < ts.length := by
 constructor
 ·cases hf : p.f with
  | false => rfl
  | true => exact absurd (by rw [look_out (.inl hf)]; rfl) h
 ·by_cases hlt : p.i < ts.length
  ·exact hlt
  ·exact absurd (by rw [look_out (.inr (by omega))]; rfl) h

theorem gNext_at (rb : Nat) (s : ByteArray) (ts : List (Nat × Nat)) (stop : Nat) (p : Sm.PS) (W : World) (h : RdAt rb s ts stop p W) (hn : (Sm.look (tokT s ts) p).size ≠ 0) :
  Calls Tryz.prog 61 #[.pointer (some ⟨rb, 0, none⟩)] W fun e w' => e = .returned (.tuple #[]) ∧ RdAt rb s ts stop ⟨p.i + 1, p.f⟩ w' ∧ But rb W w' := by
 obtain ⟨hf, hlt⟩ := look_some hn
 obtain ⟨t, ht⟩ : ∃ t, ts[p.i]? = some t := ⟨_, List.getElem?_eq_getElem hlt⟩
 have hp : Sm.posG ts stop p.i = t.1 := by unfold Sm.posG; rw [List.getD_eq_getElem?_getD, List.getElem?_map, ht]; rfl
 have hle := h.tok8 t (List.mem_of_getElem? ht)
 have hlt2 := ((h.chain.here p.i h.le).2.1 t ht).2
 have he : Sm.endG ts (p.i + 1) = t.2 := by show (ts.getD p.i (0, 0)).2 = _; rw [List.getD_eq_getElem?_getD, ht]; rfl
 have hsz : (s.extract t.1 t.2).size = t.2 - t.1 := by rw [ByteArray.size_extract]; omega
 have hlk := look_at (s := s) hf t ht
 have hst := chain_state h.chain (p.i + 1) hlt
 rw [he] at hst
 have hc := gNext_any rb s (Sm.look (tokT s ts) p) (Sm.posG ts stop p.i) p.f W h.blk h.sz (by rw [hp, hlk, hsz]; omega)
 rw [hp, hlk, hsz, show t.1 + (t.2 - t.1) = t.2 by omega, hst.2, hst.1, hf] at hc
 refine hc.mono ?_
 rintro e w' ⟨h1, h2, h3⟩
 exact ⟨h1, ⟨by rw [hf]; exact h2, h.chain, h.sz, hlt⟩, h3⟩
theorem gFirst_at (rb : Nat) (s : ByteArray) (ts : List (Nat × Nat)) (stop : Nat) (W : World) (h : Blk W rb [.string s, .int .i64 0, .string Sm.nil, .bool false] 102) (hc : Sm.Chain (sb s) 0 ts stop) (hs : s.size ≤ 8192) :
  Calls Tryz.prog 61 #[.pointer (some ⟨rb, 0, none⟩)] W fun e w' => e = .returned (.tuple #[]) ∧ RdAt rb s ts stop ⟨0, false⟩ w' ∧ But rb W w' := by
 have hst := chain_state hc 0 (Nat.zero_le _)
 have hn := gNext_any rb s Sm.nil 0 false W h hs (by show 0 + 0 ≤ _; omega)
 rw [show 0 + Sm.nil.size = Sm.endG ts 0 from rfl, hst.2, hst.1] at hn
 exact hn.mono fun e w' ⟨h1, h2, h3⟩ => ⟨h1, ⟨h2, hc, hs, Nat.zero_le _⟩, h3⟩

set_option maxHeartbeats 4000000 in
theorem gStarts_any (rb : Nat) (s : ByteArray) (ts : List (Nat × Nat)) (stop : Nat) (p : Sm.PS) (W : World) (h : RdAt rb s ts stop p W) (wd : ByteArray) (hwd : wd.size ≠ 0) :
  Calls Tryz.prog 155 #[.pointer (some ⟨rb, 0, none⟩), .string wd] W fun e w' => e = .returned (.bool (Sm.eqW (Sm.look (tokT s ts) p) wd)) ∧ RdAt rb s ts stop (if Sm.eqW (Sm.look (tokT s ts) p) wd = true then ⟨p.i + 1, p.f⟩ else p) w' ∧ But rb W w' := by
 have cN := fun V hV => gNext_at rb s ts stop p V hV
 have c2 := h.blk.cell 2 _ rfl
 obtain ⟨lw, hlw⟩ : ∃ w, w = Sm.look (tokT s ts) p := ⟨_, rfl⟩
 rw [← hlw] at c2 cN ⊢
 have CN := Lib.hid cN
 have HH := Lib.hid h
 clear cN h hlw
 by_cases he : lw.toList = wd.toList
 ·have hb : (lw.toList == wd.toList) = true := by simpa using he
  have hv : Sm.eqW lw wd = true := hb
  have hn : lw.size ≠ 0 := fun x => hwd ((empty_list wd).1 (by rw [← he]; exact (empty_list lw).2 x))
  rw [hv, if_pos rfl]
  have HN := Lib.hid hn
  have hb2 : (lw.toList != wd.toList) = false := by simp [he]
  clear hv hn
  go_enter Tryz.func155, Tryz.ntmps155
  go_wp2_with fail
  refine (CN.out _ HH.out HN.out).mono ?_
  rintro e w1 ⟨rfl, ha, hb⟩
  have H1 := Lib.hid (And.intro ha hb)
  clear ha hb CN c2
  go_wp2_with fail
  go_ret
  exact ⟨rfl, H1.out.1, H1.out.2⟩
 ·have hb : (lw.toList == wd.toList) = false := by simpa using he
  have hv : Sm.eqW lw wd = false := hb
  have hb2 : (lw.toList != wd.toList) = true := by simp [he]
  rw [hv, if_neg (by decide)]
  clear hv CN
  go_enter Tryz.func155, Tryz.ntmps155
  go_wp2_with fail
  go_ret
  exact ⟨rfl, HH.out, But.refl _ _⟩
end Go.Proofs.YtkgddcemocfgfaaGreatDoor
end

