import Derived.Test.YtkgddcemocfgfaaGreatDoorJZSmPo

section
/- The reference's parser: the tokens of a text. Plain mathematics. -/

namespace Go.Proofs.YtkgddcemocfgfaaGreatDoor
open Go.RowKit
set_option linter.unusedVariables false

namespace Sm
def inTok (c : UInt8) : Bool := decide (32 < c.toNat ∧ c.toNat < 127)
def blank (c : UInt8) : Bool := decide (c.toNat = 32 ∨ c.toNat = 10)
/-- Where a token that begins at e ends. -/
def tokE (l : List UInt8) : Nat → Nat → Nat
 | 0, e => e
 | n + 1, e => if e < l.length ∧ inTok (l.getD e 0) = true then tokE l n (e + 1) else e
theorem tokE_end (l : List UInt8) (n e : Nat) (h : ¬ (e < l.length ∧ inTok (l.getD e 0) = true)) : tokE l n e = e := by
 cases n with
 | zero => rfl
 | succ n => unfold tokE; rw [if_neg h]
theorem tokE_next (l : List UInt8) (n e : Nat) (h : e < l.length) (hc : inTok (l.getD e 0) = true) : tokE l (n + 1) e = tokE l n (e + 1) := by
 conv => lhs; unfold tokE
 rw [if_pos ⟨h, hc⟩]
theorem tokE_le (l : List UInt8) : ∀ (n e : Nat), e ≤ l.length → e ≤ tokE l n e ∧ tokE l n e ≤ l.length := by
 intro n
 induction n with
 | zero => intro e h; exact ⟨Nat.le_refl _, h⟩
 | succ n ih =>
  intro e h
  unfold tokE
  split
  ·rename_i x
   have := ih (e + 1) x.1
   omega
  ·exact ⟨Nat.le_refl _, h⟩
/-- The tokens from i on; where no token begins. -/
def scanF (l : List UInt8) : Nat → Nat → List (Nat × Nat) → List (Nat × Nat) × Nat
 | 0, i, a => (a, i)
 | n + 1, i, a => if i < l.length then (if blank (l.getD i 0) = true then scanF l n (i + 1) a else if tokE l l.length i = i then (a, i) else scanF l n (tokE l l.length i) (a ++ [(i, tokE l l.length i)])) else (a, i)
theorem scanF_end (l : List UInt8) (n i : Nat) (a : List (Nat × Nat)) (h : ¬ i < l.length) : scanF l n i a = (a, i) := by
 cases n with
 | zero => rfl
 | succ n => unfold scanF; rw [if_neg h]
theorem scanF_blank (l : List UInt8) (n i : Nat) (a : List (Nat × Nat)) (h : i < l.length) (hb : blank (l.getD i 0) = true) : scanF l (n + 1) i a = scanF l n (i + 1) a := by
 conv => lhs; unfold scanF
 rw [if_pos h, if_pos hb]
theorem scanF_stop (l : List UInt8) (n i : Nat) (a : List (Nat × Nat)) (h : i < l.length) (hb : blank (l.getD i 0) = false) (he : tokE l l.length i = i) : scanF l (n + 1) i a = (a, i) := by
 conv => lhs; unfold scanF
 rw [if_pos h, if_neg (by rw [hb]; decide), if_pos he]
theorem scanF_tok (l : List UInt8) (n i : Nat) (a : List (Nat × Nat)) (h : i < l.length) (hb : blank (l.getD i 0) = false) (he : ¬ tokE l l.length i = i) : scanF l (n + 1) i a = scanF l n (tokE l l.length i) (a ++ [(i, tokE l l.length i)]) := by
 conv => lhs; unfold scanF
 rw [if_pos h, if_neg (by rw [hb]; decide), if_neg he]
theorem scanF_ok (l : List UInt8) : ∀ (n i : Nat) (a : List (Nat × Nat)), i ≤ l.length → a.length ≤ i → (∀ t ∈ a, t.1 < t.2 ∧ t.2 ≤ l.length) →
  (scanF l n i a).2 ≤ l.length ∧ (scanF l n i a).1.length ≤ (scanF l n i a).2 ∧ ∀ t ∈ (scanF l n i a).1, t.1 < t.2 ∧ t.2 ≤ l.length := by
 intro n
 induction n with
 | zero => intro i a h1 h2 h3; exact ⟨h1, h2, h3⟩
 | succ n ih =>
  intro i a h1 h2 h3
  unfold scanF
  have hE := tokE_le l l.length i h1
  split
  ·rename_i x
   split
   ·exact ih _ _ x (by omega) h3
   ·split
    ·exact ⟨h1, h2, h3⟩
    ·rename_i y
     refine ih _ _ hE.2 (by rw [List.length_append]; show a.length + 1 ≤ _; omega) fun t ht => ?_
     rcases List.mem_append.1 ht with ht | ht
     ·exact h3 t ht
     ·rw [List.mem_singleton.1 ht]
      exact ⟨by show i < tokE l l.length i; omega, hE.2⟩
  ·exact ⟨h1, h2, h3⟩
def scan (l : List UInt8) : List (Nat × Nat) × Nat := scanF l (l.length + 1) 0 []
theorem scan_ok (l : List UInt8) : (scan l).2 ≤ l.length ∧ (scan l).1.length ≤ (scan l).2 ∧ ∀ t ∈ (scan l).1, t.1 < t.2 ∧ t.2 ≤ l.length := scanF_ok l _ 0 [] (Nat.zero_le _) (Nat.le_refl _) (by simp)
end Sm
theorem tokC_append (ts : List (Nat × Nat)) (t : Nat × Nat) : tokC (ts ++ [t]) = tokC ts ++ [.int .i64 t.1, .int .i64 t.2] := by
 unfold tokC
 simp
theorem info_tok : ((Tryz.prog.info? 99).map fun i => (i.zero, i.size, i.bytes)) = some (some (.agg #[.int .i64 0, .int .i64 0]), 2, 16) := by kernel_rfl
end Go.Proofs.YtkgddcemocfgfaaGreatDoor
end

section
/- The reference's parser: Scan. -/

namespace Go.Proofs.YtkgddcemocfgfaaGreatDoor
open Go.RowKit
set_option linter.unusedVariables false
set_option linter.unusedSimpArgs false
set_option maxRecDepth 100000

/-- What Scan answers. -/
def ScA (ts : List (Nat × Nat)) (stop : Nat) (W : World) (e : Ending) (w' : World) : Prop :=
 ∃ A cap, e = .returned (.tuple #[.slice A ts.length cap, .int .i64 stop]) ∧ RdS (Fresh W w') w' A (tokC ts) ∧ ts.length ≤ cap ∧ cap ≤ maxLen ∧ Below W.heap.size W w'
set_option maxHeartbeats 4000000 in
theorem paScan_any (s : ByteArray) (W : World) (hs : s.size ≤ 8192) :
  Calls Tryz.prog 59 #[.string s] W (ScA (Sm.scan (sb s)).1 (Sm.scan (sb s)).2 W) := by
 obtain ⟨R, hR⟩ : ∃ R, R = Sm.scan (sb s) := ⟨_, rfl⟩
 rw [← hR]
 obtain ⟨l, hl⟩ : ∃ l, l = sb s := ⟨_, rfl⟩
 have hll : l.length = s.size := by rw [hl]; exact sb_len s
 have hget : ∀ (k : Nat) (hk : k < s.size), l.getD k 0 = s[k]'hk := fun k hk => by
  rw [hl, List.getD_eq_getElem?_getD, sbGet s k hk]; rfl
 rw [← hl] at hR
 unfold Sm.scan at hR
 rw [hll] at hR
 obtain ⟨i0, hi0, hz0, hz1, hz2⟩ := info_parts2 info_tok
 have HI := Lib.hid (And.intro hi0 (And.intro hz0 (And.intro hz1 hz2)))
 have HR := Lib.hid (And.intro hR (And.intro hll (And.intro hget hs)))
 clear hR hl hll hget hi0 hz0 hz1 hz2 hs
 go_enter Tryz.func59, Tryz.ntmps59
 go_wp2_with fail
 go_loopw [4, 5, 6] (fun v i e wr => ∃ (k F : Nat) (L : List (Nat × Nat)), k ≤ s.size ∧ i = .int .i64 k ∧ wr.ownsRow W.heap.size 99 2 v L.length (tokC L) ∧ Below W.heap.size W wr ∧ R = Sm.scanF l F k L ∧ s.size < k + F ∧ L.length ≤ k) (fun _ i _ _ => s.size - (intOf i).toNat)
 case atStart => exact ⟨0, s.size + 1, [], Nat.zero_le _, rfl, World.ownsRow_nil _ _ _ _, Below.refl _ _, HR.out.1, by omega, Nat.le_refl _⟩
 case round =>
  obtain ⟨k, F, L, hk, rfl, hown, hbel, hR, hF, hL⟩ := hrel
  obtain ⟨wo, rfl⟩ : ∃ wo : World, wo = wr := ⟨_, rfl⟩
  have hs8 := HR.out.2.2.2
  have HK := Lib.hid (And.intro hown (And.intro hbel (And.intro hR (And.intro hF hL))))
  clear hown hbel hR hF hL
  by_cases hlt : k < s.size
  ·have hltI : (k : Int) < s.size := by omega
   have h0I : (0 : Int) ≤ (k : Int) := by omega
   obtain ⟨c, hc⟩ : ∃ c, c = s[k]'hlt := ⟨_, rfl⟩
   have hcI : ((s[k]'hlt).toNat : Int) = (c.toNat : Int) := by rw [hc]
   have hkN : ((k : Int)).toNat = k := by omega
   have HC := Lib.hid (show l.getD k 0 = c by rw [hc]; exact HR.out.2.2.1 k hlt)
   clear hc
   obtain ⟨F', rfl⟩ : ∃ F', F = F' + 1 := ⟨F - 1, by have := HK.out.2.2.2.1; omega⟩
   by_cases h32 : (c.toNat : Int) = 32
   ·have hbl : Sm.blank (l.getD k 0) = true := by rw [HC.out]; exact decide_eq_true (.inl (by omega))
    have HB := Lib.hid hbl
    clear hbl
    go_wp2_with fail
    exact ⟨⟨k + 1, F', L, by omega, by go_num, HK.out.1, HK.out.2.1, by rw [HK.out.2.2.1, Sm.scanF_blank l F' k L (by rw [HR.out.2.1]; exact hlt) HB.out], by have := HK.out.2.2.2.1; omega, by have := HK.out.2.2.2.2; omega⟩, by simp [intOf]; omega⟩
   ·have b32 : ((c.toNat : Int) == 32) = false := by simpa using h32
    by_cases h10 : (c.toNat : Int) = 10
    ·have hbl : Sm.blank (l.getD k 0) = true := by rw [HC.out]; exact decide_eq_true (.inr (by omega))
     have HB := Lib.hid hbl
     clear hbl
     go_wp2_with fail
     exact ⟨⟨k + 1, F', L, by omega, by go_num, HK.out.1, HK.out.2.1, by rw [HK.out.2.2.1, Sm.scanF_blank l F' k L (by rw [HR.out.2.1]; exact hlt) HB.out], by have := HK.out.2.2.2.1; omega, by have := HK.out.2.2.2.2; omega⟩, by simp [intOf]; omega⟩
    ·have b10 : ((c.toNat : Int) == 10) = false := by simpa using h10
     have hbl : Sm.blank (l.getD k 0) = false := by rw [HC.out]; exact decide_eq_false (by omega)
     have HB := Lib.hid hbl
     clear hbl
     go_upto_block 2 with fail
     obtain ⟨E, hE⟩ : ∃ E, E = Sm.tokE l l.length k := ⟨_, rfl⟩
     have HE := Lib.hid hE
     have hkE : k ≤ E := by rw [hE]; exact (Sm.tokE_le l l.length k (by rw [HR.out.2.1]; omega)).1
     have hEs : E ≤ s.size := by rw [← HR.out.2.1, hE]; exact (Sm.tokE_le l l.length k (by rw [HR.out.2.1]; omega)).2
     clear hE
     go_cut [6] from 24 to 41 (fun e wx => e = .int .i64 E ∧ wx = wo)
     case first =>
      clear h32 b32 h10 b10 HB
      go_wp2_with fail
      go_loopw [6] (fun e wr => ∃ (j G : Nat), j ≤ s.size ∧ e = .int .i64 j ∧ E = Sm.tokE l G j ∧ s.size ≤ j + G ∧ wr = wo) (fun e _ => s.size - (intOf e).toNat)
      case atStart => exact ⟨k, l.length, by omega, rfl, HE.out, by rw [HR.out.2.1]; omega, rfl⟩
      case round =>
       obtain ⟨j, G, hj, rfl, hG, hjG, rfl⟩ := hrel
       have HG := Lib.hid hG
       clear hG
       by_cases hjl : j < s.size
       ·have hjI : (j : Int) < s.size := by omega
        have h0j : (0 : Int) ≤ (j : Int) := by omega
        obtain ⟨c, hc⟩ : ∃ c, c = s[j]'hjl := ⟨_, rfl⟩
        have hcj : ((s[j]'hjl).toNat : Int) = (c.toNat : Int) := by rw [hc]
        have hjN : ((j : Int)).toNat = j := by omega
        have HC := Lib.hid (show l.getD j 0 = c by rw [hc]; exact HR.out.2.2.1 j hjl)
        clear hc
        by_cases h1 : (32 : Int) < c.toNat
        ·by_cases h2 : (c.toNat : Int) < 127
         ·obtain ⟨G', rfl⟩ : ∃ G', G = G' + 1 := ⟨G - 1, by omega⟩
          have hT := Lib.hid (show Sm.inTok (l.getD j 0) = true by rw [HC.out]; exact decide_eq_true ⟨by omega, by omega⟩)
          go_wp2_with fail
          exact ⟨⟨j + 1, G', by omega, by go_num, by rw [HG.out, Sm.tokE_next l G' j (by rw [HR.out.2.1]; exact hjl) hT.out], by omega, trivial⟩, by simp [intOf]; omega⟩
         ·have HE2 := Lib.hid (show E = j by rw [HG.out, Sm.tokE_end l G j (fun x => by have := of_decide_eq_true x.2; rw [HC.out] at this; omega)])
          go_wp2_with fail
          go_meet
          case rel => exact ⟨by rw [HE2.out], rfl⟩
        ·have HE2 := Lib.hid (show E = j by rw [HG.out, Sm.tokE_end l G j (fun x => by have := of_decide_eq_true x.2; rw [HC.out] at this; omega)])
         go_wp2_with fail
         go_meet
         case rel => exact ⟨by rw [HE2.out], rfl⟩
       ·have HE2 := Lib.hid (show E = j by rw [HG.out, Sm.tokE_end l G j (fun x => by have := x.1; rw [HR.out.2.1] at this; omega)])
        have hjn : ¬ (j : Int) < s.size := by omega
        go_wp2_with fail
        go_meet
        case rel => exact ⟨by rw [HE2.out], rfl⟩
     case rest =>
      obtain ⟨rfl, rfl⟩ := hcut
      by_cases hEk : E = k
      ·have hRR : R = (L, k) := by rw [HK.out.2.2.1, Sm.scanF_stop l F' k L (by rw [HR.out.2.1]; exact hlt) HB.out (by rw [← HE.out]; exact hEk)]
       obtain ⟨nl, hnl⟩ : ∃ n, n = L.length := ⟨_, rfl⟩
       have hown := HK.out.1
       rw [← hnl] at hown
       obtain ⟨Av, cv, rfl, h1, h2, h3⟩ := own_rdB hown
       have HF := Lib.hid (And.intro h1 (And.intro h2 (And.intro h3 (And.intro hnl (And.intro hRR HK.out.2.1)))))
       have hEk2 : ((E : Int) == (k : Int)) = true := by simp; omega
       have hEk3 : (E : Int) = (k : Int) := by omega
       clear hown h1 h2 h3 hnl hRR HE hEk
       go_wp2_with fail
       go_ret2
       exact ⟨Av, cv, by rw [HF.out.2.2.2.2.1, HF.out.2.2.2.1]; rfl, by rw [HF.out.2.2.2.2.1]; exact HF.out.1, by rw [HF.out.2.2.2.2.1]; show L.length ≤ cv; rw [← HF.out.2.2.2.1]; exact HF.out.2.1, HF.out.2.2.1, HF.out.2.2.2.2.2⟩
      ·have hEk2 : ((E : Int) == (k : Int)) = false := by simp; omega
       have hEk3 : ¬ (E : Int) = (k : Int) := by omega
       have HRR := Lib.hid (show R = Sm.scanF l F' E (L ++ [(k, E)]) by rw [HK.out.2.2.1, Sm.scanF_tok l F' k L (by rw [HR.out.2.1]; exact hlt) HB.out (by rw [← HE.out]; exact hEk), ← HE.out])
       have HNW := Lib.hid (Blk.new wc [.int .i64 k, .int .i64 E] 99)
       have HAL := Lib.hid (show Below W.heap.size W (wc.alloc (.cells #[.int .i64 k, .int .i64 E] 99)) from HK.out.2.1.alloc HK.out.2.1.size _)
       clear HE
       go_wp2_with (at_builtin; refine wpList_append_own_at _ rfl (.tmp 47) (.tmp 51) 94 rfl W.heap.size 99 i0 (.agg #[.int .i64 0, .int .i64 0]) 2 16 Tryz.underlying94 HI.out.1 HI.out.2.1 HI.out.2.2.1 HI.out.2.2.2 rfl (by decide) _ L.length (tokC L) rfl (HK.out.1.alloc _) ⟨wc.heap.size, 0, none⟩ 1 1 [.int .i64 k, .int .i64 E] rfl rfl (fun j u hj => by
        match j, hj with
        | 0, hj => obtain rfl := Option.some.inj hj; exact HNW.out.cell 0 _ rfl
        | 1, hj => obtain rfl := Option.some.inj hj; exact HNW.out.cell 1 _ rfl
        | j + 2, hj => simp at hj) (by intro u hu; simp at hu; rcases hu with rfl | rfl <;> rfl) (by have := HK.out.2.2.2.2; unfold maxLen; omega) (by have := HK.out.2.2.2.2; omega) HAL.out.size ?_; intro v' w4 hown' hgrow _ hat; have HA := Lib.hid (And.intro hown' (And.intro hgrow hat)); clear hown' hgrow hat)
       refine ⟨⟨E, F', L ++ [(k, E)], hEs, rfl, ?_, ?_, HRR.out, by have := HK.out.2.2.2.1; omega, by rw [List.length_append]; have := HK.out.2.2.2.2; show L.length + 1 ≤ E; omega⟩, by simp [intOf]; omega⟩
       ·rw [List.length_append, tokC_append]; exact HA.out.1
       ·exact HAL.out.grown HA.out.2.1 HAL.out.size (fun j hj => (HK.out.1.lt j hj).1)
  ·obtain ⟨nl, hnl⟩ : ∃ n, n = L.length := ⟨_, rfl⟩
   have hke : k = s.size := by omega
   have hRR : R = (L, k) := by rw [HK.out.2.2.1, Sm.scanF_end l F k L (by rw [HR.out.2.1]; exact hlt)]
   have hown := HK.out.1
   rw [← hnl] at hown
   obtain ⟨Av, cv, rfl, h1, h2, h3⟩ := own_rdB hown
   subst hke
   have HF := Lib.hid (And.intro h1 (And.intro h2 (And.intro h3 (And.intro hnl (And.intro hRR HK.out.2.1)))))
   have hni : ¬ (s.size : Int) < s.size := by omega
   clear hown h1 h2 h3 hnl hRR hk hlt HK
   go_wp2_with fail
   go_ret2
   exact ⟨Av, cv, by rw [HF.out.2.2.2.2.1, HF.out.2.2.2.1]; rfl, by rw [HF.out.2.2.2.2.1]; exact HF.out.1, by rw [HF.out.2.2.2.2.1]; show L.length ≤ cv; rw [← HF.out.2.2.2.1]; exact HF.out.2.1, HF.out.2.2.1, HF.out.2.2.2.2.2⟩
end Go.Proofs.YtkgddcemocfgfaaGreatDoor
end

section
/- Reading what is written: the tokens of a text made of pieces. Plain mathematics. -/

namespace Go.Proofs.YtkgddcemocfgfaaGreatDoor
open Go.RowKit
set_option linter.unusedVariables false

namespace Sm
/-- A text of pieces: blanks, then a token. -/
def flatP (ps : List (List UInt8 × List UInt8)) : List UInt8 := ps.flatMap fun p => p.1 ++ p.2
def okP (p : List UInt8 × List UInt8) : Prop := p.1.all blank = true ∧ p.2 ≠ [] ∧ p.2.all inTok = true
theorem blank_in {c : UInt8} (h : blank c = true) : inTok c = false := by
 unfold blank at h
 unfold inTok
 have := of_decide_eq_true h
 exact decide_eq_false (by omega)
theorem in_blank {c : UInt8} (h : inTok c = true) : blank c = false := by
 cases hb : blank c with
 | false => rfl
 | true => rw [blank_in hb] at h; cases h
theorem getD_mid (pre rest : List UInt8) (c : UInt8) : (pre ++ c :: rest).getD pre.length 0 = c := by
 rw [List.getD_eq_getElem?_getD, List.getElem?_append_right (Nat.le_refl _), Nat.sub_self]
 rfl
theorem tokE_run (l : List UInt8) : ∀ (t pre rest : List UInt8) (n : Nat), l = pre ++ (t ++ rest) → t.all inTok = true → (∀ c r, rest = c :: r → inTok c = false) → t.length ≤ n → tokE l n pre.length = pre.length + t.length := by
 intro t
 induction t with
 | nil =>
  intro pre rest n hl _ hr _
  rw [tokE_end]
  ·rfl
  ·rintro ⟨h1, h2⟩
   cases rest with
   | nil => rw [hl] at h1; simp at h1
   | cons c r =>
    rw [hl, List.nil_append, getD_mid] at h2
    rw [hr c r rfl] at h2
    cases h2
 | cons c t ih =>
  intro pre rest n hl ht hr hn
  rw [List.all_cons, Bool.and_eq_true] at ht
  cases n with
  | zero => simp at hn
  | succ n =>
   rw [tokE_next l n pre.length (by rw [hl]; simp) (by rw [hl, List.cons_append, getD_mid]; exact ht.1)]
   have := ih (pre ++ [c]) rest n (by rw [hl]; simp) ht.2 hr (by simpa using hn)
   rw [List.length_append] at this
   simp only [List.length_cons, List.length_nil, Nat.zero_add] at this
   rw [this, List.length_cons]
   omega
theorem scanF_blanks (l : List UInt8) : ∀ (b pre rest : List UInt8) (n : Nat) (a : List (Nat × Nat)), l = pre ++ (b ++ rest) → b.all blank = true → scanF l (n + b.length) pre.length a = scanF l n (pre.length + b.length) a := by
 intro b
 induction b with
 | nil => intro pre rest n a _ _; rfl
 | cons c b ih =>
  intro pre rest n a hl hb
  rw [List.all_cons, Bool.and_eq_true] at hb
  rw [List.length_cons, ← Nat.add_assoc, scanF_blank l (n + b.length) pre.length a (by rw [hl]; simp) (by rw [hl, List.cons_append, getD_mid]; exact hb.1)]
  have := ih (pre ++ [c]) rest n a (by rw [hl]; simp) hb.2
  rw [List.length_append] at this
  simp only [List.length_cons, List.length_nil, Nat.zero_add] at this
  rw [this]
  congr 1
  omega
theorem scanF_pieces (l tr : List UInt8) (htr : tr.all blank = true) : ∀ (ps : List (List UInt8 × List UInt8)) (pre : List UInt8) (n : Nat) (a : List (Nat × Nat)), l = pre ++ (flatP ps ++ tr) → (∀ p ∈ ps, okP p) → (∀ p ∈ ps.tail, p.1 ≠ []) → (flatP ps).length + tr.length + 1 ≤ n →
  ∃ ts : List (Nat × Nat), scanF l n pre.length a = (a ++ ts, l.length) ∧ ts.map (fun t => (l.drop t.1).take (t.2 - t.1)) = ps.map (·.2) := by
 intro ps
 induction ps with
 | nil =>
  intro pre n a hl _ _ hn
  refine ⟨[], ?_, rfl⟩
  obtain ⟨m, rfl⟩ : ∃ m, n = m + tr.length := ⟨n - tr.length, by omega⟩
  have hl2 : l = pre ++ (tr ++ []) := by rw [hl]; simp [flatP]
  rw [scanF_blanks l tr pre [] m a hl2 htr, scanF_end l m _ a (by rw [hl]; simp [flatP])]
  rw [hl]
  simp [flatP]
 | cons p ps ih =>
  intro pre n a hl hok hne hn
  obtain ⟨h1, h2, h3⟩ := hok p (by simp)
  have e0 : flatP (p :: ps) = p.1 ++ (p.2 ++ flatP ps) := by simp [flatP]
  rw [e0] at hl hn
  simp only [List.length_append] at hn
  obtain ⟨m, rfl⟩ : ∃ m, n = (m + 1) + p.1.length := ⟨n - p.1.length - 1, by have : 0 < p.2.length := List.length_pos_iff.2 h2; omega⟩
  rw [scanF_blanks l p.1 pre (p.2 ++ flatP ps ++ tr) (m + 1) a (by rw [hl]; simp) h1]
  have hpl : (pre ++ p.1).length = pre.length + p.1.length := List.length_append
  have hp2 : 0 < p.2.length := List.length_pos_iff.2 h2
  have hrest : ∀ c r, flatP ps ++ tr = c :: r → inTok c = false := by
   intro c r hcr
   cases ps with
   | nil =>
    have : tr = c :: r := by simpa [flatP] using hcr
    rw [this, List.all_cons, Bool.and_eq_true] at htr
    exact blank_in htr.1
   | cons q qs =>
    have hq := hne q (by simp)
    have hqo := (hok q (by simp)).1
    obtain ⟨b, bs, hb⟩ := List.exists_cons_of_ne_nil hq
    have e1 : flatP (q :: qs) = q.1 ++ (q.2 ++ flatP qs) := by simp [flatP]
    rw [e1, hb] at hcr
    rw [hb, List.all_cons, Bool.and_eq_true] at hqo
    simp only [List.cons_append, List.cons.injEq] at hcr
    rw [← hcr.1]
    exact blank_in hqo.1
  have hlp : l = (pre ++ p.1) ++ (p.2 ++ (flatP ps ++ tr)) := by rw [hl]; simp
  have hlen : l.length = pre.length + p.1.length + p.2.length + (flatP ps).length + tr.length := by rw [hl]; simp only [List.length_append]; omega
  have hE := tokE_run l p.2 (pre ++ p.1) (flatP ps ++ tr) l.length hlp h3 hrest (by omega)
  rw [hpl] at hE
  obtain ⟨c, t, hc⟩ := List.exists_cons_of_ne_nil h2
  have hg : l.getD (pre.length + p.1.length) 0 = c := by
   rw [hlp, ← hpl, hc, List.cons_append, getD_mid]
  have hci : inTok c = true := by rw [hc, List.all_cons, Bool.and_eq_true] at h3; exact h3.1
  rw [scanF_tok l m (pre.length + p.1.length) a (by omega) (by rw [hg]; exact in_blank hci) (by rw [hE]; omega), hE]
  have hlp2 : l = (pre ++ p.1 ++ p.2) ++ (flatP ps ++ tr) := by rw [hl]; simp
  have hpl2 : (pre ++ p.1 ++ p.2).length = pre.length + p.1.length + p.2.length := by simp only [List.length_append]
  obtain ⟨ts, ht1, ht2⟩ := ih (pre ++ p.1 ++ p.2) m (a ++ [(pre.length + p.1.length, pre.length + p.1.length + p.2.length)]) hlp2 (fun q hq => hok q (by simp [hq])) (fun q hq => hne q (List.mem_of_mem_tail hq)) (by omega)
  rw [hpl2] at ht1
  refine ⟨(pre.length + p.1.length, pre.length + p.1.length + p.2.length) :: ts, by rw [ht1]; simp, ?_⟩
  rw [List.map_cons, ht2, List.map_cons]
  congr 1
  rw [hlp, ← hpl, List.drop_left]
  simp
theorem sb_extract (s : ByteArray) (i j : Nat) : sb (s.extract i j) = ((sb s).drop i).take (j - i) := by
 unfold sb
 rw [ByteArray.data_extract, Array.toList_extract]
theorem bs_sb (s : ByteArray) : bs (sb s) = s := rfl
/-- The tokens of a text made of pieces. -/
theorem scan_text (s : ByteArray) (ps : List (List UInt8 × List UInt8)) (tr : List UInt8) (hs : sb s = flatP ps ++ tr) (htr : tr.all blank = true) (hok : ∀ p ∈ ps, okP p) (hne : ∀ p ∈ ps.tail, p.1 ≠ []) :
  (scan (sb s)).2 = s.size ∧ tokT s (scan (sb s)).1 = ps.map fun p => bs p.2 := by
 have hlen : (sb s).length = (flatP ps).length + tr.length := by rw [hs, List.length_append]
 obtain ⟨ts, h1, h2⟩ := scanF_pieces (sb s) tr htr ps [] ((sb s).length + 1) [] (by rw [hs]; rfl) hok hne (by omega)
 unfold scan
 rw [show (0 : Nat) = ([] : List UInt8).length from rfl, h1]
 refine ⟨sb_len s, ?_⟩
 unfold tokT
 show ts.map _ = _
 have : ts.map (fun t => s.extract t.1 t.2) = (ts.map (fun t => ((sb s).drop t.1).take (t.2 - t.1))).map bs := by
  rw [List.map_map]
  apply List.map_congr_left
  intro t _
  show s.extract t.1 t.2 = bs (((sb s).drop t.1).take (t.2 - t.1))
  rw [← sb_extract, bs_sb]
 rw [this, h2, List.map_map]
 rfl
end Sm
end Go.Proofs.YtkgddcemocfgfaaGreatDoor
end

