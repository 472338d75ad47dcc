import Derived.RangeFuncNested
import Derived.RangeFuncBound
import Derived.RangeFuncCalls
import Derived.RangeFuncLeaves
import Derived.Shelf.Abstract
import Derived.Shelf.RegionOpen
import Derived.WalkKit
import Derived.OwnWalkIn
import Derived.TacticsInMore
import Derived.LoopNIn
import Derived.LoopIn
import Derived.Test.YtjdidnonfmdfmaaDoorJDrawD
import Derived.Test.YtjdidnonfmdfmaaDoorJRangeUntil

section
/- The contracts of draw.tries and draw.below: where the first accepted word is that of try k. -/













namespace Go.Proofs.YtjdidnonfmdfmaaDoor
open Go.RowKit Go.Shelf
set_option linter.unusedVariables false
set_option maxRecDepth 100000
attribute [local go_sem] Oper.semAt_some

set_option maxHeartbeats 2000000 in
theorem tries_until (n k : Nat) (hn : 1 ≤ n) (hk : k ≤ 1000000000) : Untils Fence.wide n Tryd.prog 48 k := by
  intro l J X W hmax hY h0
  refine callsIn_of_wp Tryd.func48 rfl trivial ?_ rfl
  simp only [Tryd.ntmps48, List.size_toArray, List.length_cons, List.length_nil, Nat.reduceAdd, Nat.reduceSub, Array.replicate_succ, Array.replicate_zero, List.push_toArray, List.append_toArray, List.nil_append, List.cons_append]
  gi_wp2
  gi_loopw [2] (fun p wr => ∃ t : Nat, p = .int .i64 t ∧ J t wr) (fun p _ => k + 1 - (intOf p).toNat)
  case atStart => exact ⟨0, rfl, h0⟩
  case round =>
    obtain ⟨t, rfl, hj⟩ := hrel
    have hm := hmax t wr hj
    obtain ⟨fn, tmps, assign, body, hy, hR⟩ := hY t wr hj
    gi_wp2
    refine hR.mono ?_
    rintro e W3 (⟨rfl, hJ3⟩ | ⟨rfl, hX3⟩)
    · gi_wp2
      go_roundw
      case rel => exact ⟨t + 1, by go_num, hJ3⟩
      case measure => simp [intOf]; omega
    · gi_wp2
      go_end0
      exact ⟨⟨_, rfl⟩, hX3⟩

/-- The end of the words that are accepted for n. -/
def limN (n : Nat) : Nat := 281474976710656 / n * n
/-- Try k is the first one whose word is accepted for n. -/
def First (s : ByteArray) (p : List Int) (n k : Nat) : Prop := wordN s p k < limN n ∧ ∀ j, j < k → ¬ wordN s p j < limN n
theorem limN_le (n : Nat) : limN n ≤ 281474976710656 := Nat.div_mul_le_self _ _

theorem keeps_below {B : Nat} {w w' : World} (h : Below B w w') (hB : B = w.heap.size) : KeepsOthers w w' :=
  ⟨h.size, fun k o hk _ => (h.block k (by rw [hB]; exact (Array.getElem?_eq_some_iff.1 hk).1)).trans hk⟩
theorem Blk.grown {W W' : World} {row : Option Nat} {b : Nat} {vs : List Value} {t : TypeId} (h : Blk W b vs t) (hg : W.grownBy W' row) (hr : ∀ r, row = some r → b < r) : Blk W' b vs t :=
  (hg.block b h.lt (fun e => absurd (hr b e.symm) (Nat.lt_irrefl _))).trans h

/-- What below's variables hold. -/
structure Tried (b : Nat) (s : ByteArray) (v : Value) (lim x : Int) (w W : World) : Prop where
  seed : Blk W b [.string s] 9
  path : Blk W (b + 1) [v] 22
  lim : Blk W (b + 2) [.int .i64 lim] 3
  word : Blk W (b + 3) [.int .i64 x] 3
  bel : Below b w W
theorem Tried.grown {b : Nat} {s : ByteArray} {v : Value} {lim x : Int} {w W W' : World} {row : Option Nat} (h : Tried b s v lim x w W) (hg : W.grownBy W' row) (hr : ∀ r, row = some r → b + 4 ≤ r) : Tried b s v lim x w W' :=
  ⟨h.seed.grown hg (fun r e => by have := hr r e; omega), h.path.grown hg (fun r e => by have := hr r e; omega), h.lim.grown hg (fun r e => by have := hr r e; omega), h.word.grown hg (fun r e => by have := hr r e; omega),
    h.bel.grown hg (by have := h.seed.lt; omega) (fun r e => by have := hr r e; omega)⟩
theorem Tried.new (s : ByteArray) (v : Value) (lim x : Int) (w : World) :
    Tried w.heap.size s v lim x w ((((w.alloc (.cells #[.string s] 9)).alloc (.cells #[v] 22)).alloc (.cells #[.int .i64 lim] 3)).alloc (.cells #[.int .i64 x] 3)) := by
  have k0 := Blk.new w [.string s] 9
  have k1 := Blk.new (w.alloc (.cells #[.string s] 9)) [v] 22
  have k2 := Blk.new ((w.alloc (.cells #[.string s] 9)).alloc (.cells #[v] 22)) [.int .i64 lim] 3
  have k3 := Blk.new (((w.alloc (.cells #[.string s] 9)).alloc (.cells #[v] 22)).alloc (.cells #[.int .i64 lim] 3)) [.int .i64 x] 3
  simp only [World.size_alloc] at k1 k2 k3
  exact ⟨((k0.alloc _).alloc _).alloc _, (k1.alloc _).alloc _, k2.alloc _, k3, ((((Below.refl _ _).alloc (Nat.le_refl _) _).alloc (by simp) _).alloc (by simp; omega) _).alloc (by simp; omega) _⟩
theorem Tried.call {b : Nat} {s : ByteArray} {v : Value} {lim x : Int} {w W W' : World} (h : Tried b s v lim x w W) (hb : Below W.heap.size W W') : Tried b s v lim x w W' :=
  ⟨h.seed.below hb h.seed.lt, h.path.below hb h.path.lt, h.lim.below hb h.lim.lt, h.word.below hb h.word.lt, h.bel.trans (hb.mono (Nat.le_of_lt h.seed.lt))⟩
theorem Tried.set {b : Nat} {s : ByteArray} {v : Value} {lim x : Int} {w W : World} (h : Tried b s v lim x w W) (y : Int) : Tried b s v lim y w (W.setCell ⟨b + 3, 0, none⟩ (.int .i64 y)) :=
  ⟨h.seed.other _ _ (by show b ≠ b + 3; omega), h.path.other _ _ (by show b + 1 ≠ b + 3; omega), h.lim.other _ _ (by show b + 2 ≠ b + 3; omega), h.word.set 0 _, h.bel.setCell (by show b ≤ b + 3; omega) _⟩

set_option maxHeartbeats 4000000 in
theorem below_at (s : ByteArray) (A : Option Addr) (cap : Nat) (p : List Int) (n k : Nat) (w : World) (hr : Rd w w.heap.size A (p.map iv)) (hc : p.length ≤ cap) (hm : cap ≤ maxLen) (hs : s.size ≤ 1000) (hn : p.length ≤ 100)
    (hI : ∀ n ∈ p, M.I64 n) (hT : HTab w) (h1 : 1 ≤ n) (h2 : n ≤ 1099511627776) (hk : k ≤ 1000000000) (hF : First s p n k) :
    Calls Tryd.prog 45 #[.string s, .slice A p.length cap, .int .i64 n] w fun e w' => e = .returned (.int .i64 ((wordN s p k % n : Nat) : Int)) ∧ Below w.heap.size w w' := by
  have hle := limN_le n
  have hw : wrap64 ((281474976710656 : Int) / (n : Int) * (n : Int)) = (limN n : Int) := by
    rw [show (281474976710656 : Int) / (n : Int) * (n : Int) = ((281474976710656 / n * n : Nat) : Int) by simp]
    unfold limN at hle ⊢
    unfold wrap64
    omega
  obtain ⟨lim, hlim⟩ : ∃ lim : Nat, lim = limN n := ⟨_, rfl⟩
  rw [← hlim] at hw hle
  have hmod : wordN s p k % n < n := Nat.mod_lt _ (by omega)
  have hfst : ∀ t, t ≤ k → (if t = k then wordN s p t < lim else ¬ wordN s p t < lim) := by
    intro t ht
    rw [hlim]
    split
    · rename_i h; rw [h]; exact hF.1
    · exact hF.2 t (by omega)
  have hwl := wordN_lt s p k
  have HM := Lib.hid hwl
  have HF := Lib.hid hfst
  have HR := Lib.hid (And.intro hr (And.intro hc (And.intro hm (And.intro hs (And.intro hn (And.intro hI hT))))))
  clear hlim hF hfst hr hc hm hs hn hI hT hwl
  obtain ⟨N, hN⟩ : ∃ N, N = p.length := ⟨_, rfl⟩
  have HN := Lib.hid hN
  rw [← hN]
  clear hN
  have hT0 := Tried.new s (.slice A N cap) lim lim w
  refine (callsIn_wide (n := 3)).1 ?_
  refine callsIn_of_wp_marks Tryd.func45 rfl trivial ?_ rfl
  simp only [Tryd.ntmps45, List.size_toArray, List.length_cons, List.length_nil, Nat.reduceAdd, Nat.reduceSub, Array.replicate_succ, Array.replicate_zero, List.push_toArray, List.append_toArray, List.nil_append, List.cons_append]
  have T0 := Lib.hid hT0
  clear hT0
  gi_wp2
  obtain ⟨W0, hW0⟩ : ∃ W0, W0 = ((((w.alloc (.cells #[.string s] 9)).alloc (.cells #[.slice A N cap] 22)).alloc (.cells #[.int .i64 (lim : Int)] 3)).alloc (.cells #[.int .i64 (lim : Int)] 3)) := ⟨_, rfl⟩
  have hsz : W0.heap.size = w.heap.size + 4 := by rw [hW0]; simp
  have T1 := T0.out
  rw [← hW0] at T1
  rw [← hW0]
  refine wpIn_rangeFunc_until rfl (by omega) (gf := 48) (k := k) rfl trivial (enters_of Tryd.func48 (by kernel_rfl) rfl) (tries_until _ k (by omega) hk) rfl
    (fun t W => t ≤ k ∧ ∃ x : Int, Tried w.heap.size s (.slice A N cap) lim x w W) (fun c W => c = .exit 0 ∧ Tried w.heap.size s (.slice A N cap) lim (wordN s p k : Int) w W)
    (fun t X Y row h hg hr => ⟨h.1, h.2.imp fun x hx => hx.grown hg (fun r e => by have := (hr r e).1; omega)⟩)
    (fun c X Y row h hg hr => ⟨h.1, h.2.grown hg (fun r e => by have := (hr r e).1; omega)⟩)
    (fun t W h => h.1) ⟨Nat.zero_le _, _, T1⟩
    (fun t => { tmps := #[.string s, .slice A N cap, .int .i64 (n : Int), .pointer (some ⟨w.heap.size, 0, none⟩), .pointer (some ⟨w.heap.size + 1, 0, none⟩), undef, .int .i64 0, .pointer (some ⟨w.heap.size + 1 + 1, 0, none⟩), .pointer (some ⟨w.heap.size + 1 + 1 + 1, 0, none⟩), .int .i64 (t : Int), .int .i64 (n : Int), .int .i64 (281474976710656 / (n : Int)), .int .i64 (n : Int), .int .i64 (lim : Int), .int .i64 (lim : Int), .int .i64 (t : Int), undef, undef, undef, undef, undef, undef, undef, undef, undef, undef], defers := [] }) ?assign ?body ?stop
  case assign =>
    intro l t W K hK
    gi_wp2
    exact hK
  case body =>
    rintro l t W ⟨htk, x, hx⟩
    have c0 := hx.seed.cell 0 _ rfl
    have c1 := hx.path.cell 0 _ rfl
    have c2 := hx.lim.cell 0 _ rfl
    have c3 := hx.word.cell 0 _ rfl
    have f3 := hx.word.frozen 0
    have hR := HR.out
    have cW := word_any s A cap p t W ((hR.1.below hx.bel).more (Nat.le_of_lt (Nat.lt_of_lt_of_le hx.seed.lt (Nat.le_refl _)))) hR.2.1 hR.2.2.1 hR.2.2.2.1 hR.2.2.2.2.1 hR.2.2.2.2.2.1 (by constructor <;> omega) (hR.2.2.2.2.2.2.below hx.bel (Nat.le_refl _))
    rw [← HN.out] at cW
    have hft := HF.out t htk
    obtain ⟨z, hz⟩ : ∃ z : Nat, z = wordN s p t := ⟨_, rfl⟩
    rw [← hz] at cW hft
    have HX := Lib.hid hx
    have CW := Lib.hid cW
    have HZ := Lib.hid hz
    have HS := Lib.hid hsz
    by_cases htk2 : t = k
    · rw [if_pos htk2] at hft
      have HK := Lib.hid htk2
      clear hx cW hz hR hW0 T1 T0 hw hsz htk2
      gi_wp2_with (refine ⟨trivial, ?_⟩; gi_at_call 49; refine (CallsIn.inRound l (callsIn_wide.2 CW.out)).mono ?_; rintro e w' ⟨rfl, hb⟩; have hx2 := HX.out.call hb; have d3 := hx2.word.cell 0 _ rfl; have g3 := hx2.word.frozen 0; have d2 := hx2.lim.cell 0 _ rfl; have HX2 := Lib.hid hx2; have HB2 := Lib.hid hb; clear hx2 hb)
      refine ⟨(keeps_below HB2.out rfl).trans (KeepsOthers.setCell _ _ _), rfl, ?_⟩
      rw [← HK.out, ← HZ.out]
      exact HX2.out.set z
    · rw [if_neg htk2] at hft
      have HK := Lib.hid htk2
      clear hx cW hz hR hW0 T1 T0 hw hsz htk2
      gi_wp2_with (refine ⟨trivial, ?_⟩; gi_at_call 49; refine (CallsIn.inRound l (callsIn_wide.2 CW.out)).mono ?_; rintro e w' ⟨rfl, hb⟩; have hx2 := HX.out.call hb; have d3 := hx2.word.cell 0 _ rfl; have g3 := hx2.word.frozen 0; have d2 := hx2.lim.cell 0 _ rfl; have HX2 := Lib.hid hx2; have HB2 := Lib.hid hb; clear hx2 hb)
      exact ⟨(keeps_below HB2.out rfl).trans (KeepsOthers.setCell _ _ _), by have := HK.out; omega, z, HX2.out.set z⟩
  case stop =>
    rintro D c W hD ⟨rfl, hx⟩ hdf
    have c3 := hx.word.cell 0 _ rfl
    have hmx : (((wordN s p k : Nat) : Int)).tmod (n : Int) = ((wordN s p k % n : Nat) : Int) := by rw [Int.tmod_eq_emod_of_nonneg (by omega)]; simp
    obtain ⟨y, hy⟩ : ∃ y : Nat, y = wordN s p k % n := ⟨_, rfl⟩
    obtain ⟨z, hz⟩ : ∃ z : Nat, z = wordN s p k := ⟨_, rfl⟩
    have hzl := HM.out
    have hbl := hx.bel
    rw [← hz] at c3 hmx hy hzl
    rw [← hy] at hmx
    have hy2 : y < n := by rw [hy]; exact Nat.mod_lt _ (by omega)
    have HY := Lib.hid (And.intro hy (And.intro hz hbl))
    have HS := Lib.hid (And.intro hsz hD)
    clear hx hy hz hmod hW0 T1 T0 hbl hsz hD
    gi_wp2
    refine ⟨by simp, .inl ⟨_, _, rfl, run_takeDeferred hdf, ?_⟩⟩
    refine ⟨_, results_tmp rfl _ _ _, ?_⟩
    exact ⟨by rw [← HY.out.2.1, ← HY.out.1]; rfl, HY.out.2.2.grown (grownBy_putObj' W D _) HY.out.2.2.size (fun r e => by cases e; have := HS.out; omega)⟩
end Go.Proofs.YtjdidnonfmdfmaaDoor
end

