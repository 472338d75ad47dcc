import Derived.RangeFuncNested
import Derived.RangeFuncBound
import Derived.RangeFuncCalls
import Derived.RangeFuncLeaves
import Derived.RangeFuncFrom
import Derived.RangeFuncKeeps
import Derived.Shelf.Abstract
import Derived.Shelf.RegionOpen
import Derived.WalkKit
import Derived.OwnWalkIn
import Derived.TacticsInMore
import Derived.LoopNIn
import Derived.LoopIn
import Derived.Test.YtcmepgjbplpnbaaDoorJPermPf
import Derived.Test.YtcmepgjbplpnbaaDoorJPermRg

section
/- perm: the iterator places. -/















namespace Go.Proofs.YtcmepgjbplpnbaaDoor
open Go.RowKit Go.Shelf
set_option linter.unusedVariables false
set_option maxRecDepth 100000
attribute [local go_sem] Oper.semAt_some

/-- The variables and rows from block B on lie as they lay. -/
structure KUp (B : Nat) (W W' : World) : Prop where
  size : W.heap.size ≤ W'.heap.size
  same : ∀ (k : Nat) (o : Obj), B ≤ k → W.heap[k]? = some o → o.isCells = true → W'.heap[k]? = some o
theorem KUp.trans {B : Nat} {X Y Z : World} (h : KUp B X Y) (k : KUp B Y Z) : KUp B X Z := ⟨Nat.le_trans h.size k.size, fun i o hB hi ho => k.same i o hB (h.same i o hB hi ho) ho⟩
theorem KUp.put {B b : Nat} (W : World) (l : Nat) (o o' : Obj) (hl : b ≤ l) (h : W.heap[l]? = some o) (hc : o.isCells = false) (hw : o.isWalk = false) : KUp B W (W.putObj l o') :=
  ⟨by simp, fun k o'' _ hk ho => by
    by_cases e : k = l
    · subst e; rw [h] at hk; cases hk; rw [hc] at ho; cases ho
    · exact (World.putObj_heap_other e).trans hk⟩
theorem Blk.up {B b : Nat} {vs : List Value} {t : TypeId} {W W' : World} (h : Blk W b vs t) (hu : KUp B W W') (hb : B ≤ b) : Blk W' b vs t := hu.same b _ hb h rfl
theorem grown_of_below {W W' : World} (h : Below W.heap.size W W') : W.grownBy W' none := ⟨h.os, h.tape, h.output, h.size, fun k hk _ => h.block k hk⟩

/-- What the iterator has around it. -/
structure It (s : ByteArray) (p : List Int) (n bn bt bb g c1 c2 : Nat) (W : World) : Prop where
  num : Blk W bn [.int .i64 n] 3
  kept : KeptAt bt bb g (fun r y => wordN s p ((65536 * r + y : Nat) : Int)) (2 ^ Pm.lg n) (4 * 2 ^ Pm.lg n) W
  size : Blk W c1 [.int .i64 ((2 ^ Pm.lg n : Nat) : Int)] 3
  fn : Blk W c2 [.func (.func 56) #[] #[.pointer (some ⟨bt, 0, none⟩), .pointer (some ⟨bb, 0, none⟩)]] 45
theorem It.below {s : ByteArray} {p : List Int} {n bn bt bb g c1 c2 : Nat} {W W' : World} (h : It s p n bn bt bb g c1 c2 W) (hb : Below W.heap.size W W') : It s p n bn bt bb g c1 c2 W' :=
  ⟨h.num.below hb h.num.lt, h.kept.below hb, h.size.below hb h.size.lt, h.fn.below hb h.fn.lt⟩
theorem It.up {s : ByteArray} {p : List Int} {n bn bt bb g c1 c2 B : Nat} {W W' : World} (h : It s p n bn bt bb g c1 c2 W) (hu : KUp B W W') (h1 : B ≤ bn) (h2 : B ≤ bt) (h3 : B ≤ bb) (h4 : B ≤ g) (h5 : B ≤ c1) (h6 : B ≤ c2) : It s p n bn bt bb g c1 c2 W' :=
  ⟨h.num.up hu h1, ⟨h.kept.tv.up hu h2, h.kept.bv.up hu h3, h.kept.row.1, h.kept.row.2.up hu h4⟩, h.size.up hu h5, h.fn.up hu h6⟩
theorem It.place {s : ByteArray} {p : List Int} {n bn bt bb g c1 c2 : Nat} {W : World} (h : It s p n bn bt bb g c1 c2 W) (hn : n ≤ 65536) (x : Nat) (hx : x < n) :
    Calls Tryd.prog 26 #[.func (.func 40) #[] #[.pointer (some ⟨c1, 0, none⟩), .pointer (some ⟨c2, 0, none⟩)], .int .i64 n, .int .i64 x] W fun e w' => e = .returned (.int .i64 (placeS s p n x : Int)) ∧ Below W.heap.size W w' :=
  walk_place s p _ _ _ n x c1 c2 W (fun _ _ => rfl) ⟨h.size, h.fn, fun r y hr hy => ⟨wordN s p ((65536 * r + y : Nat) : Int), wordN_lt _ _ _, rfl, fun V hV => kept1_any bt bb g (fun r y => wordN s p ((65536 * r + y : Nat) : Int)) (2 ^ Pm.lg n) r y V (h.kept.below hV) (side_le n) hr hy⟩⟩ hn hx

set_option maxHeartbeats 4000000 in
theorem places1_stops (m : Nat) (hm : 3 ≤ m) (s : ByteArray) (A : Option Addr) (cap : Nat) (p : List Int) (n bn bs bp base : Nat) (w : World) (hS : Seeded s A cap p bs bp w) (hn : Blk w bn [.int .i64 n] 3) (hN : n ≤ 65536) (hb : base ≤ bn) (hw : base ≤ w.heap.size) :
    SeqStopsK Fence.wide m Tryd.prog 46 #[.pointer (some ⟨bn, 0, none⟩), .pointer (some ⟨bs, 0, none⟩), .pointer (some ⟨bp, 0, none⟩)] (fun x : Int => #[.int .i64 x]) (KUp base) (fun xs => xs = allS s p n) (fun _ => True) n w := by
  intro l J Jx W hW hJ hJx hY h0
  have hS2 := hS.below hW
  have hn2 := hn.below hW hn.lt
  have hWs := hW.size
  have cn := hn2.cell 0 _ rfl
  have cs := hS2.seed.cell 0 _ rfl
  have cp := hS2.path.cell 0 _ rfl
  obtain ⟨R, hR⟩ : ∃ R, R = 2 ^ Pm.lg n := ⟨_, rfl⟩
  have cB := base_any (n : Int) W (by omega)
  simp only [Int.toNat_natCast] at cB
  rw [← hR] at cB
  obtain ⟨N, hNp⟩ : ∃ N, N = p.length := ⟨_, rfl⟩
  have cD := drawn_any s A cap p W hS2.src
  rw [← hNp] at cD cp
  have CB := Lib.hid cB
  have CD := Lib.hid cD
  have HH := Lib.hid (And.intro hJ (And.intro hJx (And.intro hY h0)))
  have HE := Lib.hid (And.intro hR hNp)
  clear cB cD hJ hJx hY h0 hS hS2 hn hW hR hNp
  refine callsIn_of_wp Tryd.func46 rfl trivial ?_ rfl
  simp only [Tryd.ntmps46, List.size_toArray, List.length_cons, List.length_nil, Nat.reduceAdd, Nat.reduceSub, Array.replicate_succ, Array.replicate_zero, List.push_toArray, List.append_toArray, List.nil_append, List.cons_append]
  gi_wp2
  refine ⟨trivial, fun _ => by omega, (callsIn_wide.2 CB.out).mono ?_⟩
  rintro e w1 ⟨rfl, rfl⟩
  gi_wp2
  refine ⟨trivial, fun _ => by omega, (callsIn_wide.2 CD.out).mono ?_⟩
  rintro e w2 ⟨b1, b2, rfl, hS2, hb2, -, -⟩
  have cK := kept_any 41 (.pointer (some ⟨b1, 0, none⟩)) (.pointer (some ⟨b2, 0, none⟩)) (fun r y => wordN s p ((65536 * r + y : Nat) : Int)) R w2 (fun _ _ => rfl) (by rw [HE.out.1]; exact Nat.two_pow_pos _) (by rw [HE.out.1]; exact side_le _)
    (fun V r y hV hr hy => drawn1_any s A cap p b1 b2 r y V (hS2.below hV) hr (by have h := side_le n; rw [← HE.out.1] at h; omega))
  have CK := Lib.hid cK
  have hn3 := hn2.below hb2 hn2.lt
  have hW2 := hb2.size
  have HB2 := Lib.hid hb2
  clear cK hS2 cp cs CB CD cn hn2 hb2
  gi_wp2
  refine ⟨trivial, fun _ => by omega, (callsIn_wide.2 CK.out).mono ?_⟩
  rintro e w3 ⟨bt, bb, g, rfl, hK3, hb3, h1, h2, h3⟩
  have cF := forward_any 56 (.pointer (some ⟨bt, 0, none⟩)) (.pointer (some ⟨bb, 0, none⟩)) (fw s p R) R w3 (fun r y hr hy => ⟨wordN s p ((65536 * r + y : Nat) : Int), wordN_lt _ _ _, rfl, fun V hV => kept1_any bt bb g (fun r y => wordN s p ((65536 * r + y : Nat) : Int)) R r y V (hK3.below hV) (by rw [HE.out.1]; exact side_le _) hr hy⟩)
  have CF := Lib.hid cF
  have hn4 := hn3.below hb3 hn3.lt
  have hW3 := hb3.size
  have HB3 := Lib.hid (HB2.out.trans (hb3.mono HB2.out.size))
  have HK3 := Lib.hid hK3
  clear cF CK hK3 hn3 hb3
  gi_wp2
  refine ⟨trivial, fun _ => by omega, (callsIn_wide.2 CF.out).mono ?_⟩
  rintro e w4 ⟨c1, c2, rfl, hM, hb4, h4, h5⟩
  have hIt : It s p n bn bt bb g c1 c2 w4 := by
    have h6 := HK3.out.below hb4
    have h7 := hM.size
    rw [HE.out.1] at h6 h7
    exact ⟨hn4.below hb4 hn4.lt, h6, h7, hM.fn⟩
  have HB4 := Lib.hid (HB3.out.trans (hb4.mono HB3.out.size))
  have hJ4 : J [] w4 := HH.out.1 _ _ _ none HH.out.2.2.2 (grown_of_below HB4.out) (fun r e => by cases e)
  have cn := hIt.num.cell 0 _ rfl
  have hB : base ≤ bn ∧ base ≤ bt ∧ base ≤ bb ∧ base ≤ g ∧ base ≤ c1 ∧ base ≤ c2 := ⟨hb, by omega, by omega, by omega, by omega, by omega⟩
  have HI := Lib.hid (And.intro hIt (And.intro hJ4 hB))
  clear CF hM hb4 hIt hJ4 hB HK3 hn4 h1 h2 h3 h4 h5 HB2 HB3
  gi_wp2
  gi_loopw [18, 7] (fun i u wr => ∃ t : Nat, t ≤ n ∧ i = .int .i64 t ∧ It s p n bn bt bb g c1 c2 wr ∧ J ((allS s p n).take t) wr) (fun i _ _ => n - (intOf i).toNat)
  case atStart => exact ⟨0, Nat.zero_le _, rfl, HI.out.1, HI.out.2.1⟩
  case round =>
    obtain ⟨t, ht, rfl, hit, hj⟩ := hrel
    clear cn
    have cn := hit.num.cell 0 _ rfl
    by_cases hlt : t < n
    · have hti : (t : Int) < n := by omega
      have cW := hit.place hN t hlt
      have hsu := allS_succ s p n t hlt
      obtain ⟨x, hx⟩ : ∃ x, x = placeS s p n t := ⟨_, rfl⟩
      rw [← hx] at cW hsu
      have CW := Lib.hid cW
      have HU := Lib.hid (And.intro hit (And.intro hj hsu))
      clear hit hj hsu cW hx
      gi_wp2
      refine ⟨trivial, fun _ => by omega, (callsIn_wide.2 CW.out).mono ?_⟩
      rintro e w5 ⟨rfl, hb5⟩
      have hj5 : J ((allS s p n).take t) w5 := HH.out.1 _ _ _ none HU.out.2.1 (grown_of_below hb5) (fun r e => by cases e)
      obtain ⟨fn, tmps, assign, body, hy, hR⟩ := HH.out.2.2.1 _ (x : Int) w5 hj5 (by rw [List.length_take, allS_len]; omega)
      rw [← HU.out.2.2] at hR
      have hit5 := HU.out.1.below hb5
      clear cn
      have HU5 := Lib.hid hit5
      clear hit5 hj5 hb5
      gi_wp2
      refine ⟨fun _ => by omega, hR.mono ?_⟩
      rintro e W3 (⟨rfl, hJ3, hK3⟩ | ⟨rfl, hX3⟩)
      · have hit3 := HU5.out.up hK3 HI.out.2.2.1 HI.out.2.2.2.1 HI.out.2.2.2.2.1 HI.out.2.2.2.2.2.1 HI.out.2.2.2.2.2.2.1 HI.out.2.2.2.2.2.2.2
        have HU3 := Lib.hid (And.intro hit3 hJ3)
        clear hit3 hJ3 hK3
        gi_wp2
        go_roundw
        case rel => exact ⟨t + 1, by omega, by go_num, HU3.out.1, HU3.out.2⟩
        case measure => simp [intOf]; omega
      · gi_wp2
        refine bodyPost_ret (results_none rfl _ _ _) rfl ?_
        exact ⟨⟨_, rfl⟩, .inr ⟨_, trivial, hX3⟩⟩
    · obtain rfl : t = n := by omega
      have HJ := Lib.hid hj
      clear hit hj
      gi_wp2
      go_end0
      exact ⟨⟨_, rfl⟩, .inl ⟨_, rfl, by have h := HJ.out; rwa [List.take_of_length_le (by rw [allS_len]; omega)] at h⟩⟩
end Go.Proofs.YtcmepgjbplpnbaaDoor
end

