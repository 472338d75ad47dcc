import Derived.Stop.RegionWithIn
import Derived.Test.YtjdidnonfmdfmaaDoorJSplitPc

section
/- split: the iterator; All of a split whose total lies at an end. -/


namespace Go.Proofs.YtjdidnonfmdfmaaDoor
open Go.RowKit Go.Shelf
set_option linter.unusedVariables false
set_option maxRecDepth 100000
attribute [local go_sem] Oper.semAt_some

set_option maxHeartbeats 4000000 in
theorem parts1_stops (m : Nat) (s : ByteArray) (A : Option Addr) (cap : Nat) (P : List Int) (n : Nat) (T lo hi v : Int) (X B bs : Nat) (w : World) (hB : Bounds s cap P lo hi) (hp : PathAt s A cap P X w) (hs : Blk w bs (Sc s A P.length cap T n lo hi) 28)
    (hXB : X ≤ B) (hBw : B ≤ w.heap.size) (hn : n ≤ 65536) (hT : T = n * v) (hv : n = 1 ∨ v = lo ∨ v = hi) (hv0 : -1048576 ≤ v) (hv1 : v ≤ 1048576) :
    SeqStopsK Fence.wide m Tryd.prog 38 #[.pointer (some ⟨bs, 0, none⟩)] (fun x : Int => #[.int .i64 x]) (KAp X B) (fun xs => xs = List.replicate n v) (fun _ => True) n w := by
  intro l J Jx W hW hJ hJx hY h0
  have hp2 := hp.below hW
  have hs2 := hs.below hW hs.lt
  have hWs := hW.size
  have c0 := hs2.cell 0 _ rfl
  have c1 := hs2.cell 1 _ rfl
  have c2 := hs2.cell 2 _ rfl
  have c3 := hs2.cell 3 _ rfl
  have c4 := hs2.cell 4 _ rfl
  have c5 := hs2.cell 5 _ rfl
  have cP : ∀ V, 1 ≤ n → Below W.heap.size W V → CallsIn Fence.wide (m - 1) Tryd.prog 39 #[spl s A P.length cap T n lo hi, nd 0 n 0 T, .func (.yield l) #[] #[]] V fun e W' =>
      ∃ z, e = .returned (.bool z) ∧ (J (List.replicate n v) W' ∨ ∃ q, Jx q W') := fun V h1 hV =>
    (partsOf_in s A cap P T n lo hi v X B l n J Jx hB (fun pre W W' hj hb => hJ _ _ _ none hj (grown_below hb) (fun r e => by cases e)) (fun m pre x W hj hl => yield_anyDepth rfl m (hY pre x W hj hl)) hv0 hv1 n h1 (m - 1) 0 0 T [] V
      (by have := hV.size; omega) hXB hT hv (by omega) (by omega) (by omega) (by omega) (hp2.below hV) (hJ _ _ _ none h0 (grown_below hV) (fun r e => by cases e)) (by simp)).mono fun e W' h => by
        rcases h with ⟨h1, h2, -⟩ | ⟨h1, h2⟩
        · exact ⟨_, h1, .inl (by simpa using h2)⟩
        · exact ⟨_, h1, .inr h2⟩
  have cR := fun V => root_any s A P.length cap T n lo hi V
  obtain ⟨L, hL⟩ : ∃ L, L = P.length := ⟨_, rfl⟩
  rw [← hL] at c1 hs2
  simp only [← hL, spl_def, nd_def] at cP cR
  have CP := Lib.hid cP
  have CR := Lib.hid cR
  have H0 := Lib.hid h0
  have HS := Lib.hid hs2
  clear cP cR hL hJ hJx hY h0 hp hs hp2 hs2 hW hT hv hWs hB hXB hBw
  refine callsIn_of_wp Tryd.func38 rfl trivial ?_ rfl
  simp only [Tryd.ntmps38, List.size_toArray, List.length_cons, List.length_nil, Nat.reduceAdd, Nat.reduceSub, Array.replicate_succ, Array.replicate_zero, List.push_toArray, List.append_toArray, List.nil_append, List.cons_append]
  by_cases h1 : n = 0
  · subst h1
    gi_wp2
    go_end0
    exact ⟨⟨_, rfl⟩, .inl ⟨[], rfl, H0.out⟩⟩
  · have h2 : (0 : Int) < n := by omega
    gi_wp2
    have hn1 : 1 ≤ n := by omega
    have hdd : ∀ k : Nat, (Fence.wide.depth.isSome = true → 1 ≤ k) := fun k h => (by cases h)
    gi_region_with (first
      | ((refine ⟨trivial, hdd _, ?_⟩); gi_at_call 40; refine (callsIn_wide.2 (CR.out _)).mono ?_; rintro e w1 ⟨rfl, hb⟩; have hbw : Below W.heap.size W w1 := (Below.refl W.heap.size W).drew.trans hb; have g := HS.out.drew.below hb HS.out.drew.lt; have d0 := g.cell 0 _ rfl; have d1 := g.cell 1 _ rfl; have d2 := g.cell 2 _ rfl; have d3 := g.cell 3 _ rfl; have d4 := g.cell 4 _ rfl; have d5 := g.cell 5 _ rfl; clear g)
      | ((refine ⟨trivial, hdd _, ?_⟩); gi_at_call 39; refine (CP.out w1 hn1 hbw).mono ?_; rintro e w' ⟨z, rfl, hj⟩))
    all_goals (gi_wp2; go_end0; refine ⟨⟨_, rfl⟩, ?_⟩; rcases hj with hj | ⟨q, hq⟩; exact .inl ⟨_, rfl, hj⟩; exact .inr ⟨_, trivial, hq⟩)

end Go.Proofs.YtjdidnonfmdfmaaDoor
end

