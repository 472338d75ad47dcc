import Derived.Test.YtcmepgjbplpnbaaDoorJPermL0
import Derived.Test.YtcmepgjbplpnbaaDoorJPermRh
import Derived.Test.YtcmepgjbplpnbaaDoorJTake

section
/- The reference's Path and Seed. -/


namespace Go.Proofs.YtcmepgjbplpnbaaDoor
open Go.RowKit
set_option linter.unusedVariables false
set_option maxRecDepth 100000

def pathOf (l : List Int) : List Int := (List.range (atN l 0 5).toNat).map fun i => atN l (1 + i) 40 - 4
theorem pathOf_len (l : List Int) : (pathOf l).length ≤ 4 := by
  have := atN_lt l 0 5 (by decide)
  simp [pathOf]
  omega
theorem pathOf_nums (l : List Int) : ∀ n ∈ pathOf l, M.I64 n := by
  intro n h
  obtain ⟨i, -, rfl⟩ := List.mem_map.1 h
  have := atN_lt l (1 + i) 40 (by decide)
  constructor <;> omega
theorem pathOf_succ (l : List Int) (k : Nat) (h : k < (pathOf l).length) : (pathOf l).take (k + 1) = (pathOf l).take k ++ [atN l (1 + k) 40 - 4] := by
  have h2 : k < (atN l 0 5).toNat := by simpa [pathOf] using h
  have e : (pathOf l)[k]? = some (atN l (1 + k) 40 - 4) := by
    unfold pathOf
    rw [List.getElem?_map, List.getElem?_range h2]
    rfl
  rw [List.take_add_one, e]
  rfl

set_option maxHeartbeats 2000000 in
theorem refPath_any (A : Option Addr) (cap : Nat) (l : List Int) (w : World) (hr : Rd w w.heap.size A (l.map iv)) (hI : ∀ n ∈ l, M.I64 n) (hl : l.length ≤ 9223372036854775807) :
    Calls Tryd.prog 21 #[.slice A l.length cap] w (MakesI (pathOf l) w) := by
  have cA := fun (W : World) (hb : Below w.heap.size w W) (i : Nat) (most : Int) (hm : M.I64 most) => atN_any A cap l i most W ((hr.below hb).more hb.size) hI hm hl
  obtain ⟨c0, hc0⟩ : ∃ c, c = atN l 0 5 := ⟨_, rfl⟩
  have hb0 := atN_lt l 0 5 (by decide)
  have hlen : (pathOf l).length = c0.toNat := by rw [hc0]; simp [pathOf]
  obtain ⟨q, hq⟩ : ∃ q, q = pathOf l := ⟨_, rfl⟩
  have hsu : ∀ k, k < q.length → q.take (k + 1) = q.take k ++ [atN l (1 + k) 40 - 4] := fun k hk => by rw [hq] at hk ⊢; exact pathOf_succ l k hk
  have hq4 : q.length ≤ 4 := by rw [hq]; exact pathOf_len l
  rw [← hq] at hlen ⊢
  rw [← hc0] at hb0
  have cA0 : ∀ (W : World), Below w.heap.size w W → Calls Tryd.prog 36 #[.slice A l.length cap, .int .i64 0, .int .i64 5] W fun e w' => e = .returned (.int .i64 c0) ∧ w' = W := fun W hb => by
    rw [hc0]; exact cA W hb 0 5 (by constructor <;> decide)
  have cA1 : ∀ (W : World) (i : Nat), Below w.heap.size w W → Calls Tryd.prog 36 #[.slice A l.length cap, .int .i64 (1 + (i : Int)), .int .i64 40] W fun e w' => e = .returned (.int .i64 (atN l (1 + i) 40)) ∧ w' = W := fun W i hb => by
    have := cA W hb (1 + i) 40 (by constructor <;> decide)
    rw [show ((1 + i : Nat) : Int) = 1 + (i : Int) by omega] at this
    exact this
  have hat : ∀ i, 0 ≤ atN l (1 + i) 40 ∧ atN l (1 + i) 40 < 40 := fun i => atN_lt l (1 + i) 40 (by decide)
  obtain ⟨f, hf⟩ : ∃ f : Nat → Int, f = fun i => atN l (1 + i) 40 := ⟨_, rfl⟩
  have hsu2 : ∀ k, k < q.length → q.take (k + 1) = q.take k ++ [f k - 4] := by rw [hf]; exact hsu
  have cA2 : ∀ (W : World) (i : Nat), Below w.heap.size w W → Calls Tryd.prog 36 #[.slice A l.length cap, .int .i64 (1 + (i : Int)), .int .i64 40] W fun e w' => e = .returned (.int .i64 (f i)) ∧ w' = W := by rw [hf]; exact cA1
  have hat2 : ∀ i, 0 ≤ f i ∧ f i < 40 := by rw [hf]; exact hat
  obtain ⟨N, hN⟩ : ∃ N, N = l.length := ⟨_, rfl⟩
  rw [← hN] at cA0 cA2 ⊢
  have C0 := Lib.hid cA0
  have C1 := Lib.hid cA2
  have HQ := Lib.hid (And.intro hsu2 (And.intro hat2 hlen))
  clear cA hc0 hsu hq cA0 cA1 cA2 hat hf hsu2 hat2 hN hr hI hl hlen
  go_enter Tryd.func21, Tryd.ntmps21
  go_wp2_with fail
  go_loopw [3, 4] (fun v i wr => ∃ k : Nat, k ≤ q.length ∧ i = .int .i64 k ∧ wr.ownsRow w.heap.size 3 1 v (q.take k).length ((q.take k).map iv) ∧ Below w.heap.size w wr) (fun _ i _ => q.length - (intOf i).toNat)
  case atStart => exact ⟨0, Nat.zero_le _, rfl, World.ownsRow_nil _ _ _ _, Below.refl _ _⟩
  case round =>
    obtain ⟨k, hk, rfl, hown, hb⟩ := hrel
    have c0w := C0.out wr hb
    have K0 := Lib.hid c0w
    have c1w := C1.out wr k hb
    have hf := HQ.out.2.1 k
    have hqc := HQ.out.2.2
    by_cases hlt : k < q.length
    · have hs := HQ.out.1 k hlt
      obtain ⟨x, hx⟩ : ∃ x, x = f k := ⟨_, rfl⟩
      rw [← hx] at c1w hs hf
      have K1 := Lib.hid c1w
      have HS := Lib.hid hs
      obtain ⟨T, hT⟩ : ∃ T, T = q.take k := ⟨_, rfl⟩
      have hTl : T.length ≤ 4 := by rw [hT, List.length_take]; omega
      rw [← hT] at hs hown
      have HS2 := Lib.hid hs
      have hkc : (k : Int) < c0 := by omega
      have hB := hb.size
      clear c0w c1w hx hs hT hqc
      go_wp2_with fail
      refine K0.out.mono ?_
      rintro e w2 ⟨rfl, rfl⟩
      go_wp2_with fail
      refine K1.out.mono ?_
      rintro e w3 ⟨rfl, rfl⟩
      go_wp2_with (at_builtin; refine wpList_append_ownI _ rfl (.tmp 11) (.tmp 17) rfl w.heap.size _ T [x - 4] (some ⟨w3.heap.size, 0, none⟩) 1 rfl rfl (hown.alloc _) (rd_new w3 [iv (x - 4)] 3) (by simp; omega) (by simp; omega) ?_; intro v' w5 hown' hgrow)
      go_roundw
      case rel =>
        refine ⟨k + 1, by omega, by go_num, ?_, (hb.alloc hB _).grown hgrow (by simp; omega) (fun j hj => (hown.lt j hj).1)⟩
        rw [HS2.out]
        exact hown'
      case measure => simp [intOf]; omega
    · obtain rfl : k = q.length := by omega
      rw [List.take_length] at hown
      have hkc : ¬ ((q.length : Nat) : Int) < c0 := by omega
      have HO := Lib.hid hown
      clear c0w c1w hown hqc hf
      go_wp2_with fail
      refine K0.out.mono ?_
      rintro e w2 ⟨rfl, rfl⟩
      go_wp2_with fail
      go_ret
      exact ⟨_, rfl, HO.out, hb⟩

theorem refSeed_any (s : ByteArray) (w : World) : Calls Tryd.prog 20 #[.string s] w fun e w' => e = .returned (.string (shortAt 12 s)) ∧ w' = w := by
  have c := fun W => shortAt_any 12 s W (by decide)
  have C := Lib.hid c
  clear c
  go_enter Tryd.func20, Tryd.ntmps20
  go_wp2_with fail
  refine (C.out _).mono ?_
  rintro e w' ⟨rfl, rfl⟩
  go_wp2_with fail
  go_ret
  exact ⟨rfl, rfl⟩
end Go.Proofs.YtcmepgjbplpnbaaDoor
end

section
/- Words for the laws of perm: a seed and a path that are made; what At, Back and All answer there. -/


namespace Go.Proofs.YtcmepgjbplpnbaaDoor
open Go.RowKit
set_option linter.unusedVariables false
set_option maxRecDepth 100000

theorem psrc_of {s : ByteArray} {A : Option Addr} {cap base : Nat} {p : List Int} {w : World} (hown : w.ownsRow base 3 1 (.slice A p.length cap) p.length (p.map iv)) (hs : s.size ≤ 1000) (hp : p.length ≤ 100) (hI : ∀ n ∈ p, M.I64 n) (hT : PTab w) : PSrc s A cap p w := by
  obtain ⟨A', c', e, hr, h1, h2⟩ := own_rd (B := 0) hown
  injection e with e1 _ e3
  subst e1 e3
  exact ⟨hr, h1, h2, hs, hp, hI, hT⟩
theorem psrc_nil {s : ByteArray} {w : World} (hs : s.size ≤ 1000) (hT : PTab w) : PSrc s none 0 [] w := ⟨Rd.nil, by decide, by decide, hs, by decide, (by intro n hn; cases hn), hT⟩
theorem errP_ok {s : ByteArray} {p : List Int} {n i : Int} (hs : s.size ≤ 32) (hp : p.length ≤ 8) (hn : n ≤ 65536) (h0 : 0 ≤ i) (h1 : i < n) : errP s p n i = 0 := by
  unfold errP
  rw [if_neg (by omega), if_neg (by omega)]
theorem errA_ok {s : ByteArray} {p : List Int} {n : Int} (hs : s.size ≤ 32) (hp : p.length ≤ 8) (hn : n ≤ 65536) (h0 : 0 ≤ n) : errA s p n = 0 := by
  unfold errA
  rw [if_neg (by omega), if_neg (by omega)]
section
variable {s : ByteArray} {A : Option Addr} {cap : Nat} {p : List Int} {w : World}
theorem PSrc.at (h : PSrc s A cap p w) (hs : s.size ≤ 32) (hp : p.length ≤ 8) (n x : Nat) (hn : n ≤ 65536) (hx : x < n) :
    Calls Tryd.prog 12 #[.string s, .slice A p.length cap, .int .i64 n, .int .i64 x] w fun e w' => e = .returned (.tuple #[.int .i64 (placeS s p n x : Int), .int .i64 0]) ∧ Below w.heap.size w w' := by
  have c := permAt_any s A cap p n x w h
  have e : errP s p n x = 0 := errP_ok hs hp (by omega) (by omega) (by omega)
  rw [show atP s p n x = (placeS s p n x : Int) by unfold atP; rw [if_pos e]; rfl, e] at c
  exact c
theorem PSrc.back (h : PSrc s A cap p w) (hs : s.size ≤ 32) (hp : p.length ≤ 8) (n x : Nat) (hn : n ≤ 65536) (hx : x < n) :
    Calls Tryd.prog 14 #[.string s, .slice A p.length cap, .int .i64 n, .int .i64 x] w fun e w' => e = .returned (.tuple #[.int .i64 (backS s p n x : Int), .int .i64 0]) ∧ Below w.heap.size w w' := by
  have c := permBack_any s A cap p n x w h
  have e : errP s p n x = 0 := errP_ok hs hp (by omega) (by omega) (by omega)
  rw [show backP s p n x = (backS s p n x : Int) by unfold backP; rw [if_pos e]; rfl, e] at c
  exact c
/-- All: a row of n places, each in its cell. -/
theorem PSrc.all (h : PSrc s A cap p w) (hs : s.size ≤ 32) (hp : p.length ≤ 8) (n : Nat) (hn : n ≤ 65536) :
    Calls Tryd.prog 17 #[.string s, .slice A p.length cap, .int .i64 n] w fun e w' => ∃ A' c, e = .returned (.tuple #[.slice A' n c, .int .i64 0]) ∧
      (0 < n → ∃ b, A' = some ⟨b, 0, none⟩ ∧ w.heap.size ≤ b ∧ b < w'.heap.size ∧ ∀ k : Nat, k < n → w'.cell? ⟨b, k, none⟩ = some (.int .i64 (placeS s p n k : Int))) ∧ n ≤ c ∧ c ≤ maxLen ∧ Below w.heap.size w w' := by
  have c := permAll_any s A cap p n w h
  have e : errA s p n = 0 := errA_ok hs hp (by omega) (by omega)
  have a : allP s p n = allS s p n := by unfold allP; rw [if_pos e]; rfl
  have hat := allS_at s p n
  have hl := allS_len s p n
  rw [e, a] at c
  generalize allS s p n = l at *
  refine c.mono ?_
  rintro e w' ⟨v, rfl, hown, hb⟩
  rw [hl] at hown
  obtain ⟨A', c', rfl, hr, h1, h2⟩ := own_rd (B := 0) hown
  refine ⟨A', c', rfl, fun h0 => ?_, h1, h2, hb⟩
  obtain ⟨g, cap', e, hg1, hg2, hg3, hg4, hcl⟩ := own_form hown h0
  injection e with e1 _ _
  refine ⟨g, e1, hg1, hg2, fun k hk => ?_⟩
  have := hcl k (iv (placeS s p n k : Int)) (by rw [List.getElem?_map, hat k hk]; rfl)
  rw [Addr.add_mid] at this
  simpa [iv] using this
end
end Go.Proofs.YtcmepgjbplpnbaaDoor
end

