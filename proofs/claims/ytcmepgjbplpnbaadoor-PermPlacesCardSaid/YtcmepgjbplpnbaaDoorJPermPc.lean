import Derived.Test.YtcmepgjbplpnbaaDoorJPermPb

section
/- perm: the makers of closures; At and Back. -/

namespace Go.Proofs.YtcmepgjbplpnbaaDoor
open Go.RowKit
set_option linter.unusedVariables false
set_option maxRecDepth 100000

def PTab (w : World) : Prop := HTab w
theorem PTab.below {w w' : World} (h : PTab w) (hb : Below w.heap.size w w') : PTab w' := HTab.below h hb (Nat.le_refl _)
theorem PTab.hash {w : World} (h : PTab w) : HTab w := h
/-- A seed and a path, as they lie. -/
structure PSrc (s : ByteArray) (A : Option Addr) (cap : Nat) (p : List Int) (w : World) : Prop where
  rd : Rd w w.heap.size A (p.map iv)
  len : p.length ≤ cap
  cap : cap ≤ maxLen
  seed : s.size ≤ 1000
  few : p.length ≤ 100
  nums : ∀ n ∈ p, M.I64 n
  tab : PTab w
theorem PSrc.below {s : ByteArray} {A : Option Addr} {cap : Nat} {p : List Int} {w w' : World} (h : PSrc s A cap p w) (hb : Below w.heap.size w w') : PSrc s A cap p w' :=
  ⟨(h.rd.below hb).more hb.size, h.len, h.cap, h.seed, h.few, h.nums, h.tab.below hb⟩
theorem PSrc.src {s : ByteArray} {A : Option Addr} {cap : Nat} {p : List Int} {w : World} (h : PSrc s A cap p w) : Src s A cap p w := ⟨h.rd, h.len, h.cap, h.seed, h.few, h.nums, h.tab.hash⟩
theorem PSrc.ref {s : ByteArray} {A : Option Addr} {cap : Nat} {p : List Int} {w : World} (h : PSrc s A cap p w) (hR : RTab w) : SrcR s A cap p w := ⟨h.src, hR⟩

/-- Two variables of drawn: the seed and the path. -/
structure Seeded (s : ByteArray) (A : Option Addr) (cap : Nat) (p : List Int) (b1 b2 : Nat) (w : World) : Prop where
  seed : Blk w b1 [.string s] 9
  path : Blk w b2 [.slice A p.length cap] 22
  src : PSrc s A cap p w
theorem Seeded.below {s : ByteArray} {A : Option Addr} {cap : Nat} {p : List Int} {b1 b2 : Nat} {w w' : World} (h : Seeded s A cap p b1 b2 w) (hb : Below w.heap.size w w') : Seeded s A cap p b1 b2 w' :=
  ⟨h.seed.below hb h.seed.lt, h.path.below hb h.path.lt, h.src.below hb⟩

theorem two_boxes (w : World) (v1 v2 : Value) (t1 t2 : TypeId) : Blk ((w.alloc (.cells #[v1] t1)).alloc (.cells #[v2] t2)) w.heap.size [v1] t1 ∧ Blk ((w.alloc (.cells #[v1] t1)).alloc (.cells #[v2] t2)) (w.heap.size + 1) [v2] t2 ∧
    Below w.heap.size w ((w.alloc (.cells #[v1] t1)).alloc (.cells #[v2] t2)) := by
  have k0 := Blk.new w [v1] t1
  have k1 := Blk.new (w.alloc (.cells #[v1] t1)) [v2] t2
  simp only [World.size_alloc] at k1
  exact ⟨k0.alloc _, k1, ((Below.refl w.heap.size w).alloc (Nat.le_refl _) _).alloc (by simp) _⟩

set_option maxHeartbeats 2000000 in
theorem drawn1_any (s : ByteArray) (A : Option Addr) (cap : Nat) (p : List Int) (b1 b2 r y : Nat) (w : World) (h : Seeded s A cap p b1 b2 w) (hr : r < 4) (hy : y < 65536) :
    Calls Tryd.prog 41 #[.int .i64 r, .int .i64 y, .pointer (some ⟨b1, 0, none⟩), .pointer (some ⟨b2, 0, none⟩)] w fun e w' => e = .returned (.int .i64 (wordN s p ((65536 * r + y : Nat) : Int) : Int)) ∧ Below w.heap.size w w' := by
  have cW := h.src.src.word (65536 * (r : Int) + (y : Int)) (by constructor <;> omega)
  have c1 := h.seed.cell 0 _ rfl
  have c2 := h.path.cell 0 _ rfl
  rw [show ((65536 * r + y : Nat) : Int) = 65536 * (r : Int) + (y : Int) by omega]
  obtain ⟨z, hz⟩ : ∃ z, z = wordN s p (65536 * (r : Int) + (y : Int)) := ⟨_, rfl⟩
  rw [← hz] at cW ⊢
  obtain ⟨N, hN⟩ : ∃ N, N = p.length := ⟨_, rfl⟩
  rw [← hN] at cW c2
  have CW := Lib.hid cW
  clear cW hz hN h
  go_enter Tryd.func41, Tryd.ntmps41
  go_wp2_with fail
  refine CW.out.mono ?_
  rintro e w' ⟨rfl, hb⟩
  go_wp2_with fail
  go_ret
  exact ⟨rfl, hb⟩
theorem drawn_words (s : ByteArray) (A : Option Addr) (cap : Nat) (p : List Int) (b1 b2 B : Nat) (w : World) (h : Seeded s A cap p b1 b2 w) (hB : B ≤ 256) :
    Words 41 (.pointer (some ⟨b1, 0, none⟩)) (.pointer (some ⟨b2, 0, none⟩)) (fw s p B) B w := fun r y hr hy =>
  ⟨wordN s p ((65536 * r + y : Nat) : Int), wordN_lt _ _ _, rfl, fun W hW => drawn1_any s A cap p b1 b2 r y W (h.below hW) hr (by omega)⟩

set_option maxHeartbeats 1000000 in
theorem drawn_any (s : ByteArray) (A : Option Addr) (cap : Nat) (p : List Int) (w : World) (h : PSrc s A cap p w) :
    Calls Tryd.prog 29 #[.string s, .slice A p.length cap] w fun e w' =>
      ∃ b1 b2, e = .returned (.func (.func 41) #[] #[.pointer (some ⟨b1, 0, none⟩), .pointer (some ⟨b2, 0, none⟩)]) ∧ Seeded s A cap p b1 b2 w' ∧ Below w.heap.size w w' ∧ w.heap.size ≤ b1 ∧ w.heap.size ≤ b2 := by
  have hmf : ∀ (fn : Fn) (first cap : Array Value) (w : World), (Instr.makeFunc fn first cap).run Tryd.prog w = .ok (.func fn first cap) w := fun _ _ _ _ => rfl
  have hk := two_boxes w (.string s) (.slice A p.length cap) 9 22
  have HK := Lib.hid (And.intro hk.1 (And.intro hk.2.1 (And.intro hk.2.2 h)))
  obtain ⟨N, hN⟩ : ∃ N, N = p.length := ⟨_, rfl⟩
  have HN := Lib.hid hN
  rw [← hN]
  clear hk h hN
  go_enter Tryd.func29, Tryd.ntmps29
  go_wp2_with fail
  go_ret
  refine ⟨w.heap.size, w.heap.size + 1, rfl, ?_, ?_, by omega, by omega⟩
  · rw [HN.out]
    exact ⟨HK.out.1, HK.out.2.1, HK.out.2.2.2.below HK.out.2.2.1⟩
  · rw [HN.out]
    exact HK.out.2.2.1

set_option maxHeartbeats 1000000 in
theorem forward_any (H : FuncId) (d1 d2 : Value) (F : Nat → Nat → Nat) (B : Nat) (w : World) (h : Words H d1 d2 F B w) :
    Calls Tryd.prog 27 #[.int .i64 B, .func (.func H) #[] #[d1, d2]] w fun e w' =>
      ∃ b1 b2, e = .returned (.func (.func 40) #[] #[.pointer (some ⟨b1, 0, none⟩), .pointer (some ⟨b2, 0, none⟩)]) ∧ Mixer H d1 d2 F B b1 b2 w' ∧ Below w.heap.size w w' ∧ w.heap.size ≤ b1 ∧ w.heap.size ≤ b2 := by
  have hmf : ∀ (fn : Fn) (first cap : Array Value) (w : World), (Instr.makeFunc fn first cap).run Tryd.prog w = .ok (.func fn first cap) w := fun _ _ _ _ => rfl
  have hk := two_boxes w (.int .i64 B) (.func (.func H) #[] #[d1, d2]) 3 45
  have HK := Lib.hid (And.intro hk.1 (And.intro hk.2.1 (And.intro hk.2.2 h)))
  clear hk h
  go_enter Tryd.func27, Tryd.ntmps27
  go_wp2_with fail
  go_ret
  exact ⟨w.heap.size, w.heap.size + 1, rfl, ⟨HK.out.1, HK.out.2.1, HK.out.2.2.2.below HK.out.2.2.1⟩, HK.out.2.2.1, by omega, by omega⟩
set_option maxHeartbeats 1000000 in
theorem backward_any (H : FuncId) (d1 d2 : Value) (F : Nat → Nat → Nat) (B : Nat) (w : World) (h : Words H d1 d2 F B w) :
    Calls Tryd.prog 32 #[.int .i64 B, .func (.func H) #[] #[d1, d2]] w fun e w' =>
      ∃ b1 b2, e = .returned (.func (.func 43) #[] #[.pointer (some ⟨b1, 0, none⟩), .pointer (some ⟨b2, 0, none⟩)]) ∧ Mixer H d1 d2 F B b1 b2 w' ∧ Below w.heap.size w w' ∧ w.heap.size ≤ b1 ∧ w.heap.size ≤ b2 := by
  have hmf : ∀ (fn : Fn) (first cap : Array Value) (w : World), (Instr.makeFunc fn first cap).run Tryd.prog w = .ok (.func fn first cap) w := fun _ _ _ _ => rfl
  have hk := two_boxes w (.int .i64 B) (.func (.func H) #[] #[d1, d2]) 3 45
  have HK := Lib.hid (And.intro hk.1 (And.intro hk.2.1 (And.intro hk.2.2 h)))
  clear hk h
  go_enter Tryd.func32, Tryd.ntmps32
  go_wp2_with fail
  go_ret
  exact ⟨w.heap.size, w.heap.size + 1, rfl, ⟨HK.out.1, HK.out.2.1, HK.out.2.2.2.below HK.out.2.2.1⟩, HK.out.2.2.1, by omega, by omega⟩

theorem mixer_steps (s : ByteArray) (p : List Int) (H : FuncId) (d1 d2 : Value) (n b1 b2 : Nat) (w : World) (hcf : ∀ (args : Array Value) (W : World), (callFunc H args).run Tryd.prog W = .ok (.enter H args) W)
    (hM : Mixer H d1 d2 (fw s p (2 ^ Pm.lg n)) (2 ^ Pm.lg n) b1 b2 w) : Steps 40 (.pointer (some ⟨b1, 0, none⟩)) (.pointer (some ⟨b2, 0, none⟩)) (mixS s p n) (2 ^ Pm.lg n * 2 ^ Pm.lg n) w :=
  fun W z hb hz => forward1_any H d1 d2 _ (Pm.lg n) z b1 b2 W hcf (Pm.lg_le n) (fw_lt s p _) (hM.below hb) hz
theorem unmixer_steps (s : ByteArray) (p : List Int) (H : FuncId) (d1 d2 : Value) (n b1 b2 : Nat) (w : World) (hcf : ∀ (args : Array Value) (W : World), (callFunc H args).run Tryd.prog W = .ok (.enter H args) W)
    (hM : Mixer H d1 d2 (fw s p (2 ^ Pm.lg n)) (2 ^ Pm.lg n) b1 b2 w) : Steps 43 (.pointer (some ⟨b1, 0, none⟩)) (.pointer (some ⟨b2, 0, none⟩)) (unmixS s p n) (2 ^ Pm.lg n * 2 ^ Pm.lg n) w :=
  fun W z hb hz => backward1_any H d1 d2 _ (Pm.lg n) z b1 b2 W hcf (Pm.lg_le n) (fw_lt s p _) (hM.below hb) hz
/-- The walk to the place, by whatever words are those of the seed. -/
theorem walk_place (s : ByteArray) (p : List Int) (H : FuncId) (d1 d2 : Value) (n x b1 b2 : Nat) (w : World) (hcf : ∀ (args : Array Value) (W : World), (callFunc H args).run Tryd.prog W = .ok (.enter H args) W)
    (hM : Mixer H d1 d2 (fw s p (2 ^ Pm.lg n)) (2 ^ Pm.lg n) b1 b2 w) (hn : n ≤ 65536) (hx : x < n) :
    Calls Tryd.prog 26 #[.func (.func 40) #[] #[.pointer (some ⟨b1, 0, none⟩), .pointer (some ⟨b2, 0, none⟩)], .int .i64 n, .int .i64 x] w fun e w' => e = .returned (.int .i64 (placeS s p n x : Int)) ∧ Below w.heap.size w w' := by
  obtain ⟨K, hK, hpl⟩ := placeS_hit s p hn hx
  rw [hpl]
  exact walk_any _ _ _ _ _ n x K w (fun _ _ => rfl) (mixer_steps s p H d1 d2 n b1 b2 w hcf hM) (fun z hz => Pm.mix_lt (fw_lt s p _) hz) (side_sq n) hn (Nat.lt_of_lt_of_le hx (Pm.lg_cap hn)) hK
theorem walk_back (s : ByteArray) (p : List Int) (H : FuncId) (d1 d2 : Value) (n x b1 b2 : Nat) (w : World) (hcf : ∀ (args : Array Value) (W : World), (callFunc H args).run Tryd.prog W = .ok (.enter H args) W)
    (hM : Mixer H d1 d2 (fw s p (2 ^ Pm.lg n)) (2 ^ Pm.lg n) b1 b2 w) (hn : n ≤ 65536) (hx : x < n) :
    Calls Tryd.prog 26 #[.func (.func 43) #[] #[.pointer (some ⟨b1, 0, none⟩), .pointer (some ⟨b2, 0, none⟩)], .int .i64 n, .int .i64 x] w fun e w' => e = .returned (.int .i64 (backS s p n x : Int)) ∧ Below w.heap.size w w' := by
  obtain ⟨K, hK, hpl⟩ := backS_hit s p hn hx
  rw [hpl]
  exact walk_any _ _ _ _ _ n x K w (fun _ _ => rfl) (unmixer_steps s p H d1 d2 n b1 b2 w hcf hM) (fun z hz => Pm.unmix_lt (fw_lt s p _) hz) (side_sq n) hn (Nat.lt_of_lt_of_le hx (Pm.lg_cap hn)) hK
end Go.Proofs.YtcmepgjbplpnbaaDoor
end

