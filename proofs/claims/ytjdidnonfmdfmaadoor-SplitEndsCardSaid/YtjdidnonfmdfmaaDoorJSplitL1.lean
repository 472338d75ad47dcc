import Derived.Test.YtjdidnonfmdfmaaDoorJSplitL0
import Derived.Test.YtjdidnonfmdfmaaDoorJWireK1

section
/- The examples of law07, over what split's functions return (SplitEx: to be shown of the landed code). -/


namespace Go.Proofs.YtjdidnonfmdfmaaDoor
open Go.RowKit
set_option linter.unusedVariables false
set_option maxRecDepth 100000

/-- A row of numbers, and no error. -/
def RowR (l : List Int) (w : World) (e : Ending) (w' : World) : Prop :=
  ∃ A c, e = .returned (.tuple #[.slice A l.length c, .int .i64 0]) ∧ Rd w' w'.heap.size A (l.map iv) ∧ l.length ≤ c ∧ c ≤ maxLen ∧ Below w.heap.size w w'
structure SplitEx : Prop where
  e1 : ∀ W, HTab W → Calls Tryd.prog 14 #[spl ⟨#[]⟩ none 0 0 12 3 4 9] W (RowR [4, 4, 4] W)
  e2 : ∀ W, HTab W → Calls Tryd.prog 14 #[spl ⟨#[]⟩ none 0 0 5 1 0 9] W (RowR [5] W)
  e3 : ∀ W, HTab W → Calls Tryd.prog 20 #[spl ⟨#[]⟩ none 0 0 5 1 0 9, .int .i64 1] W fun e w' => e = .returned (.tuple #[.int .i64 5, .int .i64 0]) ∧ Below W.heap.size W w'
  e4 : ∀ W, HTab W → Calls Tryd.prog 22 #[spl ⟨#[]⟩ none 0 0 5 1 0 9, .int .i64 4] W fun e w' => e = .returned (.tuple #[.int .i64 0, .int .i64 4, .int .i64 0]) ∧ Below W.heap.size W w'
  e5 : ∀ W, HTab W → Calls Tryd.prog 18 #[spl ⟨#[115]⟩ none 0 0 11 2 0 6, .int .i64 0] W fun e w' => e = .returned (.tuple #[.int .i64 (5 + coinAt ⟨#[115]⟩ [0, 2]), .int .i64 0]) ∧ Below W.heap.size W w'
  e6 : ∀ W, HTab W → Calls Tryd.prog 12 #[spl ⟨#[]⟩ none 0 0 7 0 0 9] W fun e w' => e = .returned (.int .i64 5) ∧ Below W.heap.size W w'

theorem two_coin (W : World) (hT : HTab W) (g : Nat) (hg : Blk W g [.int .i64 0, .int .i64 2] 3) :
    Calls Tryd.prog 26 #[.string ⟨#[115]⟩, .slice (some ⟨g, 0, none⟩) 2 2, .int .i64 5, .int .i64 6] W fun e w' => e = .returned (.tuple #[.int .i64 (5 + coinAt ⟨#[115]⟩ [0, 2]), .int .i64 0]) ∧ Below W.heap.size W w' :=
  between_two ⟨#[115]⟩ (some ⟨g, 0, none⟩) 2 [0, 2] 5 6 rfl W (fun _ => ⟨g, 0, rfl, hg.lt, fun j u hu => by rw [Nat.zero_add]; exact hg.cell j u hu⟩) (by decide) (by decide) (by decide) (by decide)
    (by intro n hn; simp at hn; rcases hn with rfl | rfl <;> (constructor <;> decide)) hT (by decide) (by decide)

set_option maxHeartbeats 4000000 in
theorem splitLives_any (h : SplitEx) (w : World) (hT : HTab w) : Calls Tryd.prog 24 #[] w (Tells true w) := by
  obtain ⟨e1, e2, e3, e4, e5, e6⟩ := h
  unfold spl at e1 e2 e3 e4 e5 e6
  obtain ⟨c, hc⟩ : ∃ c, c = coinAt ⟨#[115]⟩ [0, 2] := ⟨_, rfl⟩
  have cB := fun W (hW : Below w.heap.size w W) g hg => two_coin W (hT.next hW) g hg
  have hcc := coinAt_in ⟨#[115]⟩ [0, 2]
  rw [← hc] at hcc e5
  simp only [← hc] at cB
  obtain ⟨hc1, hc2⟩ := hcc
  have E1 := Lib.hid (fun W (hW : Below w.heap.size w W) => e1 W (hT.next hW))
  have E2 := Lib.hid (fun W (hW : Below w.heap.size w W) => e2 W (hT.next hW))
  have E3 := Lib.hid (fun W (hW : Below w.heap.size w W) => e3 W (hT.next hW))
  have E4 := Lib.hid (fun W (hW : Below w.heap.size w W) => e4 W (hT.next hW))
  have E5 := Lib.hid (fun W (hW : Below w.heap.size w W) => e5 W (hT.next hW))
  have E6 := Lib.hid (fun W (hW : Below w.heap.size w W) => e6 W (hT.next hW))
  have CB := Lib.hid cB
  clear e1 e2 e3 e4 e5 e6 cB hc hT
  have B0 := Lib.hid (Below.refl w.heap.size w)
  go_enter Tryd.func24, Tryd.ntmps24
  go_wp2_with fail
  refine (E1.out _ B0.out).mono ?_
  rintro e w1 ⟨A1, c1, rfl, hr1, hl1, hm1, hb⟩
  have B1 := Lib.hid (B0.out.trans (hb.mono B0.out.size))
  have R1 := Lib.hid hr1
  clear hb B0 E1 hr1 hl1 hm1
  simp only [List.length_cons, List.length_nil, Nat.zero_add, Nat.reduceAdd]
  go_wp2_with fail
  obtain ⟨WZ, hWZ⟩ : ∃ WZ, WZ = w1.alloc (.cells #[.string ⟨#[]⟩, .slice none 0 0, .int .i64 5, .int .i64 1, .int .i64 0, .int .i64 9] 28) := ⟨_, rfl⟩
  have hz : Blk WZ w1.heap.size [.string ⟨#[]⟩, .slice none 0 0, .int .i64 5, .int .i64 1, .int .i64 0, .int .i64 9] 28 := by rw [hWZ]; exact Blk.new w1 _ _
  have hb : Below w1.heap.size w1 WZ := by rw [hWZ]; exact (Below.refl _ _).alloc (Nat.le_refl _) _
  have B2 := Lib.hid (B1.out.trans (hb.mono B1.out.size))
  have R2 := Lib.hid ((R1.out.below hb).more hb.size)
  have Z2 := Lib.hid hz
  rw [← hWZ]
  clear hWZ B1 R1 hz hb
  refine (E2.out _ B2.out).mono ?_
  rintro e w2 ⟨A2, c2, rfl, hr2, hl2, hm2, hb⟩
  have B3 := Lib.hid (B2.out.trans (hb.mono B2.out.size))
  have R3 := Lib.hid ((R2.out.below hb).more hb.size)
  have S3 := Lib.hid hr2
  have Z3 := Lib.hid (Z2.out.below hb Z2.out.lt)
  clear hb B2 R2 Z2 E2 hr2 hl2 hm2
  simp only [List.length_cons, List.length_nil, Nat.zero_add]
  have z0 := Z3.out.cell 0 _ rfl
  have z1 := Z3.out.cell 1 _ rfl
  have z2 := Z3.out.cell 2 _ rfl
  have z3 := Z3.out.cell 3 _ rfl
  have z4 := Z3.out.cell 4 _ rfl
  have z5 := Z3.out.cell 5 _ rfl
  go_wp2_with fail
  clear z0 z1 z2 z3 z4 z5
  refine (E3.out _ B3.out).mono ?_
  rintro e w3 ⟨rfl, hb⟩
  have B4 := Lib.hid (B3.out.trans (hb.mono B3.out.size))
  have R4 := Lib.hid ((R3.out.below hb).more hb.size)
  have S4 := Lib.hid ((S3.out.below hb).more hb.size)
  have Z4 := Lib.hid (Z3.out.below hb Z3.out.lt)
  clear hb B3 R3 S3 Z3 E3
  have z0 := Z4.out.cell 0 _ rfl
  have z1 := Z4.out.cell 1 _ rfl
  have z2 := Z4.out.cell 2 _ rfl
  have z3 := Z4.out.cell 3 _ rfl
  have z4 := Z4.out.cell 4 _ rfl
  have z5 := Z4.out.cell 5 _ rfl
  go_wp2_with fail
  clear z0 z1 z2 z3 z4 z5
  refine (E4.out _ B4.out).mono ?_
  rintro e w4 ⟨rfl, hb⟩
  have B5 := Lib.hid (B4.out.trans (hb.mono B4.out.size))
  have R5 := Lib.hid ((R4.out.below hb).more hb.size)
  have S5 := Lib.hid ((S4.out.below hb).more hb.size)
  clear hb B4 R4 S4 Z4 E4
  go_wp2_with fail
  refine (E5.out _ B5.out).mono ?_
  rintro e w5 ⟨rfl, hb⟩
  have B6 := Lib.hid (B5.out.trans (hb.mono B5.out.size))
  have R6 := Lib.hid ((R5.out.below hb).more hb.size)
  have S6 := Lib.hid ((S5.out.below hb).more hb.size)
  clear hb B5 R5 S5 E5
  go_wp2_with fail
  obtain ⟨WY, hWY⟩ : ∃ WY, WY = w5.alloc (.cells #[.int .i64 0, .int .i64 2] 3) := ⟨_, rfl⟩
  have hy : Blk WY w5.heap.size [.int .i64 0, .int .i64 2] 3 := by rw [hWY]; exact Blk.new w5 _ _
  have hb : Below w5.heap.size w5 WY := by rw [hWY]; exact (Below.refl _ _).alloc (Nat.le_refl _) _
  have B7 := Lib.hid (B6.out.trans (hb.mono B6.out.size))
  have R7 := Lib.hid ((R6.out.below hb).more hb.size)
  have S7 := Lib.hid ((S6.out.below hb).more hb.size)
  rw [← hWY]
  clear hWY B6 R6 S6 hb
  refine (CB.out _ B7.out _ hy).mono ?_
  rintro e w6 ⟨rfl, hb⟩
  have B8 := Lib.hid (B7.out.trans (hb.mono B7.out.size))
  have R8 := Lib.hid ((R7.out.below hb).more hb.size)
  have S8 := Lib.hid ((S7.out.below hb).more hb.size)
  clear hb B7 R7 S7 CB hy
  go_wp2_with fail
  have lits : ∀ (W : World) (l : List Int), Rd (W.alloc (.cells (l.map iv).toArray 3)) (W.alloc (.cells (l.map iv).toArray 3)).heap.size (some ⟨W.heap.size, 0, none⟩) (l.map iv) := fun W l => rd_new W (l.map iv) 3
  have hb : Below w6.heap.size w6 (w6.alloc (.cells #[.int .i64 4, .int .i64 4, .int .i64 4] 3)) := (Below.refl _ _).alloc (Nat.le_refl _) _
  refine (sameInts_any A1 (some ⟨w6.heap.size, 0, none⟩) c1 3 [4, 4, 4] [4, 4, 4] _ ((R8.out.below hb).more hb.size) (lits w6 [4, 4, 4]) (by decide) (by decide)).mono ?_
  rintro e w7 ⟨rfl, hb2⟩
  have hb3 := hb.trans (hb2.mono hb.size)
  have B9 := Lib.hid (B8.out.trans (hb3.mono B8.out.size))
  have S9 := Lib.hid ((S8.out.below hb3).more hb3.size)
  clear hb hb2 hb3 B8 R8 S8
  simp only [decide_true]
  go_wp2_with fail
  have hb : Below w7.heap.size w7 (w7.alloc (.cells #[.int .i64 5] 3)) := (Below.refl _ _).alloc (Nat.le_refl _) _
  refine (sameInts_any A2 (some ⟨w7.heap.size, 0, none⟩) c2 1 [5] [5] _ ((S9.out.below hb).more hb.size) (lits w7 [5]) (by decide) (by decide)).mono ?_
  rintro e w8 ⟨rfl, hb2⟩
  have hb3 := hb.trans (hb2.mono hb.size)
  have Ba := Lib.hid (B9.out.trans (hb3.mono B9.out.size))
  clear hb hb2 hb3 B9 S9 lits
  simp only [decide_true]
  go_wp2_with fail
  refine (E6.out _ Ba.out).mono ?_
  rintro e w9 ⟨rfl, hb⟩
  have Bb := Lib.hid (Ba.out.trans (hb.mono Ba.out.size))
  clear hb Ba E6
  go_wp2_with fail
  go_ret
  exact ⟨rfl, Bb.out⟩
end Go.Proofs.YtjdidnonfmdfmaaDoor
end

