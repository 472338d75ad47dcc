import Derived.Test.YtjdidnonfmdfmaaDoorJFacts
import Derived.Test.YtjdidnonfmdfmaaDoorJHashI
import Derived.Test.YtjdidnonfmdfmaaDoorJTail
import Derived.Test.YtjdidnonfmdfmaaDoorJWireG1

section
/- hash.Begin over messages. -/



namespace Go.Proofs.YtjdidnonfmdfmaaDoor
open Go.RowKit
set_option linter.unusedVariables false

theorem bbytes_size (l : List UInt8) : (bs l).size = l.length := by simp [bs, ByteArray.size]
theorem begin_strm (w : World) : Calls Tryd.prog 56 #[] w fun e w' => e = .returned (.agg (Strm []).toArray) ∧ Below w.heap.size w w' := begin_any w

end Go.Proofs.YtjdidnonfmdfmaaDoor
end

section
/- Add and Sum of streams, the message under a name. -/


namespace Go.Proofs.YtjdidnonfmdfmaaDoor
open Go.RowKit
set_option linter.unusedVariables false

/-- A hash in a variable of its own. -/
theorem sum_new (w : World) (Z R : List Value) (hZ : Z.length = 32) (hR : R.length = 32) :
    Blk ((w.alloc (.cells Z.toArray 90)).setCells w.heap.size 0 R) w.heap.size R 90 ∧ (w.alloc (.cells Z.toArray 90)).there w.heap.size 0 R.toArray.size ∧
      Below w.heap.size w ((w.alloc (.cells Z.toArray 90)).setCells w.heap.size 0 R) :=
  ⟨(Blk.new w Z _).whole R (by rw [hZ, hR]), (Blk.new w Z _).there 0 _ (by rw [List.size_toArray, hZ, hR]; omega), below_setCells _ (Nat.le_refl _) _ _ _ ((Below.refl _ _).alloc (Nat.le_refl _) _)⟩
theorem sum_conv (w : World) (b : Nat) (l : List UInt8) (hl : l.length = 32) (h : Blk w b (l.map bv) 90) :
    (convert 52 9 (.slice (some ⟨b, 0, none⟩) 32 32)).run Tryd.prog w = .ok (.string (bs l)) w := by
  have hr : RdB w (b + 1) (some ⟨b, 0, none⟩) l := fun _ => ⟨b, 0, rfl, by omega, fun j u hu => by rw [Nat.zero_add]; exact h.cell j u hu⟩
  have := conv_bytes w _ _ l 32 hr
  rwa [hl] at this

/-- Add and Sum, the message and its array under names. -/
theorem add_to (m m' : List UInt8) (A A' : Array Value) (s : ByteArray) (w : World) (hA : A = (Strm m).toArray) (hA' : A' = (Strm m').toArray) (he : m ++ sb s = m') (hl : m'.length ≤ 1000000000) (ht : HTab w) :
    Calls Tryd.prog 57 #[.agg A, .string s] w fun e w' => e = .returned (.agg A') ∧ Below w.heap.size w w' := by
  subst hA hA' he
  exact add_any m s w (by rw [List.length_append, sb_len] at hl; exact hl) ht
theorem sum_of (m : List UInt8) (A : Array Value) (R : List Value) (w : World) (hA : A = (Strm m).toArray) (hR : R = (H.sha m).map bv) (hl : m.length ≤ 1000000000) (ht : HTab w) :
    Calls Tryd.prog 59 #[.agg A] w fun e w' => e = .returned (.agg R.toArray) ∧ Below w.heap.size w w' := by
  subst hA hR
  exact sum_any m w hl ht
theorem HTab.next {w w' : World} (h : HTab w) (hb : Below w.heap.size w w') : HTab w' := h.below hb (Nat.le_refl _)

end Go.Proofs.YtjdidnonfmdfmaaDoor
end

