/- How long the strings of a slice that came in can be. -/
import Derived.Test.YtacgekhphhhmpaaWireN
import Derived.SizedLaws
namespace Go.Proofs.Ytacgekhphhhmpaa
open Go.RowKit Go.ChangeShapes
set_option linter.unusedVariables false

theorem weigh_strs {H : Type} {P : Program} (e : TypeId) (s : ByteArray) : ∀ l : List ByteArray, s ∈ l → s.size ∈ DataW.weightsAll P e (strs l : List (DataW H)) := by
  intro l
  induction l with
  | nil => intro h; simp at h
  | cons t l ih =>
    intro h
    show s.size ∈ DataW.weights P e (.lit (.string t.data.toList) : DataW H) ++ DataW.weightsAll P e (strs l : List (DataW H))
    rw [List.mem_append]
    rcases List.mem_cons.1 h with rfl | h
    · left
      simp only [DataW.weights, List.mem_singleton]
      exact Array.length_toList.symm
    · exact .inr (ih h)
theorem sized_strs {H : Type} {P : Program} {ts : List TypeId} {ds : List (DataW H)} (h : (DataW.weightsEach P ts ds).all (· ≤ reachBytes) = true) {j : Nat} {t e : TypeId} {a b : List ByteArray} (ht : ts[j]? = some t) (hd : ds[j]? = some (.slice (strs a) (strs b)))
    (hu : P.underlying t = some (.slice e)) : ∀ s ∈ a ++ b, s.size ≤ 140737488351232 := by
  intro s hs
  have hm : s.size ∈ DataW.weights P t (.slice (strs a) (strs b) : DataW H) := by
    simp only [DataW.weights, hu, List.mem_cons, List.mem_append]
    rcases List.mem_append.1 hs with hs | hs
    · exact .inr (.inl (weigh_strs e s a hs))
    · exact .inr (.inr (weigh_strs e s b hs))
  have := List.all_eq_true.1 h _ (DataW.weights_mem_each ht hd _ hm)
  have h2 := of_decide_eq_true this
  simpa [reachBytes] using h2
end Go.Proofs.Ytacgekhphhhmpaa
