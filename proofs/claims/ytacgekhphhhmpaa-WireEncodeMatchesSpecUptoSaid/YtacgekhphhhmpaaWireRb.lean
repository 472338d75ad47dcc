/- What the bound of the second form gives for a slice of strings. -/
import Derived.Test.YtacgekhphhhmpaaRows
import Derived.Test.YtacgekhphhhmpaaWireP
namespace Go.Proofs.Ytacgekhphhhmpaa
open Go.RowKit Go.ChangeShapes
set_option linter.unusedVariables false

theorem bulk_part {H : Type} : ∀ (l : List (DataW H)) (j : Nat) (d : DataW H), l[j]? = some d → Rows.uptoBulk d ≤ Rows.uptoBulkAll l := by
  intro l
  induction l with
  | nil => intro j d h; simp at h
  | cons x r ih =>
    intro j d h
    simp only [Rows.uptoBulkAll]
    cases j with
    | zero => simp only [List.getElem?_cons_zero, Option.some.injEq] at h; subst h; omega
    | succ j => have := ih j d (by simpa using h); omega
theorem bulk_strs {H : Type} : ∀ l : List ByteArray, l.length + sum l ≤ Rows.uptoBulkAll (strs l : List (DataW H)) := by
  intro l
  induction l with
  | nil => exact Nat.zero_le _
  | cons s l ih =>
    have h : Rows.uptoBulkAll (strs (s :: l) : List (DataW H)) = Rows.uptoBulk (.lit (.string s.data.toList) : DataW H) + Rows.uptoBulkAll (strs l : List (DataW H)) := rfl
    have h2 : Rows.uptoBulk (.lit (.string s.data.toList) : DataW H) = s.data.toList.length + 1 := by simp only [Rows.uptoBulk]
    have h3 : s.data.toList.length = s.size := Array.length_toList
    rw [h, h2, List.length_cons]
    unfold sum
    omega
theorem upto_strs {H : Type} {ds : List (DataW H)} (hk : Rows.uptoSmall H ds = true) (j : Nat) {a b : List ByteArray} (hd : ds[j]? = some (.slice (strs a) (strs b))) : a.length + sum a ≤ 1048576 := by
  have h1 : Rows.uptoBulkAll ds ≤ 1048576 := of_decide_eq_true hk
  have h2 := bulk_part ds j _ hd
  have h3 := bulk_strs (H := H) a
  simp only [Rows.uptoBulk] at h2
  omega
end Go.Proofs.Ytacgekhphhhmpaa
