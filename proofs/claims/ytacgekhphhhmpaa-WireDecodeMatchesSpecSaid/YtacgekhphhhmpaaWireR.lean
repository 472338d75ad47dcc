/- The walk of the statement WireTruncated. -/
import Derived.Test.YtacgekhphhhmpaaWireZ
import Derived.Test.YtacgekhphhhmpaaWireN
import Derived.Test.YtacgekhphhhmpaaWireMathF
import Derived.Test.YtacgekhphhhmpaaWireY
namespace Go.Proofs.Ytacgekhphhhmpaa
open Go.RowKit
set_option linter.unusedVariables false

/-- The decoder wants more bytes. -/
def Wants (w : World) (e : Ending) (w' : World) : Prop := ∃ v u : Value, e = .returned (.tuple #[v, u, .int .i64 3]) ∧ Below w.heap.size w w'
/-- The decoder f wants more bytes of every proper beginning of L. -/
def More (f : FuncId) (L : List UInt8) : Prop := ∀ (W : World) (A : Option Addr) (c j : Nat), RdB W W.heap.size A L → L.length ≤ c → c ≤ maxLen → j < L.length →
  Calls Try.prog f #[.slice (cutA A 0 c) j c] W (Wants W)
theorem more_of {f : FuncId} {L : List UInt8} (h : ∀ (W : World) (A : Option Addr) (c j : Nat) (q : List UInt8), q = L.take j → j < L.length → q.length ≤ L.length → q.length ≤ c → c ≤ maxLen → RdB W W.heap.size A q → Calls Try.prog f #[.slice A q.length c] W (Wants W)) : More f L := by
  intro W A c j hr hc hm hj
  have hp := hr.part (lo := 0) (n := j) (by omega) hc
  rw [List.drop_zero] at hp
  have hl : (L.take j).length = j := by rw [List.length_take]; omega
  have := h W (cutA A 0 c) c j (L.take j) rfl hj (by omega) (by omega) hm hp
  rwa [hl] at this

theorem moreInt (n : Int) (L : List UInt8) (h : M.I64 n) (hL : M.encI n = L) : More 24 L := more_of fun W A c j q hq hj _ hc hm hr => by
  subst hL
  refine (getInt_any A c q W _ hr hc hm).mono ?_
  rintro e w' ⟨rfl, rfl⟩
  rw [hq, M.getI_more n h j hj]
  exact ⟨_, _, rfl, Below.refl _ _⟩
theorem moreBytes (s L : List UInt8) (h : s.length ≤ 1000000) (hL : M.encB s = L) : More 26 L := more_of fun W A c j q hq hj _ hc hm hr => by
  subst hL
  refine (getBytes_any A c q W _ hr hc hm).mono ?_
  rintro e w' ⟨rfl, rfl⟩
  have h3 := M.getB_more s j (by omega) hj
  rw [← hq] at h3
  rw [h3]
  exact ⟨_, _, rfl, Below.refl _ _⟩
theorem moreInts (l : List Int) (L : List UInt8) (hl : l.length ≤ 1000000) (hI : ∀ n ∈ l, M.I64 n) (hL : M.encL M.encI l = L) (hs : L.length ≤ 1000000000) : More 28 L := more_of fun W A c j q hq hj hql hc hm hr => by
  subst hL
  refine (getInts_any A c q W hr hc hm (by omega)).mono ?_
  rintro e w' ⟨v, rfl, -, hb⟩
  have h3 := M.getLs_more M.getI M.encI l 1 (Nat.le_refl _) (by omega) (fun n hn q => M.getI_encI n (hI n hn) q) (fun n hn j hj => by rw [M.getI_more n (hI n hn) j hj]) j hj
  rw [← hq] at h3
  rw [h3]
  exact ⟨_, _, rfl, hb⟩
theorem gS_more (s : ByteArray) (h : s.size ≤ 1000000) (j : Nat) (hj : j < (encS s).length) : (gS ((encS s).take j)).2.2 = 3 :=
  M.getB_more (sb s) j (by rw [sb_len]; omega) hj
theorem gS_enc (s : ByteArray) (h : s.size ≤ 1000000) (q : List UInt8) : gS (encS s ++ q) = (s, (encS s).length, 0) := by
  unfold gS encS
  rw [M.getB_enc (sb s) q (by rw [sb_len]; omega), bs_sb]
theorem moreStrings (l : List ByteArray) (L : List UInt8) (hl : l.length ≤ 1000000) (hI : ∀ s ∈ l, s.size ≤ 1000000) (hL : M.encL encS l = L) (hs : L.length ≤ 1000000000) : More 31 L := more_of fun W A c j q hq hj hql hc hm hr => by
  subst hL
  refine (getStrings_any A c q W hr hc hm (by omega)).mono ?_
  rintro e w' ⟨v, rfl, -, hb⟩
  have h3 := M.getLs_more gS encS l 1 (Nat.le_refl _) (by omega) (fun s hs q => gS_enc s (hI s hs) q) (fun s hs j hj => gS_more s (hI s hs) j hj) j hj
  rw [← hq] at h3
  rw [h3]
  exact ⟨_, _, rfl, hb⟩
theorem moreDigests (n : Nat) (D L : List UInt8) (hn : n ≤ 1000000) (hD : D.length = 16 * n) (hL : encD n D = L) (hs : L.length ≤ 1000000000) : More 34 L := more_of fun W A c j q hq hj hql hc hm hr => by
  subst hL
  refine (getDigests_any A c q W hr hc hm (by omega)).mono ?_
  rintro e w' ⟨v, rfl, -, hb⟩
  have h3 := M.getLs_short gD n D 16 (by decide) (by omega) (by omega) j hj
  unfold encD at hq
  rw [← hq] at h3
  rw [h3]
  exact ⟨_, _, rfl, hb⟩

theorem encS_flat (l : List ByteArray) (h : ∀ s ∈ l, s.size ≤ 1000000) : (l.flatMap encS).length ≤ 9 * l.length + sum l := by
  induction l with
  | nil => simp
  | cons s l ih =>
    have h1 := ih (fun t ht => h t (by simp [ht]))
    have h2 := h s (by simp)
    have h3 := M.encI_len_le s.size (M.I64_nat _ (by omega))
    have h4 : (encS s).length = (M.encI s.size).length + s.size := by unfold encS M.encB; rw [List.length_append, sb_len]
    rw [List.flatMap_cons, List.length_append, List.length_cons]
    unfold sum
    omega
end Go.Proofs.Ytacgekhphhhmpaa
