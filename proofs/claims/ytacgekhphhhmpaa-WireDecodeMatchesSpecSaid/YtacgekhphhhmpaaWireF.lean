/- The contracts of wire.getLength and wire.GetBytes. -/
import Derived.Test.YtacgekhphhhmpaaWireE
namespace Go.Proofs.Ytacgekhphhhmpaa
open Go.RowKit
set_option linter.unusedVariables false

set_option maxHeartbeats 1000000 in
theorem getLength_any (A : Option Addr) (cap : Nat) (l : List UInt8) (w : World) (B size : Nat) (hr : RdB w B A l) (hc : l.length ≤ cap) (hm : cap ≤ maxLen) (h1 : 1 ≤ size) (h2 : size ≤ 16) :
    Calls Try.prog 40 #[.slice A l.length cap, .int .i64 size] w fun e w' => e = .returned (I3 (M.getLen l size).1 (M.getLen l size).2.1 (M.getLen l size).2.2) ∧ w = w' := by
  have hgi := getInt_any A cap l w B hr hc hm
  unfold maxLen at hm
  have hu := M.getI_used l
  have hok := M.getI_ok l
  obtain ⟨r, hR⟩ : ∃ r, r = M.getLen l size := ⟨_, rfl⟩
  rw [← hR]
  unfold M.getLen at hR
  obtain ⟨⟨N, U, E⟩, hg⟩ : ∃ g, g = M.getI l := ⟨_, rfl⟩
  rw [← hg] at hu hok hR hgi
  simp only at hu hok hR hgi
  have Hgi := Lib.hid hgi
  have HR := Lib.hid hR
  have Hok := Lib.hid hok
  clear hgi hR hok hg
  go_enter Try.func40, Try.ntmps40
  go_wp2_with fail
  refine Hgi.out.mono ?_
  rintro e w' ⟨rfl, rfl⟩
  unfold I3
  by_cases hE : E = 0
  · subst hE
    obtain ⟨⟨hI1, hI2⟩, -, -, -⟩ := Hok.out rfl
    have hR := HR.out
    rw [if_neg (by simp)] at hR
    by_cases hN : N < 0
    · rw [if_pos hN] at hR
      have HR2 := Lib.hid hR
      clear hR HR
      go_wp2_with fail
      go_ret3
      exact ⟨by rw [HR2.out]; rfl, rfl⟩
    · rw [if_neg hN] at hR
      have hN' : 0 ≤ N := by omega
      have hsz : (1 : Int) ≤ size := by omega
      have hd0 : 0 ≤ ((l.length : Int) - U) / size := Int.ediv_nonneg (by omega) (by omega)
      have hd1 : ((l.length : Int) - U) / size ≤ (l.length : Int) - U := Int.ediv_le_self _ (by omega)
      by_cases hb : ((l.length : Int) - U) / size < N
      · rw [if_pos hb] at hR
        have HR2 := Lib.hid hR
        clear hR HR
        go_wp2_with fail
        go_ret3
        exact ⟨by rw [HR2.out]; rfl, rfl⟩
      · rw [if_neg hb] at hR
        have HR2 := Lib.hid hR
        clear hR HR
        have hb' : N ≤ ((l.length : Int) - U) / size := by omega
        go_wp2_with fail
        go_ret3
        exact ⟨by rw [HR2.out]; rfl, rfl⟩
  · have hne : ((E : Int) != 0) = true := by simp; omega
    have hR := HR.out
    rw [if_pos hE] at hR
    have HR2 := Lib.hid hR
    clear hR HR
    go_wp2_with fail
    go_ret3
    exact ⟨by rw [HR2.out]; rfl, rfl⟩
end Go.Proofs.Ytacgekhphhhmpaa
