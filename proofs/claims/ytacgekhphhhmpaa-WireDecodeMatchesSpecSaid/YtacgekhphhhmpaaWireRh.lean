/- The reference's count and GetBytes. -/
import Derived.Test.YtacgekhphhhmpaaWireRg
import Derived.Test.YtacgekhphhhmpaaWireMathD
namespace Go.Proofs.Ytacgekhphhhmpaa
open Go.RowKit
set_option linter.unusedVariables false

set_option maxHeartbeats 1000000 in
set_option maxRecDepth 100000 in
theorem refCount1_any (A : Option Addr) (cap : Nat) (l : List UInt8) (w : World) (hr : RdB w w.heap.size A l) (hc : l.length ≤ cap) (hm : cap ≤ maxLen) (hl : l.length ≤ 1000000000) :
    Calls Try.prog 41 #[.slice A l.length cap, .int .i64 1] w fun e w' => e = .returned (I3 (M.getLen l 1).1 (M.getLen l 1).2.1 (M.getLen l 1).2.2) ∧ Below w.heap.size w w' := by
  have hg := refGetInt_any A cap l w hr hc hm
  have hu := M.getI_used l
  have hI := M.getI_I64 l
  obtain ⟨R, hR⟩ : ∃ R, R = M.getLen l 1 := ⟨_, rfl⟩
  rw [← hR]
  unfold M.getLen at hR
  obtain ⟨⟨N, U, E⟩, hQ⟩ : ∃ r, r = M.getI l := ⟨_, rfl⟩
  rw [← hQ] at hg hu hI hR
  simp only at hg hu hI hR
  unfold M.I64 at hI
  have Hg := Lib.hid hg
  have HR := Lib.hid hR
  clear hg hQ hr hR
  unfold maxLen at hm
  go_enter Try.func41, Try.ntmps41
  go_wp2_with fail
  refine Hg.out.mono ?_
  rintro e w1 ⟨rfl, hb⟩
  unfold I3
  by_cases hE : E = 0
  · subst hE
    by_cases hN : N < 0
    · have hR := HR.out
      rw [if_neg (by decide), if_pos hN] at hR
      have HR2 := Lib.hid hR
      clear hR HR
      go_wp2_with fail
      go_ret3
      exact ⟨by rw [HR2.out]; rfl, hb⟩
    · have hN0 : 0 ≤ N := by omega
      by_cases hbig : (l.length : Int) < N
      · have hR := HR.out
        rw [if_neg (by decide), if_neg (by omega), if_pos (by omega)] at hR
        have HR2 := Lib.hid hR
        clear hR HR
        go_wp2_with fail
        go_ret3
        exact ⟨by rw [HR2.out]; rfl, hb⟩
      · have hbig' : N ≤ (l.length : Int) := by omega
        by_cases hx : ((l.length : Int) - (U : Int)) / 1 < N
        · have hx2 : (l.length : Int) - (U : Int) < N := by omega
          have hR := HR.out
          rw [if_neg (by decide), if_neg (by omega), if_pos (by omega)] at hR
          clear hx
          have HR2 := Lib.hid hR
          clear hR HR
          go_wp2_with fail
          go_ret3
          exact ⟨by rw [HR2.out]; rfl, hb⟩
        · have hx2 : N ≤ (l.length : Int) - (U : Int) := by omega
          have hR := HR.out
          rw [if_neg (by decide), if_neg (by omega), if_neg (by omega)] at hR
          clear hx
          have HR2 := Lib.hid hR
          clear hR HR
          go_wp2_with fail
          go_ret3
          exact ⟨by rw [HR2.out]; rfl, hb⟩
  · have hE1 : ((E : Int) != 0) = true := by simp; omega
    have hR := HR.out
    rw [if_pos hE] at hR
    have HR2 := Lib.hid hR
    clear hR HR
    go_wp2_with fail
    go_ret3
    exact ⟨by rw [HR2.out]; rfl, hb⟩

set_option maxHeartbeats 1000000 in
set_option maxRecDepth 100000 in
theorem refCount16_any (A : Option Addr) (cap : Nat) (l : List UInt8) (w : World) (hr : RdB w w.heap.size A l) (hc : l.length ≤ cap) (hm : cap ≤ maxLen) (hl : l.length ≤ 1000000000) :
    Calls Try.prog 41 #[.slice A l.length cap, .int .i64 16] w fun e w' => e = .returned (I3 (M.getLen l 16).1 (M.getLen l 16).2.1 (M.getLen l 16).2.2) ∧ Below w.heap.size w w' := by
  have hg := refGetInt_any A cap l w hr hc hm
  have hu := M.getI_used l
  have hI := M.getI_I64 l
  obtain ⟨R, hR⟩ : ∃ R, R = M.getLen l 16 := ⟨_, rfl⟩
  rw [← hR]
  unfold M.getLen at hR
  obtain ⟨⟨N, U, E⟩, hQ⟩ : ∃ r, r = M.getI l := ⟨_, rfl⟩
  rw [← hQ] at hg hu hI hR
  simp only at hg hu hI hR
  unfold M.I64 at hI
  have Hg := Lib.hid hg
  have HR := Lib.hid hR
  clear hg hQ hr hR
  unfold maxLen at hm
  go_enter Try.func41, Try.ntmps41
  go_wp2_with fail
  refine Hg.out.mono ?_
  rintro e w1 ⟨rfl, hb⟩
  unfold I3
  by_cases hE : E = 0
  · subst hE
    by_cases hN : N < 0
    · have hR := HR.out
      rw [if_neg (by decide), if_pos hN] at hR
      have HR2 := Lib.hid hR
      clear hR HR
      go_wp2_with fail
      go_ret3
      exact ⟨by rw [HR2.out]; rfl, hb⟩
    · have hN0 : 0 ≤ N := by omega
      by_cases hbig : (l.length : Int) < N
      · have hR := HR.out
        rw [if_neg (by decide), if_neg (by omega), if_pos (by omega)] at hR
        have HR2 := Lib.hid hR
        clear hR HR
        go_wp2_with fail
        go_ret3
        exact ⟨by rw [HR2.out]; rfl, hb⟩
      · have hbig' : N ≤ (l.length : Int) := by omega
        by_cases hx : ((l.length : Int) - (U : Int)) / 16 < N
        · have hx2 : (l.length : Int) - (U : Int) < N * 16 := by omega
          have hR := HR.out
          rw [if_neg (by decide), if_neg (by omega), if_pos (by omega)] at hR
          clear hx
          have HR2 := Lib.hid hR
          clear hR HR
          go_wp2_with fail
          go_ret3
          exact ⟨by rw [HR2.out]; rfl, hb⟩
        · have hx2 : N * 16 ≤ (l.length : Int) - (U : Int) := by omega
          have hR := HR.out
          rw [if_neg (by decide), if_neg (by omega), if_neg (by omega)] at hR
          clear hx
          have HR2 := Lib.hid hR
          clear hR HR
          go_wp2_with fail
          go_ret3
          exact ⟨by rw [HR2.out]; rfl, hb⟩
  · have hE1 : ((E : Int) != 0) = true := by simp; omega
    have hR := HR.out
    rw [if_pos hE] at hR
    have HR2 := Lib.hid hR
    clear hR HR
    go_wp2_with fail
    go_ret3
    exact ⟨by rw [HR2.out]; rfl, hb⟩

set_option maxHeartbeats 1000000 in
set_option maxRecDepth 100000 in
theorem refGetBytes_any (A : Option Addr) (cap : Nat) (l : List UInt8) (w : World) (hr : RdB w w.heap.size A l) (hc : l.length ≤ cap) (hm : cap ≤ maxLen) (hl : l.length ≤ 1000000000) :
    Calls Try.prog 27 #[.slice A l.length cap] w fun e w' => e = .returned (S3 (bs (M.getB l).1) (M.getB l).2.1 (M.getB l).2.2) ∧ Below w.heap.size w w' := by
  have hgi := refCount1_any A cap l w hr hc hm hl
  unfold maxLen at hm
  have hok := M.getLen_ok l 1 (by omega)
  have hok2 := M.getI_ok l
  obtain ⟨r, hR⟩ : ∃ r, r = M.getB l := ⟨_, rfl⟩
  rw [← hR]
  unfold M.getB at hR
  obtain ⟨⟨N, U, E⟩, hg⟩ : ∃ g, g = M.getLen l 1 := ⟨_, rfl⟩
  rw [← hg] at hok hR hgi
  simp only at hok hR hgi
  have Hgi := Lib.hid hgi
  have HR := Lib.hid hR
  have Hok := Lib.hid hok
  have Hok2 := Lib.hid hok2
  have Hr := Lib.hid hr
  clear hgi hR hok hg hok2 hr
  go_enter Try.func27, Try.ntmps27
  go_wp2_with fail
  refine Hgi.out.mono ?_
  rintro e w1 ⟨rfl, hb1⟩
  unfold I3
  by_cases hE : E = 0
  · subst hE
    have hR := HR.out
    rw [if_neg (by simp)] at hR
    obtain ⟨h1, h2, h3, h4, h5⟩ := Hok.out rfl
    obtain ⟨-, h6, -, -⟩ := Hok2.out h1
    rw [← h2] at h4 h5
    rw [← h3] at h5 h6
    obtain ⟨n, rfl⟩ := Int.eq_ofNat_of_zero_le h4
    have hUn : U + n ≤ l.length := by omega
    rw [Int.toNat_natCast] at hR
    have hsl := cut_lh w1 A l.length cap U (U + n) U ((U : Int) + n) rfl (by omega) (by omega) (by omega)
    rw [Nat.add_sub_cancel_left] at hsl
    have hpart := RdB.part (lo := U) (n := n) ((Hr.out.below hb1).more hb1.size) hUn hc
    obtain ⟨q, hq⟩ : ∃ q, q = (l.drop U).take n := ⟨_, rfl⟩
    have hql : q.length = n := by rw [hq]; simp; omega
    rw [← hq] at hpart hR
    have hcv := conv_bytes w1 _ _ q (cap - U) hpart
    rw [hql] at hcv
    obtain ⟨A', hA'⟩ : ∃ A', A' = cutA A U cap := ⟨_, rfl⟩
    rw [← hA'] at hsl hcv
    have HR2 := Lib.hid hR
    clear hR HR h1 h2 h3 h5 hpart hq hA' hql
    go_wp2_with fail
    go_ret3
    exact ⟨by rw [HR2.out]; rfl, hb1⟩
  · have hne : ((E : Int) != 0) = true := by simp; omega
    have hR := HR.out
    rw [if_pos hE] at hR
    have HR2 := Lib.hid hR
    clear hR HR
    go_wp2_with fail
    go_ret3
    exact ⟨by rw [HR2.out]; rfl, hb1⟩
end Go.Proofs.Ytacgekhphhhmpaa
