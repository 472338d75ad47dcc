/- The walks of the statements WireIntRoundTrip, WireConcat. -/
import Derived.Test.YtacgekhphhhmpaaWireT
namespace Go.Proofs.Ytacgekhphhhmpaa
open Go.RowKit
set_option linter.unusedVariables false

theorem RdB.full {w : World} {B c : Nat} {A : Option Addr} {l : List UInt8} (h : RdB w B A l) : RdB w B (cutA A 0 l.length) l := by
  have := Rd.cut (lo := 0) (hi := l.length) (cap := l.length) h (by simp) (Nat.le_refl _)
  unfold RdB
  rw [show l.length = (l.map bv).length from by simp, List.take_length, List.drop_zero] at this
  simpa using this

set_option maxHeartbeats 2000000 in
theorem intRoundTrip_walk (n : Int) (A0 : Option Addr) (len cap : Nat) (zs : List Int) (w : World) (hn : (Lit.int .i64 n).wf = true) (hrow : IsRow .u8 w A0 len cap zs) :
    Calls Try.prog 6 #[.int .i64 n, .slice A0 len cap] w (Tells true w) := by
  obtain ⟨q, rfl, hrd, hc, hm⟩ := row_bytes hrow
  have hI := int_I64 hn
  clear hn hrow
  by_cases hl : 2000 < q.length
  · have hl' : (2000 : Int) < q.length := by omega
    go_enter Try.func6, Try.ntmps6
    go_wp2_with fail
    refine (sanity_any _).mono ?_
    rintro e w1 ⟨rfl, hb⟩
    go_wp2_with fail
    go_ret
    exact ⟨rfl, hb⟩
  · have hl' : (q.length : Int) ≤ 2000 := by omega
    have h9 := M.encI_len_le n hI
    have hp := M.encI_pos n
    have Hrd := Lib.hid hrd
    obtain ⟨E, hE⟩ : ∃ E, E = M.encI n := ⟨_, rfl⟩
    obtain ⟨L, hL⟩ : ∃ L, L = E ++ q := ⟨_, rfl⟩
    have hget : M.getI L = (n, E.length, 0) := by rw [hL, hE]; exact M.getI_encI n hI q
    have hint := int_any n w hI
    rw [← hE] at h9 hp
    have hint' : Calls Try.prog 14 #[.int .i64 n] w (Gives E w) := hint.mono fun e w' h => by rw [hE]; exact makes_gives h
    have Hint := Lib.hid hint'
    have Hget := Lib.hid hget
    have HL := Lib.hid hL
    clear hint hint' hget hE hL hrd
    go_enter Try.func6, Try.ntmps6
    go_wp2_with fail
    refine Hint.out.mono ?_
    rintro e w1 ⟨A, c, rfl, hr, hc1, hm1, hb1⟩
    have hsl := cut_hm w1 A E.length c E.length E.length E.length E.length rfl rfl (Nat.le_refl _) hc1
    have hfull := hr.full (c := c)
    obtain ⟨A1, hA1⟩ : ∃ A1, A1 = cutA A 0 E.length := ⟨_, rfl⟩
    rw [← hA1] at hsl hfull
    have hq1 := Lib.hid ((Hrd.out.below hb1).more hb1.size)
    clear hA1 hr
    go_wp2_with (at_builtin; refine wpList_append_full _ rfl (.tmp 21) (.tmp 22) rfl A1 A0 E q cap rfl rfl hfull hq1.out (by omega) (by omega) ?_; intro v w2 hB hb2; rw [← HL.out] at hB; obtain ⟨A2, c2, rfl, hr2, hc2, hm2⟩ := hB)
    have hg := getInt_any A2 c2 L w2 _ hr2 hc2 hm2
    rw [Hget.out] at hg
    refine hg.mono ?_
    rintro e w3 ⟨rfl, rfl⟩
    unfold I3
    have hb3 := hb1.trans (hb2.mono hb1.size)
    clear hg hr2 hc2 hm2 hb1 hb2 hsl hfull hq1
    go_wp2_with fail
    refine (sanity_any _).mono ?_
    rintro e w4 ⟨rfl, hb4⟩
    have hp' : (1 : Int) ≤ E.length := by omega
    have h9' : (E.length : Int) ≤ 9 := by omega
    go_wp2_with fail
    go_ret
    exact ⟨rfl, hb3.trans (hb4.mono hb3.size)⟩

end Go.Proofs.Ytacgekhphhhmpaa
