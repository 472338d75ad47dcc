/- The contract of wire.GetBytes; the conversion of a []byte to a string. -/
import Derived.Test.YtacgekhphhhmpaaWireF
import Derived.Laws.BytesArg
namespace Go.Proofs.Ytacgekhphhhmpaa
open Go.RowKit
set_option linter.unusedVariables false

def bs (l : List UInt8) : ByteArray := ⟨l.toArray⟩
theorem sb_bs (l : List UInt8) : sb (bs l) = l := by simp [sb, bs]
theorem bs_sb (s : ByteArray) : bs (sb s) = s := by cases s; simp [sb, bs]
theorem strOf (l : List UInt8) : strOfNums (l.map fun c => (c.toNat : Int)) = bs l := by
  unfold strOfNums bs
  congr 1
  apply congrArg
  rw [List.map_map]
  conv => rhs; rw [← List.map_id l]
  apply List.map_congr_left
  intro c _
  simp

theorem conv_bytes (w : World) (B : Nat) (A : Option Addr) (l : List UInt8) (c : Nat) (hr : RdB w B A l) :
    (convert 28 9 (.slice A l.length c)).run Try.prog w = .ok (.string (bs l)) w := by
  cases hl : l with
  | nil =>
    cases A with
    | none => exact run_convert_bytes_nil w _ _ Try.underlying28 Try.underlying5 _ _ _ Try.underlying9
    | some ad =>
      rw [run_convert_bytes_string w _ _ _ _ _ _ Try.underlying28 Try.underlying5 Try.underlying9]
      exact run_bytesToString w ad 0 c [] (run_loadCells_list (P := Try.prog) w ad [] (fun j v hj => by simp at hj))
  | cons a t =>
    obtain ⟨b, off, rfl, hb, hcell⟩ := hr (by rw [hl]; simp)
    rw [← hl, ← strOf l]
    refine run_convert_bytes_arg w _ _ Try.underlying28 Try.underlying5 b off l.length c (l.map fun c => (c.toNat : Int)) (by simp) (fun i hi => ?_) _ Try.underlying9
    refine hcell i _ ?_
    simp [hi, bv]

def S3 (s : ByteArray) (b c : Int) : Value := .tuple #[.string s, .int .i64 b, .int .i64 c]

theorem RdB.part {w : World} {B cap : Nat} {A : Option Addr} {l : List UInt8} (h : RdB w B A l) {lo n : Nat} (hh : lo + n ≤ l.length) (hc : l.length ≤ cap) : RdB w B (cutA A lo cap) ((l.drop lo).take n) := by
  have := Rd.cut (lo := lo) (hi := lo + n) (cap := cap) h (by simpa using hh) (by omega)
  unfold RdB
  rw [List.map_take, List.map_drop]
  rw [List.drop_take, Nat.add_sub_cancel_left] at this
  exact this

set_option maxHeartbeats 1000000 in
theorem getBytes_any (A : Option Addr) (cap : Nat) (l : List UInt8) (w : World) (B : Nat) (hr : RdB w B A l) (hc : l.length ≤ cap) (hm : cap ≤ maxLen) :
    Calls Try.prog 26 #[.slice A l.length cap] w fun e w' => e = .returned (S3 (bs (M.getB l).1) (M.getB l).2.1 (M.getB l).2.2) ∧ w = w' := by
  have hgi := getLength_any A cap l w B 1 hr hc hm (by omega) (by omega)
  unfold maxLen at hm
  have hok := M.getLen_ok l 1 (by omega)
  have hok2 := M.getI_ok l
  obtain ⟨r, hR⟩ : ∃ r, r = M.getB l := ⟨_, rfl⟩
  rw [← hR]
  unfold M.getB at hR
  obtain ⟨⟨N, U, E⟩, hg⟩ : ∃ g, g = M.getLen l 1 := ⟨_, rfl⟩
  rw [← hg] at hok hR hgi
  simp only at hok hR hgi
  have Hgi := Lib.hid hgi
  have HR := Lib.hid hR
  have Hok := Lib.hid hok
  have Hok2 := Lib.hid hok2
  have Hr := Lib.hid hr
  clear hgi hR hok hg hok2 hr
  go_enter Try.func26, Try.ntmps26
  go_wp2_with fail
  refine Hgi.out.mono ?_
  rintro e w' ⟨rfl, rfl⟩
  unfold I3
  by_cases hE : E = 0
  · subst hE
    have hR := HR.out
    rw [if_neg (by simp)] at hR
    obtain ⟨h1, h2, h3, h4, h5⟩ := Hok.out rfl
    obtain ⟨-, h6, -, -⟩ := Hok2.out h1
    rw [← h2] at h4 h5
    rw [← h3] at h5 h6
    obtain ⟨n, rfl⟩ := Int.eq_ofNat_of_zero_le h4
    have hUn : U + n ≤ l.length := by omega
    rw [Int.toNat_natCast] at hR
    have hsl := cut_lh w A l.length cap U (U + n) U ((U : Int) + n) rfl (by omega) (by omega) (by omega)
    rw [Nat.add_sub_cancel_left] at hsl
    have hpart := Hr.out.part (lo := U) (n := n) hUn hc
    obtain ⟨q, hq⟩ : ∃ q, q = (l.drop U).take n := ⟨_, rfl⟩
    have hql : q.length = n := by rw [hq]; simp; omega
    rw [← hq] at hpart hR
    have hcv := conv_bytes w B _ q (cap - U) hpart
    rw [hql] at hcv
    obtain ⟨A', hA'⟩ : ∃ A', A' = cutA A U cap := ⟨_, rfl⟩
    rw [← hA'] at hsl hcv
    have HR2 := Lib.hid hR
    clear hR HR h1 h2 h3 h5 hpart hq hA' hql
    go_wp2_with fail
    go_ret3
    exact ⟨by rw [HR2.out]; rfl, rfl⟩
  · have hne : ((E : Int) != 0) = true := by simp; omega
    have hR := HR.out
    rw [if_pos hE] at hR
    have HR2 := Lib.hid hR
    clear hR HR
    go_wp2_with fail
    go_ret3
    exact ⟨by rw [HR2.out]; rfl, rfl⟩
end Go.Proofs.Ytacgekhphhhmpaa
