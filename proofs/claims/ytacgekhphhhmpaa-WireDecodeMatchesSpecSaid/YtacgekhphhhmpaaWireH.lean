/- The contract of wire.getList, for whatever closure. -/
import Derived.Test.YtacgekhphhhmpaaWireG
namespace Go.Proofs.Ytacgekhphhhmpaa
open Go.RowKit
set_option linter.unusedVariables false

def I2 (a b : Int) : Value := .tuple #[.int .i64 a, .int .i64 b]
def ListPost {α : Type} (B : Nat) (Inv : World → List α → Prop) (r : List α × Nat × Nat) (w : World) (e : Ending) (w' : World) : Prop :=
  e = .returned (I2 r.2.1 r.2.2) ∧ Below B w w' ∧ (r.2.2 = 0 → Inv w' r.1)
def StepPost {α : Type} (B : Nat) (Inv : World → List α → Prop) (L : List α) (a : α × Nat × Nat) (w : World) (e : Ending) (w' : World) : Prop :=
  e = .returned (I2 a.2.1 a.2.2) ∧ Below B w w' ∧ Inv w' (L ++ [a.1])

set_option maxHeartbeats 2000000 in
theorem getList_any {α : Type} (F : FuncId) (cv : Value) (g : List UInt8 → α × Nat × Nat) (Inv : World → List α → Prop) (B : Nat) (hcf : ∀ (args : Array Value) (W : World), (callFunc F args).run Try.prog W = .ok (.enter F args) W)
    (hF : ∀ (W : World) (A : Option Addr) (c : Nat) (q : List UInt8) (L : List α), RdB W B A q → q.length ≤ c → c ≤ maxLen → L.length ≤ 1000000000 → Inv W L →
      Calls Try.prog F #[.slice A q.length c, cv] W (StepPost B Inv L (g q) W))
    (hg : ∀ q, (g q).2.1 ≤ q.length)
    (A : Option Addr) (cap : Nat) (l : List UInt8) (w : World) (size : Nat) (hr : RdB w B A l) (hc : l.length ≤ cap) (hm : cap ≤ maxLen) (h1 : 1 ≤ size) (h2 : size ≤ 16) (hl : l.length ≤ 1000000000) (hI : Inv w []) :
    Calls Try.prog 42 #[.slice A l.length cap, .int .i64 size, .func (.func F) #[] #[cv]] w (ListPost B Inv (M.getLs g size l) w) := by
  have hgi := getLength_any A cap l w B size hr hc hm h1 h2
  unfold maxLen at hm
  have hok := M.getLen_ok l size h1
  have hok2 := M.getI_ok l
  have herr := M.getLs_err g size l
  have hof := M.getLs_of g size l
  obtain ⟨r, hR⟩ : ∃ r, r = M.getLs g size l := ⟨_, rfl⟩
  rw [← hR] at herr hof ⊢
  obtain ⟨⟨N, U, E⟩, hlen⟩ : ∃ x, x = M.getLen l size := ⟨_, rfl⟩
  rw [← hlen] at hok hgi herr hof
  simp only at hok hgi herr hof
  have Hgi := Lib.hid hgi
  have Hok := Lib.hid hok
  have Hok2 := Lib.hid hok2
  have Herr := Lib.hid herr
  have Hof := Lib.hid hof
  have Hr := Lib.hid hr
  have HF := Lib.hid hF
  have Hg := Lib.hid hg
  have HI := Lib.hid hI
  clear hgi hok hok2 herr hof hr hR hF hg hlen hI
  go_enter Try.func42, Try.ntmps42
  go_wp2_with fail
  refine Hgi.out.mono ?_
  rintro e w' ⟨rfl, rfl⟩
  unfold I3
  by_cases hE : E = 0
  · subst hE
    obtain ⟨e1, e2, e3, e4, e5⟩ := Hok.out rfl
    obtain ⟨-, e6, -, -⟩ := Hok2.out e1
    rw [← e2] at e4 e5
    rw [← e3] at e5 e6
    obtain ⟨n, rfl⟩ := Int.eq_ofNat_of_zero_le e4
    have hn : (n : Int) ≤ (l.length : Int) - U := by
      have : (n : Int) * 1 ≤ (n : Int) * size := Int.mul_le_mul_of_nonneg_left (by omega) (by omega)
      omega
    have hof2 : ∀ q, M.comb [] U (M.decN g n (l.drop U)) = q → r = q := fun q hq => by rw [← hq]; exact Hof.out rfl _ (by rw [Int.toNat_natCast])
    have Hof2 := Lib.hid hof2
    clear hof2 e1 e2 e3 e5
    go_wp2_with fail
    go_loopw [9, 24] (fun x i wr => ∃ (k u : Nat) (L : List α), k ≤ n ∧ i = .int .i64 k ∧ x = .int .i64 u ∧ u ≤ l.length ∧ L.length = k ∧ Below B w wr ∧ Inv wr L ∧
      M.comb [] U (M.decN g n (l.drop U)) = M.comb L u (M.decN g (n - k) (l.drop u))) (fun _ i _ => n - (intOf i).toNat)
    case atStart => exact ⟨0, U, [], Nat.zero_le _, rfl, rfl, e6, rfl, Below.refl _ _, HI.out, rfl⟩
    case round =>
      obtain ⟨k, u, L, hk, rfl, rfl, hu, hL, hbel, hinv, hcomb⟩ := hrel
      have Hcomb := Lib.hid hcomb
      have HL := Lib.hid hL
      have hL2 : L.length ≤ n := by omega
      clear hcomb hL
      by_cases hlt : k < n
      · have hsl := cut_l wr A l.length cap u u rfl hu hc
        have hpart : RdB wr B (cutA A u cap) (l.drop u) := by
          have := (Rd.drop (lo := u) (cap := cap) Hr.out (by simpa using hc)).below hbel
          rw [← List.map_drop] at this
          exact this
        obtain ⟨q, hq⟩ : ∃ q, q = l.drop u := ⟨_, rfl⟩
        have hql : q.length = l.length - u := by rw [hq]; simp
        rw [← hq] at hpart
        have hFq := HF.out wr (cutA A u cap) (cap - u) q L hpart (by omega) (by unfold maxLen; omega) (by omega) hinv
        have hgq := Hg.out q
        rw [hql] at hFq
        obtain ⟨A', hA'⟩ : ∃ A', A' = cutA A u cap := ⟨_, rfl⟩
        rw [← hA'] at hsl hFq
        obtain ⟨a, ha⟩ : ∃ a, a = g q := ⟨_, rfl⟩
        rw [← ha] at hFq hgq
        have HFq := Lib.hid hFq
        have Hq := Lib.hid hq
        have Hql := Lib.hid hql
        have Ha := Lib.hid ha
        have hgq2 : a.2.1 ≤ l.length - u := by omega
        clear hFq hq hql ha hpart hA' hgq
        have Hcf := hcf #[.slice A' (l.length - u) (cap - u), cv] wr
        go_wp2_with fail
        refine HFq.out.mono ?_
        rintro e w1 ⟨rfl, hb1, hi1⟩
        unfold I2
        have hq1 := Hq.out
        have ha1 := Ha.out
        have hc1 := Hcomb.out
        have hkn : n - k = n - (k + 1) + 1 := by omega
        rw [hkn, ← hq1] at hc1
        by_cases hae : a.2.2 = 0
        · rw [M.comb_ok g L u _ q (by rw [← ha1]; exact hae), ← ha1, hq1, List.drop_drop] at hc1
          have Hc1 := Lib.hid hc1
          have Hae := Lib.hid hae
          have hae' : ((a.2.2 : Int) != 0) = false := by rw [hae]; rfl
          clear hq1 ha1 hc1 hkn hae Hcf
          go_wp2_with fail
          go_roundw
          case rel => exact ⟨k + 1, u + a.2.1, L ++ [a.1], by omega, by go_num, by go_num, by omega, by rw [List.length_append, HL.out]; rfl, hbel.trans hb1, hi1, Hc1.out⟩
          case measure => simp [intOf]; omega
        · rw [M.comb_err g L u _ q (by rw [← ha1]; exact hae), ← ha1] at hc1
          have hr1 := Hof2.out _ hc1
          have Hr1 := Lib.hid hr1
          have hae' : ((a.2.2 : Int) != 0) = true := by simp; omega
          clear hq1 ha1 hc1 hkn Hcf hr1
          go_wp2_with fail
          go_ret2
          exact ⟨by rw [Hr1.out]; rfl, hbel.trans hb1, fun h => absurd (by rw [Hr1.out] at h; exact h) hae⟩
      · obtain rfl : k = n := by omega
        have hc1 := Hcomb.out
        rw [Nat.sub_self, M.comb_end] at hc1
        have Hr1 := Lib.hid (Hof2.out _ hc1)
        clear hc1
        go_wp2_with fail
        go_ret2
        exact ⟨by rw [Hr1.out]; rfl, hbel, fun _ => by rw [Hr1.out]; exact hinv⟩
  · have hne : ((E : Int) != 0) = true := by simp; omega
    have HR := Lib.hid (Herr.out hE)
    go_wp2_with fail
    go_ret2
    exact ⟨by rw [HR.out]; rfl, Below.refl _ _, fun h => absurd (by rw [HR.out] at h; exact h) hE⟩
end Go.Proofs.Ytacgekhphhhmpaa
