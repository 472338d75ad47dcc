/- The reference's GetInts and GetStrings. -/
import Derived.Test.YtacgekhphhhmpaaWireRh
namespace Go.Proofs.Ytacgekhphhhmpaa
open Go.RowKit
set_option linter.unusedVariables false

/-- A decoded list in a new row, or the error. -/
def GotRef {α : Type} (e : TypeId) (size : Nat) (cells : List α → List Value) (r : List α × Nat × Nat) (w : World) (en : Ending) (w' : World) : Prop :=
  ∃ v, en = .returned (.tuple #[v, .int .i64 r.2.1, .int .i64 r.2.2]) ∧ w'.ownsRow w.heap.size e size v r.1.length (cells r.1) ∧ Below w.heap.size w w'

set_option maxHeartbeats 2000000 in
set_option maxRecDepth 100000 in
theorem refGetInts_any (A : Option Addr) (cap : Nat) (l : List UInt8) (w : World) (hr : RdB w w.heap.size A l) (hc : l.length ≤ cap) (hm : cap ≤ maxLen) (hl : l.length ≤ 1000000000) :
    Calls Try.prog 29 #[.slice A l.length cap] w (GotRef 3 1 (List.map iv) (M.getLs M.getI 1 l) w) := by
  obtain ⟨i0, hi, hz0, hz1, hz2⟩ := info_parts info_int
  have hgi := refCount1_any A cap l w hr hc hm hl
  have hok := M.getLen_ok l 1 (by omega)
  have hok2 := M.getI_ok l
  have hz := M.getLs_zero M.getI 1 l
  have hof := M.getLs_of M.getI 1 l
  have her := M.getLs_err M.getI 1 l
  obtain ⟨R, hR⟩ : ∃ R, R = M.getLs M.getI 1 l := ⟨_, rfl⟩
  rw [← hR] at hz hof her ⊢
  obtain ⟨⟨N, U, E⟩, hg⟩ : ∃ g, g = M.getLen l 1 := ⟨_, rfl⟩
  rw [← hg] at hok hgi hof her
  simp only at hok hgi hof her
  have hm2 := hm
  unfold maxLen at hm2
  have Hgi := Lib.hid hgi
  have Hok := Lib.hid hok
  have Hok2 := Lib.hid hok2
  have Hof := Lib.hid hof
  have Her := Lib.hid her
  have Hr := Lib.hid hr
  clear hgi hR hok hg hok2 hr hof her hz
  go_enter Try.func29, Try.ntmps29
  go_wp2_with fail
  refine Hgi.out.mono ?_
  rintro e w1 ⟨rfl, hb1⟩
  unfold I3
  by_cases hE : E = 0
  · subst hE
    obtain ⟨h1, h2, h3, h4, h5⟩ := Hok.out rfl
    obtain ⟨-, h6, -, -⟩ := Hok2.out h1
    rw [← h2] at h4 h5
    rw [← h3] at h5 h6
    obtain ⟨n, rfl⟩ := Int.eq_ofNat_of_zero_le h4
    have hUn : U + n ≤ l.length := by omega
    have hst := Hof.out rfl _ rfl
    rw [Int.toNat_natCast] at hst
    have Hst := Lib.hid hst
    clear h1 h2 h3 h4 h5 h6 hst Hok Hok2 Hof Her
    go_wp2_with fail
    go_loopw [6, 8, 9] (fun u x i wr => ∃ (k : Nat) (L : List _) (at' : Nat), k ≤ n ∧ i = .int .i64 k ∧ u = .int .i64 at' ∧ at' ≤ l.length ∧ L.length = k ∧ R = M.comb L at' (M.decN M.getI (n - k) (l.drop at')) ∧
        wr.ownsRow w.heap.size 3 1 x k (L.map iv) ∧ Below w.heap.size w wr) (fun _ _ i _ => n - (intOf i).toNat)
    case atStart => exact ⟨0, [], U, Nat.zero_le _, rfl, rfl, by omega, rfl, Hst.out, own_nil _ _ _ _, hb1⟩
    case round =>
      obtain ⟨k, L, u, hk, rfl, rfl, hu, hL, hcomb, hown, hbel⟩ := hrel
      by_cases hlt : k < n
      · have i1 : (k : Int) < n := by omega
        have hsl := fun W => cut_l W A l.length cap u u rfl hu hc
        obtain ⟨q, hq⟩ : ∃ q, q = l.drop u := ⟨_, rfl⟩
        have hql : l.length - u = q.length := by rw [hq, List.length_drop]
        have hrq : RdB wr wr.heap.size (cutA A u cap) q := by
          have h0 : RdB wr wr.heap.size A l := (Hr.out.below hbel).more hbel.size
          have := Rd.drop (lo := u) (cap := cap) h0 (by simpa using hc)
          rw [← List.map_drop, ← hq] at this
          exact this
        obtain ⟨A5, hA5⟩ : ∃ A5, A5 = cutA A u cap := ⟨_, rfl⟩
        rw [← hA5, hql] at hsl
        rw [← hA5] at hrq
        have hcall := refGetInt_any A5 (cap - u) q wr hrq (by omega) (by omega)
        have hcerr := M.comb_err M.getI L u (n - k - 1) q
        have hcok := M.comb_ok M.getI L u (n - k - 1) q
        have hnk : n - k = n - k - 1 + 1 := by omega
        rw [← hq, hnk] at hcomb
        rw [← hcomb] at hcerr hcok
        have hused := M.getI_used q
        obtain ⟨⟨X, UU, EE⟩, hgq⟩ : ∃ r, r = M.getI q := ⟨_, rfl⟩
        skip
        rw [← hgq] at hcall hused hcerr hcok
        simp only at hcall hused hcerr hcok
        rw [hq, List.drop_drop] at hcok
        have Hcall := Lib.hid hcall
        have Hcerr := Lib.hid hcerr
        have Hcok := Lib.hid hcok
        have hkm : k + 1 ≤ maxLen := by unfold maxLen; omega
        have huq : u + UU ≤ l.length := by omega
        clear hcall hcerr hcok hcomb hgq hrq hA5 hq
        go_wp2_with fail
        refine Hcall.out.mono ?_
        rintro e w2 ⟨rfl, hb2⟩
        unfold I3
        have hbe2 := hbel.trans (hb2.mono hbel.size)
        have hB2 := hbe2.size
        have hown2 := own_below hown hb2 (Nat.le_refl _)
        by_cases hEE : EE = 0
        · subst hEE
          have hc2 := Hcok.out rfl
          have Hc2 := Lib.hid hc2
          clear hc2 Hcok Hcerr Hcall hown
          go_wp2_with (at_builtin; refine wpList_append_own _ rfl (.tmp 38) (.tmp 40) 22 rfl w.heap.size 3 i0 (.int .i64 0) 1 8 Try.underlying22 hi hz0 hz1 hz2 rfl (by decide) _ k (L.map iv) rfl (hown2.alloc _) ⟨w2.heap.size, 0, none⟩ 1 1 [.int .i64 X] rfl rfl (cell_one _ _ _) (by intro u hu; simp at hu; subst hu; rfl) hkm (by omega) (by simp; omega) ?_; intro v3 w3 hown3 hgrow _; have hb3 := (hbe2.alloc hB2 (.cells #[.int .i64 X] 3)).grown hgrow (by simp; omega) (fun k hk => (hown2.lt k hk).1))
          go_roundw
          case rel =>
            refine ⟨k + 1, L ++ [X], u + UU, by omega, by go_num, by go_num, huq, by rw [List.length_append, hL]; rfl, ?_, ?_, hb3⟩
            · rw [show n - (k + 1) = n - k - 1 by omega]; exact Hc2.out
            · rw [List.map_append]; exact hown3
          case measure => simp [intOf]; omega
        · have hEE1 : ((EE : Int) != 0) = true := by simp; omega
          have hc2 := Hcerr.out hEE
          have Hc2 := Lib.hid hc2
          clear hc2 Hcok Hcerr Hcall hown
          go_wp2_with fail
          go_ret3
          exact ⟨_, by rw [Hc2.out]; rfl, by rw [Hc2.out]; exact own_nil _ _ _ _, hbe2⟩
      · obtain rfl : k = n := by omega
        have hend : R = (L, u, 0) := by rw [hcomb, Nat.sub_self, M.comb_end]
        have Hend := Lib.hid hend
        clear hcomb hend
        go_wp2_with fail
        go_ret3
        exact ⟨_, by rw [Hend.out]; rfl, by rw [Hend.out]; simp only [hL]; exact hown, hbel⟩
  · have hne : ((E : Int) != 0) = true := by simp; omega
    have hR := Her.out hE
    have HR2 := Lib.hid hR
    clear hR Her Hof
    go_wp2_with fail
    go_ret3
    exact ⟨_, by rw [HR2.out]; rfl, by rw [HR2.out]; exact own_nil _ _ _ _, hb1⟩

set_option maxHeartbeats 2000000 in
set_option maxRecDepth 100000 in
theorem refGetStrings_any (A : Option Addr) (cap : Nat) (l : List UInt8) (w : World) (hr : RdB w w.heap.size A l) (hc : l.length ≤ cap) (hm : cap ≤ maxLen) (hl : l.length ≤ 1000000000) :
    Calls Try.prog 32 #[.slice A l.length cap] w (GotRef 9 1 (List.map sv) (M.getLs gS 1 l) w) := by
  obtain ⟨i0, hi, hz0, hz1, hz2⟩ := info_parts info_str
  have hgi := refCount1_any A cap l w hr hc hm hl
  have hok := M.getLen_ok l 1 (by omega)
  have hok2 := M.getI_ok l
  have hz := M.getLs_zero gS 1 l
  have hof := M.getLs_of gS 1 l
  have her := M.getLs_err gS 1 l
  obtain ⟨R, hR⟩ : ∃ R, R = M.getLs gS 1 l := ⟨_, rfl⟩
  rw [← hR] at hz hof her ⊢
  obtain ⟨⟨N, U, E⟩, hg⟩ : ∃ g, g = M.getLen l 1 := ⟨_, rfl⟩
  rw [← hg] at hok hgi hof her
  simp only at hok hgi hof her
  have hm2 := hm
  unfold maxLen at hm2
  have Hgi := Lib.hid hgi
  have Hok := Lib.hid hok
  have Hok2 := Lib.hid hok2
  have Hof := Lib.hid hof
  have Her := Lib.hid her
  have Hr := Lib.hid hr
  clear hgi hR hok hg hok2 hr hof her hz
  go_enter Try.func32, Try.ntmps32
  go_wp2_with fail
  refine Hgi.out.mono ?_
  rintro e w1 ⟨rfl, hb1⟩
  unfold I3
  by_cases hE : E = 0
  · subst hE
    obtain ⟨h1, h2, h3, h4, h5⟩ := Hok.out rfl
    obtain ⟨-, h6, -, -⟩ := Hok2.out h1
    rw [← h2] at h4 h5
    rw [← h3] at h5 h6
    obtain ⟨n, rfl⟩ := Int.eq_ofNat_of_zero_le h4
    have hUn : U + n ≤ l.length := by omega
    have hst := Hof.out rfl _ rfl
    rw [Int.toNat_natCast] at hst
    have Hst := Lib.hid hst
    clear h1 h2 h3 h4 h5 h6 hst Hok Hok2 Hof Her
    go_wp2_with fail
    go_loopw [6, 8, 9] (fun u x i wr => ∃ (k : Nat) (L : List _) (at' : Nat), k ≤ n ∧ i = .int .i64 k ∧ u = .int .i64 at' ∧ at' ≤ l.length ∧ L.length = k ∧ R = M.comb L at' (M.decN gS (n - k) (l.drop at')) ∧
        wr.ownsRow w.heap.size 9 1 x k (L.map sv) ∧ Below w.heap.size w wr) (fun _ _ i _ => n - (intOf i).toNat)
    case atStart => exact ⟨0, [], U, Nat.zero_le _, rfl, rfl, by omega, rfl, Hst.out, own_nil _ _ _ _, hb1⟩
    case round =>
      obtain ⟨k, L, u, hk, rfl, rfl, hu, hL, hcomb, hown, hbel⟩ := hrel
      by_cases hlt : k < n
      · have i1 : (k : Int) < n := by omega
        have hsl := fun W => cut_l W A l.length cap u u rfl hu hc
        obtain ⟨q, hq⟩ : ∃ q, q = l.drop u := ⟨_, rfl⟩
        have hql : l.length - u = q.length := by rw [hq, List.length_drop]
        have hrq : RdB wr wr.heap.size (cutA A u cap) q := by
          have h0 : RdB wr wr.heap.size A l := (Hr.out.below hbel).more hbel.size
          have := Rd.drop (lo := u) (cap := cap) h0 (by simpa using hc)
          rw [← List.map_drop, ← hq] at this
          exact this
        obtain ⟨A5, hA5⟩ : ∃ A5, A5 = cutA A u cap := ⟨_, rfl⟩
        rw [← hA5, hql] at hsl
        rw [← hA5] at hrq
        have hcall := refGetBytes_any A5 (cap - u) q wr hrq (by omega) (by omega) (by omega)
        have hcerr := M.comb_err gS L u (n - k - 1) q
        have hcok := M.comb_ok gS L u (n - k - 1) q
        have hnk : n - k = n - k - 1 + 1 := by omega
        rw [← hq, hnk] at hcomb
        rw [← hcomb] at hcerr hcok
        have hused := getB_used q
        obtain ⟨⟨X, UU, EE⟩, hgq⟩ : ∃ r, r = M.getB q := ⟨_, rfl⟩
        have hgs : gS q = (bs X, UU, EE) := by unfold gS; rw [← hgq]
        rw [hgs] at hcerr hcok
        rw [← hgq] at hcall hused
        simp only at hcall hused hcerr hcok
        rw [hq, List.drop_drop] at hcok
        have Hcall := Lib.hid hcall
        have Hcerr := Lib.hid hcerr
        have Hcok := Lib.hid hcok
        have hkm : k + 1 ≤ maxLen := by unfold maxLen; omega
        have huq : u + UU ≤ l.length := by omega
        clear hcall hcerr hcok hcomb hgq hrq hA5 hq
        go_wp2_with fail
        refine Hcall.out.mono ?_
        rintro e w2 ⟨rfl, hb2⟩
        unfold S3
        have hbe2 := hbel.trans (hb2.mono hbel.size)
        have hB2 := hbe2.size
        have hown2 := own_below hown hb2 (Nat.le_refl _)
        by_cases hEE : EE = 0
        · subst hEE
          have hc2 := Hcok.out rfl
          have Hc2 := Lib.hid hc2
          clear hc2 Hcok Hcerr Hcall hown
          go_wp2_with (at_builtin; refine wpList_append_own _ rfl (.tmp 38) (.tmp 40) 23 rfl w.heap.size 9 i0 (.string ByteArray.empty) 1 16 Try.underlying23 hi hz0 hz1 hz2 rfl (by decide) _ k (L.map sv) rfl (hown2.alloc _) ⟨w2.heap.size, 0, none⟩ 1 1 [.string (bs X)] rfl rfl (cell_one _ _ _) (by intro u hu; simp at hu; subst hu; rfl) hkm (by omega) (by simp; omega) ?_; intro v3 w3 hown3 hgrow _; have hb3 := (hbe2.alloc hB2 (.cells #[.string (bs X)] 9)).grown hgrow (by simp; omega) (fun k hk => (hown2.lt k hk).1))
          go_roundw
          case rel =>
            refine ⟨k + 1, L ++ [bs X], u + UU, by omega, by go_num, by go_num, huq, by rw [List.length_append, hL]; rfl, ?_, ?_, hb3⟩
            · rw [show n - (k + 1) = n - k - 1 by omega]; exact Hc2.out
            · rw [List.map_append]; exact hown3
          case measure => simp [intOf]; omega
        · have hEE1 : ((EE : Int) != 0) = true := by simp; omega
          have hc2 := Hcerr.out hEE
          have Hc2 := Lib.hid hc2
          clear hc2 Hcok Hcerr Hcall hown
          go_wp2_with fail
          go_ret3
          exact ⟨_, by rw [Hc2.out]; rfl, by rw [Hc2.out]; exact own_nil _ _ _ _, hbe2⟩
      · obtain rfl : k = n := by omega
        have hend : R = (L, u, 0) := by rw [hcomb, Nat.sub_self, M.comb_end]
        have Hend := Lib.hid hend
        clear hcomb hend
        go_wp2_with fail
        go_ret3
        exact ⟨_, by rw [Hend.out]; rfl, by rw [Hend.out]; simp only [hL]; exact hown, hbel⟩
  · have hne : ((E : Int) != 0) = true := by simp; omega
    have hR := Her.out hE
    have HR2 := Lib.hid hR
    clear hR Her Hof
    go_wp2_with fail
    go_ret3
    exact ⟨_, by rw [HR2.out]; rfl, by rw [HR2.out]; exact own_nil _ _ _ _, hb1⟩
end Go.Proofs.Ytacgekhphhhmpaa
