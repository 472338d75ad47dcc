/- The walk of HashOfSeparates. -/
import Derived.Test.YtmlnpnlajgnohaaDoorHashW
import Derived.Test.YtmlnpnlajgnohaaDoorHashU
import Derived.Test.YtmlnpnlajgnohaaDoorOpen
import Derived.Test.YtmlnpnlajgnohaaDoorWireMathE
namespace Go.Proofs.YtmlnpnlajgnohaaDoor
open Go.RowKit
set_option linter.unusedVariables false

theorem encB_inj (s t u v : List UInt8) (hs : s.length ≤ 1000) (ht : t.length ≤ 1000) (h : M.encB s ++ u = M.encB t ++ v) : s = t ∧ u = v := by
  unfold M.encB at h
  have hI : ∀ n : Nat, n ≤ 1000 → M.I64 n := fun n hn => M.I64_nat n (by omega)
  rw [List.append_assoc, List.append_assoc] at h
  have hl := M.encI_inj _ _ (hI _ hs) (hI _ ht) _ _ h
  rw [hl] at h
  have h2 := List.append_cancel_left h
  have hl2 : s.length = t.length := by omega
  exact List.append_inj h2 hl2
theorem sb_inj {a b : ByteArray} (h : sb a = sb b) : a = b := by rw [← bs_sb a, ← bs_sb b, h]
theorem encP_pos (s : ByteArray) : 0 < (encP s).length := by
  unfold encP M.encB
  have := M.encI_pos (sb s).length
  rw [List.length_append]
  omega
theorem flat_inj : ∀ la lb : List ByteArray, (∀ s ∈ la, s.size ≤ 400) → (∀ s ∈ lb, s.size ≤ 400) → la.flatMap encP = lb.flatMap encP → la = lb := by
  intro la
  induction la with
  | nil =>
    intro lb _ _ h
    cases lb with
    | nil => rfl
    | cons t lb =>
      exfalso
      have := congrArg List.length h
      have hp := encP_pos t
      simp only [List.flatMap_nil, List.flatMap_cons, List.length_append, List.length_nil] at this
      omega
  | cons s la ih =>
    intro lb ha hb h
    cases lb with
    | nil =>
      exfalso
      have := congrArg List.length h
      have hp := encP_pos s
      simp only [List.flatMap_nil, List.flatMap_cons, List.length_append, List.length_nil] at this
      omega
    | cons t lb =>
      rw [List.flatMap_cons, List.flatMap_cons] at h
      obtain ⟨h1, h2⟩ := encB_inj _ _ _ _ (by rw [sb_len]; have := ha s (by simp); omega) (by rw [sb_len]; have := hb t (by simp); omega) h
      rw [sb_inj h1, ih lb (fun x hx => ha x (by simp [hx])) (fun x hx => hb x (by simp [hx])) h2]
theorem tagB_u8 (x : UInt8) : tagB (x.toNat : Int) = x := by
  unfold tagB
  have := x.toNat_lt
  rw [show ((x.toNat : Int) % 256).toNat = x.toNat by omega]
  simp
theorem inp_inj (x y : UInt8) (la lb : List ByteArray) (ha : ∀ s ∈ la, s.size ≤ 400) (hb : ∀ s ∈ lb, s.size ≤ 400) : inp x.toNat la = inp y.toNat lb ↔ x = y ∧ la = lb := by
  constructor
  · intro h
    unfold inp at h
    rw [tagB_u8, tagB_u8] at h
    injection h with h1 h2
    exact ⟨h1, flat_inj la lb ha hb h2⟩
  · rintro ⟨rfl, rfl⟩; rfl

/-- What stays while a walk goes on. -/
def St (w : World) (ps : List (Option Addr × List Value)) (W : World) : Prop := Below w.heap.size w W ∧ HTab W ∧ Mem W ps
theorem St.step {w W W' : World} {ps : List (Option Addr × List Value)} (h : St w ps W) (hb : Below W.heap.size W W') : St w ps W' := ⟨h.1.trans (hb.mono h.1.size), h.2.1.next hb, h.2.2.step hb⟩
theorem St.add {w W : World} {ps : List (Option Addr × List Value)} {A : Option Addr} {l : List Value} (h : St w ps W) (hr : Rd W W.heap.size A l) : St w ((A, l) :: ps) W := ⟨h.1, h.2.1, h.2.2.add hr⟩
theorem St.get {w W : World} {ps : List (Option Addr × List Value)} (h : St w ps W) (A : Option Addr) (l : List Value) (hp : (A, l) ∈ ps) : Rd W W.heap.size A l := h.2.2.get A l hp
theorem Blk.rd {w : World} {b : Nat} {vs : List Value} {t : TypeId} (h : Blk w b vs t) : Rd w w.heap.size (some ⟨b, 0, none⟩) vs := fun _ => ⟨b, 0, rfl, h.lt, fun j u hu => by rw [Nat.zero_add]; exact h.cell j u hu⟩

set_option maxHeartbeats 4000000 in
set_option maxRecDepth 100000 in
theorem separates_walk (l : List UInt8) (A : Option Addr) (la : List ByteArray) (ca : Nat) (B : Option Addr) (lb : List ByteArray) (cb : Nat) (W : World) (hl : l.length = 2) (hT : HTab W)
    (hra : Rd W W.heap.size A (la.map sv)) (hrb : Rd W W.heap.size B (lb.map sv)) (hma : la.length ≤ maxLen) (hmb : lb.length ≤ maxLen) :
    Calls Tryd.prog 8 #[.agg (l.map bv).toArray, .slice A la.length ca, .slice B lb.length cb] W (Tells true W) := by
  obtain ⟨x, y, rfl⟩ : ∃ x y, l = [x, y] := by
    match l, hl with
    | [x, y], _ => exact ⟨x, y, rfl⟩
  show Calls _ _ #[.agg #[.int .u8 (x.toNat : Int), .int .u8 (y.toNat : Int)], _, _] _ _
  obtain ⟨W0, hW0⟩ : ∃ W0, W0 = W.alloc (.cells #[.int .u8 (x.toNat : Int), .int .u8 (y.toNat : Int)] 48) := ⟨_, rfl⟩
  have hbel0 : Below W.heap.size W W0 := by rw [hW0]; exact (Below.refl _ _).alloc (Nat.le_refl _) _
  have hbt : Blk W0 W.heap.size [.int .u8 (x.toNat : Int), .int .u8 (y.toNat : Int)] 48 := by rw [hW0]; exact Blk.new W _ _
  have K0 : Hid (St W [(some ⟨W.heap.size, 0, none⟩, [.int .u8 (x.toNat : Int), .int .u8 (y.toNat : Int)]), (A, la.map sv), (B, lb.map sv)] W0) :=
    Lib.hid ((St.step (w := W) (ps := [(A, la.map sv), (B, lb.map sv)]) ⟨Below.refl _ _, hT, (Mem.one hrb).add hra⟩ hbel0).add hbt.rd)
  have HW0 := Lib.hid hW0
  clear hW0 hbel0 hbt hra hrb hT hl
  generalize hV : W.heap.size = V at K0
  obtain ⟨fa, hfa⟩ : ∃ fa, fa = fewB la := ⟨_, rfl⟩
  obtain ⟨fb, hfb⟩ : ∃ fb, fb = fewB lb := ⟨_, rfl⟩
  have cFa := fun (W : World) (h : Rd W W.heap.size A (la.map sv)) => few_any A ca la W h hma
  have cFb := fun (W : World) (h : Rd W W.heap.size B (lb.map sv)) => few_any B cb lb W h hmb
  rw [← hfa] at cFa
  rw [← hfb] at cFb
  have CFa := Lib.hid cFa
  have CFb := Lib.hid cFb
  have Hfa := Lib.hid hfa
  have Hfb := Lib.hid hfb
  clear cFa cFb hfa hfb
  go_enter Tryd.func8, Tryd.ntmps8
  go_wp2_with fail
  rw [← HW0.out]
  refine (sanity_any W0 K0.out.2.1).mono ?_
  rintro e w1 ⟨rfl, hb1⟩
  have K1 := Lib.hid (K0.out.step hb1)
  clear hb1 K0 HW0 hV
  go_wp2_with fail
  refine (CFa.out w1 (K1.out.get A _ (by simp))).mono ?_
  rintro e w2 ⟨rfl, hb1⟩
  have K2 := Lib.hid (K1.out.step hb1)
  clear hb1 K1
  cases fa with
  | false =>
    go_wp2_with fail
    go_ret
    exact ⟨rfl, K2.out.1⟩
  | true =>
  go_wp2_with fail
  refine (CFb.out w2 (K2.out.get B _ (by simp))).mono ?_
  rintro e w3 ⟨rfl, hb1⟩
  have K3 := Lib.hid (K2.out.step hb1)
  clear hb1 K2
  cases fb with
  | false =>
    go_wp2_with fail
    go_ret
    exact ⟨rfl, K3.out.1⟩
  | true =>
  clear CFa CFb
  have fwa := (fewB_iff la).1 Hfa.out.symm
  have fwb := (fewB_iff lb).1 Hfb.out.symm
  obtain ⟨na, hna⟩ : ∃ na, na = la.length := ⟨_, rfl⟩
  obtain ⟨nb, hnb⟩ : ∃ nb, nb = lb.length := ⟨_, rfl⟩
  rw [← hna] at hma fwa ⊢
  rw [← hnb] at hmb fwb ⊢
  have ha12 := fwa.1
  have hb12 := fwb.1
  have Fa := Lib.hid (And.intro hna fwa.2)
  have Fb := Lib.hid (And.intro hnb fwb.2)
  have cx : w3.cell? ⟨V, 0, none⟩ = some (.int .u8 (x.toNat : Int)) := (K3.out.get (some ⟨V, 0, none⟩) [.int .u8 (x.toNat : Int), .int .u8 (y.toNat : Int)] (.head _)).cellAt 0 _ rfl
  have cy : w3.cell? ⟨V, 1, none⟩ = some (.int .u8 (y.toNat : Int)) := (K3.out.get (some ⟨V, 0, none⟩) [.int .u8 (x.toNat : Int), .int .u8 (y.toNat : Int)] (.head _)).cellAt 1 _ rfl
  obtain ⟨sm0, hsm0⟩ : ∃ sm0, sm0 = decide (x = y ∧ na = nb) := ⟨_, rfl⟩
  have HS0 := Lib.hid hsm0
  clear fwa fwb hna hnb Hfa Hfb hsm0
  go_upto_region 4 with fail
  go_cut [8] from 28 to 40 (fun s wx => s = .bool sm0 ∧ wx = w3)
  case first =>
    by_cases hxy : x = y
    · have e1 : ((x.toNat : Int) == (y.toNat : Int)) = true := by rw [hxy]; simp
      by_cases hn : na = nb
      · have e2 : ((na : Int) == (nb : Int)) = true := by rw [hn]; simp
        have e3 : sm0 = true := by rw [HS0.out]; simp [hxy, hn]
        have E := Lib.hid e3
        clear hxy hn e3
        go_wp2_with fail
        go_meet
        case rel => exact ⟨by rw [E.out], rfl⟩
      · have e2 : ((na : Int) == (nb : Int)) = false := by simp; omega
        have e3 : sm0 = false := by rw [HS0.out]; simp [hn]
        have E := Lib.hid e3
        clear hxy hn e3
        go_wp2_with fail
        go_meet
        case rel => exact ⟨by rw [E.out], rfl⟩
    · have e1 : ((x.toNat : Int) == (y.toNat : Int)) = false := by
        simp only [beq_eq_false_iff_ne, ne_eq]
        intro h
        exact hxy (UInt8.toNat_inj.1 (by omega))
      have e3 : sm0 = false := by rw [HS0.out]; simp [hxy]
      have E := Lib.hid e3
      clear hxy e3
      go_wp2_with fail
      go_meet
      case rel => exact ⟨by rw [E.out], rfl⟩
  case rest =>
    obtain ⟨rfl, rfl⟩ := hcut
    obtain ⟨sm, hsm⟩ : ∃ sm, sm = decide (x = y ∧ la = lb) := ⟨_, rfl⟩
    have HS := Lib.hid hsm
    clear hsm
    go_step
    go_step
    go_cut [8] from 40 to 58 (fun s wx => s = .bool sm ∧ St W [(some ⟨V, 0, none⟩, [.int .u8 (x.toNat : Int), .int .u8 (y.toNat : Int)]), (A, la.map sv), (B, lb.map sv)] wx)
    case first =>
      go_wp2_with fail
      go_loopw [8, 9] (fun s i wr => ∃ (k : Nat) (b : Bool), k ≤ na ∧ i = .int .i64 k ∧ s = .bool b ∧ Hid (b = decide (x = y ∧ na = nb ∧ la.take k = lb.take k)) ∧ St W [(some ⟨V, 0, none⟩, [.int .u8 (x.toNat : Int), .int .u8 (y.toNat : Int)]), (A, la.map sv), (B, lb.map sv)] wr) (fun _ i _ => na - (intOf i).toNat)
      case atStart => exact ⟨0, sm0, Nat.zero_le _, rfl, rfl, Lib.hid (by rw [HS0.out]; simp), K3.out⟩
      case round =>
        obtain ⟨k, b, hk, rfl, rfl, Hb, hst⟩ := hrel
        have K4 := Lib.hid hst
        clear hst cx cy K3
        by_cases hlt : k < na
        · have hd : decide ((k : Int) < na) = true := by simp; omega
          have hd' : (k : Int) < na := by omega
          have hd0 : (0 : Int) ≤ k := by omega
          cases b with
          | false =>
            have hsm : sm = false := by
              have h := Hb.out
              rw [HS.out]
              rw [eq_comm, decide_eq_false_iff_not] at h
              refine decide_eq_false ?_
              rintro ⟨h1, h2⟩
              exact h ⟨h1, by rw [Fa.out.1, Fb.out.1, h2], by rw [h2]⟩
            have Hsm := Lib.hid hsm
            clear hsm
            go_wp2_with fail
            go_meet
            case rel => exact ⟨by rw [Hsm.out], K4.out⟩
          | true =>
            have hnb : na = nb := (of_decide_eq_true Hb.out.symm).2.1
            subst hnb
            obtain ⟨ba, oa, rfl, hba, hca⟩ := (K4.out.get A (la.map sv) (.tail _ (.head _))) (by rw [List.length_map, ← Fa.out.1]; omega)
            obtain ⟨bb, ob, rfl, hbb, hcb⟩ := (K4.out.get B (lb.map sv) (.tail _ (.tail _ (.head _)))) (by rw [List.length_map, ← Fb.out.1]; omega)
            obtain ⟨s, hs⟩ : ∃ s, s = la[k]'(by rw [← Fa.out.1]; omega) := ⟨_, rfl⟩
            obtain ⟨t, ht⟩ : ∃ t, t = lb[k]'(by rw [← Fb.out.1]; omega) := ⟨_, rfl⟩
            have c1 : wr.cell? ⟨ba, oa + k, none⟩ = some (.string s) := hca k (sv s) (by rw [List.getElem?_map, List.getElem?_eq_getElem (by rw [← Fa.out.1]; omega), hs]; rfl)
            have c2 : wr.cell? ⟨bb, ob + k, none⟩ = some (.string t) := hcb k (sv t) (by rw [List.getElem?_map, List.getElem?_eq_getElem (by rw [← Fb.out.1]; omega), ht]; rfl)
            obtain ⟨r, hr⟩ : ∃ r, r = decide (s = t) := ⟨_, rfl⟩
            have heq : (s.toList == t.toList) = r := by
              rw [hr, Lib.toList_data, Lib.toList_data, Bool.eq_iff_iff]
              simp only [beq_iff_eq, decide_eq_true_iff]
              constructor
              · intro h; apply ByteArray.ext; exact Array.toList_inj.1 h
              · rintro rfl; rfl
            have hnx : r = decide (x = y ∧ na = na ∧ la.take (k + 1) = lb.take (k + 1)) := by
              have h := of_decide_eq_true Hb.out.symm
              rw [hr, Bool.eq_iff_iff, decide_eq_true_iff, decide_eq_true_iff, List.take_add_one, List.take_add_one, List.getElem?_eq_getElem (by rw [← Fa.out.1]; omega), List.getElem?_eq_getElem (by rw [← Fb.out.1]; omega), ← hs, ← ht, h.2.2]
              simp [h.1]
            have Hn := Lib.hid hnx
            clear hca hcb hs ht hr hnx hba hbb
            go_wp2_with fail
            go_quiet (fail)
            go_wp2_with fail
            exact ⟨⟨k + 1, r, by omega, by go_num, rfl, Hn, K4.out.step (drewN_below (Below.refl _ _) _)⟩, by simp [intOf]; omega⟩
        · have hd : decide ((k : Int) < na) = false := by simp; omega
          have hd' : (na : Int) ≤ k := by omega
          have hkn : k = na := by omega
          have hsm : b = sm := by
            have h := Hb.out
            rw [HS.out, h, Bool.eq_iff_iff, decide_eq_true_iff, decide_eq_true_iff, hkn]
            constructor
            · rintro ⟨h1, h2, h3⟩
              refine ⟨h1, ?_⟩
              rwa [List.take_of_length_le (by rw [← Fa.out.1]; omega), List.take_of_length_le (by rw [← Fb.out.1]; omega)] at h3
            · rintro ⟨h1, h2⟩
              exact ⟨h1, by rw [Fa.out.1, Fb.out.1, h2], by rw [h2]⟩
          have Hsm := Lib.hid hsm
          clear hsm hkn
          go_wp2_with fail
          go_meet
          case rel => exact ⟨by rw [Hsm.out], K4.out⟩
    case rest =>
      obtain ⟨rfl, hst⟩ := hcut
      have K4 := Lib.hid hst
      clear hst K3 cx cy
      have cx : wc.cell? ⟨V, 0, none⟩ = some (.int .u8 (x.toNat : Int)) := (K4.out.get (some ⟨V, 0, none⟩) [.int .u8 (x.toNat : Int), .int .u8 (y.toNat : Int)] (.head _)).cellAt 0 _ rfl
      have wx : IntKind.i64.wrap (x.toNat : Int) = x.toNat := i64_in _ (by omega) (by have := x.toNat_lt; omega)
      have wy : IntKind.i64.wrap (y.toNat : Int) = y.toNat := i64_in _ (by omega) (by have := y.toNat_lt; omega)
      have hlx : (inp x.toNat la).length ≤ 6000 := by have h := inp_len x.toNat la (by rw [← Fa.out.1]; exact ha12) Fa.out.2 la.length; rwa [pre_full] at h
      have hly : (inp y.toNat lb).length ≤ 6000 := by have h := inp_len y.toNat lb (by rw [← Fb.out.1]; exact hb12) Fb.out.2 lb.length; rwa [pre_full] at h
      have cIx := input_any x.toNat A ca la wc (K4.out.get A _ (.tail _ (.head _))) (by rw [← Fa.out.1]; exact ha12) Fa.out.2
      rw [← Fa.out.1] at cIx
      obtain ⟨l1, hl1⟩ : ∃ l1, l1 = inp x.toNat la := ⟨_, rfl⟩
      obtain ⟨l2, hl2⟩ : ∃ l2, l2 = inp y.toNat lb := ⟨_, rfl⟩
      rw [← hl1] at cIx hlx
      rw [← hl2] at hly
      have CIx := Lib.hid cIx
      have L1 := Lib.hid (And.intro hl1 hlx)
      have L2 := Lib.hid (And.intro hl2 hly)
      clear cIx hl1 hl2 hlx hly
      go_wp2_with fail
      refine CIx.out.mono ?_
      rintro e w5 ⟨v5, rfl, hown, hb'⟩
      obtain ⟨A1, c1, rfl, hr1, -, -⟩ := own_rd (B := 0) hown
      have K5 := Lib.hid ((K4.out.step hb').add hr1)
      clear hown hb' hr1 K4 cx CIx
      have cy : w5.cell? ⟨V, 1, none⟩ = some (.int .u8 (y.toNat : Int)) := (K5.out.get (some ⟨V, 0, none⟩) [.int .u8 (x.toNat : Int), .int .u8 (y.toNat : Int)] (.tail _ (.head _))).cellAt 1 _ rfl
      have cIy := input_any y.toNat B cb lb w5 (K5.out.get B _ (.tail _ (.tail _ (.tail _ (.head _))))) (by rw [← Fb.out.1]; exact hb12) Fb.out.2
      rw [← Fb.out.1, ← L2.out.1] at cIy
      have CIy := Lib.hid cIy
      clear cIy
      go_wp2_with fail
      refine CIy.out.mono ?_
      rintro e w6 ⟨v6, rfl, hown, hb'⟩
      obtain ⟨A2, c2, rfl, hr2, -, -⟩ := own_rd (B := 0) hown
      have K6 := Lib.hid ((K5.out.step hb').add hr2)
      clear hown hb' hr2 K5 cy CIy
      cases sm with
      | true =>
        have hxy := of_decide_eq_true HS.out.symm
        have h12 : l1 = l2 := by rw [L1.out.1, L2.out.1, hxy.1, hxy.2]
        have v1 := conv_bytes w6 _ A1 l1 c1 (K6.out.get A1 _ (.tail _ (.head _)))
        have v2 := conv_bytes w6 _ A2 l2 c2 (K6.out.get A2 _ (.head _))
        have heq : ((bs l1).toList == (bs l2).toList) = true := by rw [h12]; simp
        clear hxy h12
        go_wp2_with fail
        go_ret
        exact ⟨rfl, K6.out.1⟩
      | false =>
        obtain ⟨hz, -⟩ := zero_of_info sum_zero
        obtain ⟨hzd, -⟩ := zero_of_info dig_zero
        obtain ⟨Z, hZ⟩ : ∃ Z, Z = (H.zeros 32).map bv := ⟨_, rfl⟩
        obtain ⟨Zd, hZd⟩ : ∃ Zd, Zd = (H.zeros 16).map bv := ⟨_, rfl⟩
        obtain ⟨D, hD⟩ : ∃ D, D = (dig x.toNat la).map bv := ⟨_, rfl⟩
        obtain ⟨E, hE⟩ : ∃ E, E = (dig y.toNat lb).map bv := ⟨_, rfl⟩
        obtain ⟨g, hg⟩ : ∃ g, g = H.sha l1 := ⟨_, rfl⟩
        obtain ⟨h, hh⟩ : ∃ h, h = H.sha l2 := ⟨_, rfl⟩
        obtain ⟨R, hR⟩ : ∃ R, R = g.map bv := ⟨_, rfl⟩
        obtain ⟨S, hS⟩ : ∃ S, S = h.map bv := ⟨_, rfl⟩
        rw [← hZ] at hz
        rw [← hZd] at hzd
        have hgl : g.length = 32 := by rw [hg, H.sha_len]
        have hhl : h.length = 32 := by rw [hh, H.sha_len]
        have lZ : Z.length = 32 := by rw [hZ, List.length_map, H.zeros_len]
        have lZd : Zd.length = 16 := by rw [hZd, List.length_map, H.zeros_len]
        have lD : D.length = 16 := by rw [hD, List.length_map, dig_len]
        have lE : E.length = 16 := by rw [hE, List.length_map, dig_len]
        have lR : R.length = 32 := by rw [hR, List.length_map, hgl]
        have lS : S.length = 32 := by rw [hS, List.length_map, hhl]
        have oD : D.toArray.all (·.oneCell') = true := all_oneCell_toArray (by rw [hD]; exact bytes_one _)
        have oE : E.toArray.all (·.oneCell') = true := all_oneCell_toArray (by rw [hE]; exact bytes_one _)
        have oR : R.toArray.all (·.oneCell') = true := all_oneCell_toArray (by rw [hR]; exact bytes_one _)
        have oS : S.toArray.all (·.oneCell') = true := all_oneCell_toArray (by rw [hS]; exact bytes_one _)
        have yD := size_dig lD
        have yE := size_dig lE
        have yR := size_sum lR
        have yS := size_sum lS
        have hdg : dig x.toNat la = g.take 16 := by rw [hg, L1.out.1]; rfl
        have heh : dig y.toNat lb = h.take 16 := by rw [hh, L2.out.1]; rfl
        have hne : l1 ≠ l2 := by
          rw [L1.out.1, L2.out.1]
          intro e
          exact of_decide_eq_false HS.out.symm ((inp_inj x y la lb Fa.out.2 Fb.out.2).1 e)
        have cO := fun (W : World) h1 h2 => of_any x.toNat A ca la W h1 (by rw [← Fa.out.1]; omega) (fun s hs => by have := Fa.out.2 s hs; omega) (by rw [← L1.out.1]; have := L1.out.2; omega) h2
        have cP := fun (W : World) h1 h2 => of_any y.toNat B cb lb W h1 (by rw [← Fb.out.1]; omega) (fun s hs => by have := Fb.out.2 s hs; omega) (by rw [← L2.out.1]; have := L2.out.2; omega) h2
        rw [← Fa.out.1, ← hD] at cO
        rw [← Fb.out.1, ← hE] at cP
        have cG := fun (W : World) h1 h2 => hsum_any A1 c1 l1 W h1 (by have := L1.out.2; omega) h2
        have cH := fun (W : World) h1 h2 => hsum_any A2 c2 l2 W h1 (by have := L2.out.2; omega) h2
        rw [← hg, ← hR] at cG
        rw [← hh, ← hS] at cH
        have CO := Lib.hid cO
        have CP := Lib.hid cP
        have CG := Lib.hid cG
        have CH := Lib.hid cH
        have LL := Lib.hid (And.intro lZ (And.intro lZd (And.intro lD (And.intro lE (And.intro lR lS)))))
        have YY := Lib.hid (And.intro yD (And.intro yE (And.intro yR yS)))
        have HH := Lib.hid (And.intro hD (And.intro hE (And.intro hR (And.intro hS (And.intro hdg heh)))))
        have GL := Lib.hid (And.intro hgl hhl)
        have Hne := Lib.hid hne
        clear hZ hZd hD hE hg hh hR hS hgl hhl lZ lZd lD lE lR lS yD yE yR yS hdg heh hne cO cP cG cH
        have cx : w6.cell? ⟨V, 0, none⟩ = some (.int .u8 (x.toNat : Int)) := (K6.out.get (some ⟨V, 0, none⟩) [.int .u8 (x.toNat : Int), .int .u8 (y.toNat : Int)] (.tail _ (.tail _ (.head _)))).cellAt 0 _ rfl
        go_wp2_with fail
        refine (CO.out w6 (K6.out.get A _ (.tail _ (.tail _ (.tail _ (.head _))))) K6.out.2.1).mono ?_
        rintro e w7 ⟨rfl, hb'⟩
        obtain ⟨w8, hW8, t1, d1, e1⟩ := row_new w7 44 16 Zd D LL.out.2.1 LL.out.2.2.1
        have K8 := Lib.hid (((K6.out.step hb').step e1).add d1.rd)
        have HW := Lib.hid hW8
        have T1 := Lib.hid t1
        clear hW8 t1 d1 e1 hb' K6 cx CO
        have cy : w8.cell? ⟨V, 1, none⟩ = some (.int .u8 (y.toNat : Int)) := (K8.out.get (some ⟨V, 0, none⟩) [.int .u8 (x.toNat : Int), .int .u8 (y.toNat : Int)] (.tail _ (.tail _ (.tail _ (.head _))))).cellAt 1 _ rfl
        go_wp2_with (refine wpList_store_mid rfl 44 (.tmp 12) (.tmp 81) rfl w7.heap.size 0 D.toArray rfl rfl T1.out YY.out.1 oD ?_; rw [← HW.out])
        clear T1 HW
        generalize w7.heap.size = Vd at *
        refine (CP.out w8 (K8.out.get B _ (.tail _ (.tail _ (.tail _ (.tail _ (.tail _ (.head _))))))) K8.out.2.1).mono ?_
        rintro e w9 ⟨rfl, hb'⟩
        obtain ⟨w10, hW8, t1, d1, e1⟩ := row_new w9 44 16 Zd E LL.out.2.1 LL.out.2.2.2.1
        have K10 := Lib.hid (((K8.out.step hb').step e1).add d1.rd)
        have HW := Lib.hid hW8
        have T1 := Lib.hid t1
        clear hW8 t1 d1 e1 hb' K8 cy CP
        go_wp2_with (refine wpList_store_mid rfl 44 (.tmp 13) (.tmp 86) rfl w9.heap.size 0 E.toArray rfl rfl T1.out YY.out.2.1 oE ?_; rw [← HW.out])
        clear T1 HW
        generalize w9.heap.size = Ve at *
        refine (CG.out w10 (K10.out.get A1 _ (.tail _ (.tail _ (.tail _ (.head _))))) K10.out.2.1).mono ?_
        rintro e w11 ⟨rfl, hb'⟩
        obtain ⟨w12, hW8, t1, d1, e1⟩ := row_new w11 24 32 Z R LL.out.1 LL.out.2.2.2.2.1
        have K12 := Lib.hid (((K10.out.step hb').step e1).add d1.rd)
        have HW := Lib.hid hW8
        have T1 := Lib.hid t1
        clear hW8 t1 d1 e1 hb' K10 CG
        go_wp2_with (refine wpList_store_mid rfl 24 (.tmp 14) (.tmp 88) rfl w11.heap.size 0 R.toArray rfl rfl T1.out YY.out.2.2.1 oR ?_; rw [← HW.out])
        clear T1 HW
        generalize w11.heap.size = Vg at *
        refine (CH.out w12 (K12.out.get A2 _ (.tail _ (.tail _ (.tail _ (.head _))))) K12.out.2.1).mono ?_
        rintro e w13 ⟨rfl, hb'⟩
        obtain ⟨w14, hW8, t1, d1, e1⟩ := row_new w13 24 32 Z S LL.out.1 LL.out.2.2.2.2.2
        have K14 := Lib.hid (((K12.out.step hb').step e1).add d1.rd)
        have HW := Lib.hid hW8
        have T1 := Lib.hid t1
        clear hW8 t1 d1 e1 hb' K12 CH
        go_wp2_with (refine wpList_store_mid rfl 24 (.tmp 15) (.tmp 90) rfl w13.heap.size 0 S.toArray rfl rfl T1.out YY.out.2.2.2 oS ?_; rw [← HW.out])
        clear T1 HW
        generalize w13.heap.size = Vh at *
        obtain ⟨ps, hps⟩ : ∃ ps, ps = [(some (⟨Vh, 0, none⟩ : Addr), S), (some ⟨Vg, 0, none⟩, R), (some ⟨Ve, 0, none⟩, E), (some ⟨Vd, 0, none⟩, D), (A2, l2.map bv), (A1, l1.map bv), (some ⟨V, 0, none⟩, [.int .u8 (x.toNat : Int), .int .u8 (y.toNat : Int)]), (A, la.map sv), (B, lb.map sv)] := ⟨_, rfl⟩
        have HP := Lib.hid hps
        rw [← hps] at K14
        clear hps
        go_loopw [16, 17] (fun c i wr => ∃ (k : Nat) (b : Bool), k ≤ 16 ∧ i = .int .i64 k ∧ c = .bool b ∧ Hid (b = decide (g.take k = h.take k)) ∧ St W ps wr) (fun _ i _ => 16 - (intOf i).toNat)
        case atStart => exact ⟨0, true, Nat.zero_le _, rfl, rfl, Lib.hid (by simp), K14.out⟩
        case round =>
          obtain ⟨k, b, hk, rfl, rfl, Hb, hst⟩ := hrel
          have K := Lib.hid hst
          clear hst K14
          by_cases hlt : k < 16
          · have ik : (k : Int) < 16 := by omega
            have ik0 : (0 : Int) ≤ k := by omega
            have ik2 : (k : Int) < 32 := by omega
            cases b with
            | false =>
              have hnx : false = decide (g.take (k + 1) = h.take (k + 1)) := by
                have h1 := of_decide_eq_false Hb.out.symm
                refine (decide_eq_false fun e => h1 ?_).symm
                have := congrArg (List.take k) e
                rwa [List.take_take, List.take_take, Nat.min_eq_left (by omega)] at this
              have Hn := Lib.hid hnx
              clear hnx
              go_wp2_with fail
              go_quiet (fail)
              go_wp2_with fail
              exact ⟨⟨k + 1, false, by omega, by go_num, rfl, Hn, K.out.step (drewN_below (Below.refl _ _) _)⟩, by simp [intOf]; omega⟩
            | true =>
              obtain ⟨p, hp⟩ : ∃ p, p = g.getD k 0 := ⟨_, rfl⟩
              obtain ⟨q, hq⟩ : ∃ q, q = h.getD k 0 := ⟨_, rfl⟩
              have q1 : wr.cell? ⟨Vg, k, none⟩ = some (.int .u8 (p.toNat : Int)) := (K.out.get (some ⟨Vg, 0, none⟩) R (by rw [HP.out]; exact (.tail _ (.head _)))).cellAt k _ (by rw [HH.out.2.2.1, List.getElem?_map, getD_at g k 0 (by rw [GL.out.1]; omega), hp]; rfl)
              have q2 : wr.cell? ⟨Vh, k, none⟩ = some (.int .u8 (q.toNat : Int)) := (K.out.get (some ⟨Vh, 0, none⟩) S (by rw [HP.out]; exact (.head _))).cellAt k _ (by rw [HH.out.2.2.2.1, List.getElem?_map, getD_at h k 0 (by rw [GL.out.2]; omega), hq]; rfl)
              obtain ⟨r, hr⟩ : ∃ r, r = decide (p = q) := ⟨_, rfl⟩
              have heq : ((p.toNat : Int) == (q.toNat : Int)) = r := by
                rw [hr, Bool.eq_iff_iff, beq_iff_eq, decide_eq_true_iff]
                constructor
                · intro e; exact UInt8.toNat_inj.1 (by omega)
                · rintro rfl; rfl
              have hnx : r = decide (g.take (k + 1) = h.take (k + 1)) := by
                have h1 := of_decide_eq_true Hb.out.symm
                have h2 := take_eq_succ g h k (by rw [GL.out.1]; omega) (by rw [GL.out.2]; omega)
                rw [hr, Bool.eq_iff_iff, decide_eq_true_iff, decide_eq_true_iff, h2, ← hp, ← hq]
                simp [h1]
              have Hn := Lib.hid hnx
              clear hp hq hr hnx
              go_wp2_with fail
              go_quiet (fail)
              go_wp2_with fail
              exact ⟨⟨k + 1, r, by omega, by go_num, rfl, Hn, K.out.step (drewN_below (Below.refl _ _) _)⟩, by simp [intOf]; omega⟩
          · have hk16 : k = 16 := by omega
            have ik : (16 : Int) ≤ k := by omega
            have hbv : b = decide (dig x.toNat la = dig y.toNat lb) := by rw [Hb.out, hk16, HH.out.2.2.2.2.1, HH.out.2.2.2.2.2]
            have rD := Lib.hid (K.out.get (some ⟨Vd, 0, none⟩) D (by rw [HP.out]; exact (.tail _ (.tail _ (.tail _ (.head _)))))).range
            have rE := Lib.hid (K.out.get (some ⟨Ve, 0, none⟩) E (by rw [HP.out]; exact (.tail _ (.tail _ (.head _))))).range
            have v1 := conv_bytes wr _ A1 l1 c1 (K.out.get A1 _ (by rw [HP.out]; exact (.tail _ (.tail _ (.tail _ (.tail _ (.tail _ (.head _))))))))
            have v2 := conv_bytes wr _ A2 l2 c2 (K.out.get A2 _ (by rw [HP.out]; exact (.tail _ (.tail _ (.tail _ (.tail _ (.head _)))))))
            have hneq : ((bs l1).toList == (bs l2).toList) = false := by
              rw [Lib.toList_data, Lib.toList_data]
              simpa [bs] using Hne.out
            have heq := eq_dig (dig x.toNat la) (dig y.toNat lb) (dig_len _ _) (dig_len _ _) wr
            rw [← HH.out.1, ← HH.out.2.1, ← hbv] at heq
            have n1 : Hid ((Tryd.prog.info? 44).map (·.size) = some D.length) := Lib.hid (by rw [← List.size_toArray]; exact YY.out.1)
            have n2 : Hid ((Tryd.prog.info? 44).map (·.size) = some E.length) := Lib.hid (by rw [← List.size_toArray]; exact YY.out.2.1)
            have hbb : (b == b) = true := by simp
            clear hk16 hbv
            go_wp2_with (first | (refine wpList_load_wanted 44 (.tmp 12) rfl rfl Vd 0 rfl D _ rD.out Tryd.underlying44 rfl n1.out ?_) | (refine wpList_load_wanted 44 (.tmp 13) rfl rfl Ve 0 rfl E _ rE.out Tryd.underlying44 rfl n2.out ?_))
            go_ret
            exact ⟨rfl, K.out.1⟩
end Go.Proofs.YtmlnpnlajgnohaaDoor
