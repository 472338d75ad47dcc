/- The walk of the statement WireCanonical, whole. -/
import Derived.Test.YtacgekhphhhmpaaWireX
namespace Go.Proofs.Ytacgekhphhhmpaa
open Go.RowKit
set_option linter.unusedVariables false

/-- What stays while the law goes on: the boxed argument, and its bytes. -/
def BoxK (w : World) (A : Option Addr) (cap : Nat) (l : List UInt8) (W : World) : Prop :=
  Below w.heap.size w W ∧ W.cell? ⟨w.heap.size, 0, none⟩ = some (.slice A l.length cap) ∧ RdB W W.heap.size A l ∧ w.heap.size < W.heap.size
theorem BoxK.step {w W W' : World} {A : Option Addr} {cap : Nat} {l : List UInt8} (h : BoxK w A cap l W) (hb : Below W.heap.size W W') : BoxK w A cap l W' :=
  ⟨h.1.trans (hb.mono h.1.size), (hb.cell (p := ⟨w.heap.size, 0, none⟩) h.2.2.2).trans h.2.1, (h.2.2.1.below hb).more hb.size, Nat.lt_of_lt_of_le h.2.2.2 hb.size⟩
/-- The decoded lists, owned. -/
def Own3 (vI vS vD : Value) (LI : List Int) (LS : List ByteArray) (LD : List (List UInt8)) (W : World) : Prop :=
  W.ownsRow 0 3 1 vI LI.length (LI.map iv) ∧ W.ownsRow 0 9 1 vS LS.length (LS.map sv) ∧ W.ownsRow 0 57 16 vD LD.length (dcells LD)
theorem Own3.step {vI vS vD : Value} {LI : List Int} {LS : List ByteArray} {LD : List (List UInt8)} {W W' : World} (h : Own3 vI vS vD LI LS LD W) (hb : Below W.heap.size W W') : Own3 vI vS vD LI LS LD W' :=
  ⟨own_below h.1 hb (Nat.le_refl _), own_below h.2.1 hb (Nat.le_refl _), own_below h.2.2 hb (Nat.le_refl _)⟩

/-- The closure's contract where the bytes are those of an encoding that was just made. -/
theorem is_made {w W : World} {A Ac : Option Addr} {cap cc : Nat} {l lc : List UInt8} {u e : Nat} (hK : BoxK w A cap l W) (hc : l.length ≤ cap) (hl : l.length ≤ 2000) (hrc : RdB W W.heap.size Ac lc) (hlc : lc.length ≤ 1000000000)
    (hu : u ≤ 1000000000) (hcond : e ≠ 0 ∨ (u ≤ l.length ∧ lc = l.take u)) :
    Calls Try.prog 37 #[.slice Ac lc.length cc, .int .i64 u, .int .i64 e, .pointer (some ⟨w.heap.size, 0, none⟩)] W (Tells true W) :=
  is_any w.heap.size A Ac cap cc l lc u e W hK.2.1 hK.2.2.1 hc hl hrc hlc hu hcond

set_option maxHeartbeats 8000000 in
set_option maxRecDepth 100000 in
theorem canonical_walk (A0 : Option Addr) (len cap : Nat) (zs : List Int) (w : World) (hrow : IsRow .u8 w A0 len cap zs) :
    Calls Try.prog 7 #[.slice A0 len cap] w (Tells true w) := by
  obtain ⟨l, rfl, hrd, hc, hm⟩ := row_bytes hrow
  clear hrow
  have hnew := heap_alloc_new w (.cells #[.slice A0 l.length cap] 28)
  have hcb := cell_of_one hnew
  have hK : BoxK w A0 cap l (w.alloc (.cells #[.slice A0 l.length cap] 28)) :=
    ⟨(Below.refl _ _).alloc (Nat.le_refl _) _, hcb, (hrd.alloc (Nat.le_refl _) _).more (by simp), by simp⟩
  by_cases hl : 2000 < l.length
  · have hl' : (2000 : Int) < l.length := by omega
    have HK := Lib.hid hK
    clear hK hnew hrd
    unfold maxLen at hm
    go_enter Try.func7, Try.ntmps7
    go_wp2_with fail
    refine (sanity_any _).mono ?_
    rintro e w1 ⟨rfl, hb⟩
    go_wp2_with fail
    go_ret
    exact ⟨rfl, (HK.out.step hb).1⟩
  · have hl' : (l.length : Int) ≤ 2000 := by omega
    -- what each decoder gives
    obtain ⟨⟨N, UI, EI⟩, hgI⟩ : ∃ r, r = M.getI l := ⟨_, rfl⟩
    obtain ⟨⟨SB, UB, EB⟩, hgB⟩ : ∃ r, r = M.getB l := ⟨_, rfl⟩
    obtain ⟨⟨LI, UL, EL⟩, hgL⟩ : ∃ r, r = M.getLs M.getI 1 l := ⟨_, rfl⟩
    obtain ⟨⟨LS, US, ES⟩, hgS⟩ : ∃ r, r = M.getLs gS 1 l := ⟨_, rfl⟩
    obtain ⟨⟨LD, UD, ED⟩, hgD⟩ : ∃ r, r = M.getLs gD 16 l := ⟨_, rfl⟩
    have cI : EI ≠ 0 ∨ (UI ≤ l.length ∧ M.encI N = l.take UI) := by
      by_cases h : EI = 0
      · obtain ⟨-, h1, h2, -⟩ := M.getI_ok l (by rw [← hgI]; exact h)
        rw [← hgI] at h1 h2
        exact .inr ⟨h1, h2.symm⟩
      · exact .inl h
    have uI : UI ≤ l.length := by have := M.getI_used l; rw [← hgI] at this; exact this
    have nI : M.I64 N := by have := M.getI_I64 l; rw [← hgI] at this; exact this
    have cB : EB ≠ 0 ∨ (UB ≤ l.length ∧ M.encB SB = l.take UB) := by
      by_cases h : EB = 0
      · obtain ⟨h1, h2⟩ := M.getB_ok l (by rw [← hgB]; exact h)
        rw [← hgB] at h1 h2
        exact .inr ⟨h1, h2.symm⟩
      · exact .inl h
    have uB : UB ≤ l.length := by have := getB_used l; rw [← hgB] at this; exact this
    have cL : EL ≠ 0 ∨ (UL ≤ l.length ∧ M.encL M.encI LI = l.take UL) := by
      by_cases h : EL = 0
      · obtain ⟨h1, h2⟩ := M.getLs_canon M.canon_getI 1 l (Nat.le_refl _) (by rw [← hgL]; exact h)
        rw [← hgL] at h1 h2
        exact .inr ⟨h1, h2.symm⟩
      · exact .inl h
    have uL : UL ≤ l.length := by
      by_cases h : EL = 0
      · exact (cL.resolve_left (fun hh => hh h)).1
      · have := getLs_used M.getI 1 l (by rw [← hgL]; exact h); rw [← hgL] at this; simp only at this; omega
    have nL : LI.length ≤ l.length := by have := getLs_len M.getI 1 l (Nat.le_refl _); rw [← hgL] at this; exact this
    have aL : ∀ n ∈ LI, M.I64 n := by have := M.getLs_all (P := M.I64) M.getI_I64 1 l (Nat.le_refl _); rw [← hgL] at this; exact this
    have cS : ES ≠ 0 ∨ (US ≤ l.length ∧ M.encL encS LS = l.take US) := by
      by_cases h : ES = 0
      · obtain ⟨h1, h2⟩ := M.getLs_canon canon_gS 1 l (Nat.le_refl _) (by rw [← hgS]; exact h)
        rw [← hgS] at h1 h2
        exact .inr ⟨h1, h2.symm⟩
      · exact .inl h
    have uS : US ≤ l.length := by
      by_cases h : ES = 0
      · exact (cS.resolve_left (fun hh => hh h)).1
      · have := getLs_used gS 1 l (by rw [← hgS]; exact h); rw [← hgS] at this; simp only at this; omega
    have nS : LS.length ≤ l.length := by have := getLs_len gS 1 l (Nat.le_refl _); rw [← hgS] at this; exact this
    have fS : (LS.flatMap encS).length ≤ 2000 := by
      by_cases h : ES = 0
      · have h2 := (cS.resolve_left (fun hh => hh h)).2
        have h3 := congrArg List.length h2
        unfold M.encL at h3
        rw [List.length_append, List.length_take] at h3
        omega
      · have := (M.getLs_zero gS 1 l (by rw [← hgS]; exact h)).1
        rw [← hgS] at this
        simp only at this
        rw [this]; simp
    have cD : ED ≠ 0 ∨ (UD ≤ l.length ∧ encD LD.length LD.flatten = l.take UD) := by
      by_cases h : ED = 0
      · obtain ⟨h1, h2⟩ := canon_digs l (by rw [← hgD]; exact h)
        rw [← hgD] at h1 h2
        exact .inr ⟨h1, h2⟩
      · exact .inl h
    have uD : UD ≤ l.length := by
      by_cases h : ED = 0
      · exact (cD.resolve_left (fun hh => hh h)).1
      · have := getLs_used gD 16 l (by rw [← hgD]; exact h); rw [← hgD] at this; simp only at this; omega
    have nD : LD.length ≤ l.length := by have := getLs_len gD 16 l (by omega); rw [← hgD] at this; exact this
    have fD : LD.flatten.length = 16 * LD.length := flat_len16 LD (by have := M.getLs_all (P := fun a => a.length = 16) pad_len 16 l (by omega) (g := gD); rw [← hgD] at this; exact this)
    have bB : (sb (bs SB)).length ≤ 2000 ∧ (M.encB SB).length ≤ 3000 := by
      have h1 : SB.length ≤ l.length := by
        have : (M.getB l).1.length ≤ l.length := by
          unfold M.getB
          by_cases h : (M.getLen l 1).2.2 ≠ 0
          · rw [if_pos h]; simp
          · rw [if_neg h]; simp; omega
        rw [← hgB] at this; exact this
      have h2 := M.encI_len_le SB.length (M.I64_nat SB.length (by omega))
      unfold M.encB
      rw [sb_bs, List.length_append]
      omega
    -- the callees' contracts, hidden
    have qI := fun (W : World) (hr : RdB W W.heap.size A0 l) => getInt_any A0 cap l W _ hr hc hm
    have qB := fun (W : World) (hr : RdB W W.heap.size A0 l) => getBytes_any A0 cap l W _ hr hc hm
    have qL := fun (W : World) (hr : RdB W W.heap.size A0 l) => getInts_any A0 cap l W hr hc hm (by omega)
    have qS := fun (W : World) (hr : RdB W W.heap.size A0 l) => getStrings_any A0 cap l W hr hc hm (by omega)
    have qD := fun (W : World) (hr : RdB W W.heap.size A0 l) => getDigests_any A0 cap l W hr hc hm (by omega)
    rw [← hgI] at qI
    rw [← hgB] at qB
    rw [← hgL] at qL
    rw [← hgS] at qS
    rw [← hgD] at qD
    have HK := Lib.hid hK
    have QI := Lib.hid qI
    have QB := Lib.hid qB
    have QL := Lib.hid qL
    have QS := Lib.hid qS
    have QD := Lib.hid qD
    have CI := Lib.hid cI
    have CB := Lib.hid cB
    have CL := Lib.hid cL
    have CS := Lib.hid cS
    have CD := Lib.hid cD
    have NI := Lib.hid nI
    have AL := Lib.hid aL
    have FD := Lib.hid fD
    have BB := Lib.hid bB
    clear hgI hgB hgL hgS hgD cI cB cL cS cD nI aL fD bB qI qB qL qS qD hK hnew hrd hcb
    unfold maxLen at hm
    have hbx := HK.out.2.1
    go_enter Try.func7, Try.ntmps7
    go_wp2_with fail
    refine (QI.out _ HK.out.2.2.1).mono ?_
    rintro e w1 ⟨rfl, rfl⟩
    unfold I3
    go_wp2_with fail
    refine (QB.out _ HK.out.2.2.1).mono ?_
    rintro e w1 ⟨rfl, rfl⟩
    unfold S3
    go_wp2_with fail
    refine (QL.out _ HK.out.2.2.1).mono ?_
    rintro e w1 ⟨vI, rfl, hoI, hb1⟩
    have K1 := Lib.hid (HK.out.step hb1)
    have O1 := Lib.hid (own_any hoI)
    clear hoI hb1 hbx HK
    have hbx := K1.out.2.1
    go_wp2_with fail
    refine (QS.out _ K1.out.2.2.1).mono ?_
    rintro e w2 ⟨vS, rfl, hoS, hb2⟩
    have K2 := Lib.hid (K1.out.step hb2)
    have O2 := Lib.hid (And.intro (own_below O1.out hb2 (Nat.le_refl _)) (own_any hoS))
    clear hoS hb2 hbx K1 O1
    have hbx := K2.out.2.1
    go_wp2_with fail
    refine (QD.out _ K2.out.2.2.1).mono ?_
    rintro e w3 ⟨vD, rfl, hoD, hb3⟩
    have K3 := Lib.hid (K2.out.step hb3)
    have O3 : Hid (Own3 vI vS vD LI LS LD w3) := Lib.hid ⟨own_below O2.out.1 hb3 (Nat.le_refl _), own_below O2.out.2 hb3 (Nat.le_refl _), own_any hoD⟩
    clear hoD hb3 hbx K2 O2 QI QB QL QS QD
    go_wp2_with fail
    refine (sanity_any _).mono ?_
    rintro e w4 ⟨rfl, hb4⟩
    have K4 := Lib.hid (K3.out.step hb4)
    have O4 := Lib.hid (O3.out.step hb4)
    clear hb4 K3 O3
    go_wp2_with fail
    refine (int_any N w4 NI.out).mono ?_
    rintro e w5 hmk
    obtain ⟨A5, c5, rfl, hr5, -, -, hb5⟩ := makes_gives hmk
    have K5 := Lib.hid (K4.out.step hb5)
    have O5 := Lib.hid (O4.out.step hb5)
    clear hb5 K4 O4 hmk
    go_wp2_with fail
    refine (is_made K5.out hc (by omega) hr5 (by have := M.encI_len_le N NI.out; omega) (by omega) CI.out).mono ?_
    rintro e w6 ⟨rfl, hb⟩
    have K6 := Lib.hid (K5.out.step hb)
    have O6 := Lib.hid (O5.out.step hb)
    clear hb K5 O5 hr5
    go_wp2_with fail
    refine (bytes_any (bs SB) w6 (by have := BB.out.1; rw [sb_len] at this; omega)).mono ?_
    rintro e w7 hmk
    rw [sb_bs] at hmk
    obtain ⟨A7, c7, rfl, hr7, -, -, hb⟩ := makes_gives hmk
    have K7 := Lib.hid (K6.out.step hb)
    have O7 := Lib.hid (O6.out.step hb)
    clear hb K6 O6 hmk
    go_wp2_with fail
    refine (is_made K7.out hc (by omega) hr7 (by have := BB.out.2; omega) (by omega) CB.out).mono ?_
    rintro e w8 ⟨rfl, hb⟩
    have K8 := Lib.hid (K7.out.step hb)
    have O8 := Lib.hid (O7.out.step hb)
    clear hb K7 O7 hr7
    go_wp2_with fail
    obtain ⟨Ai, ci, hv, hri, hci, hmi⟩ := own_rd (B := 0) O8.out.1
    subst hv
    refine (ints_any Ai ci LI w8 hri hci hmi (by omega) AL.out).mono ?_
    rintro e w9 hmk
    clear hri
    obtain ⟨A9, c9, rfl, hr9, -, -, hb⟩ := makes_gives hmk
    have K9 := Lib.hid (K8.out.step hb)
    have O9 := Lib.hid (O8.out.step hb)
    clear hb K8 O8 hmk
    go_wp2_with fail
    refine (is_made K9.out hc (by omega) hr9 (by have h1 := M.flat_ints LI AL.out; have h2 := M.encI_len_le LI.length (M.I64_nat LI.length (by omega)); unfold M.encL; rw [List.length_append]; omega) (by omega) CL.out).mono ?_
    rintro e w10 ⟨rfl, hb⟩
    have K10 := Lib.hid (K9.out.step hb)
    have O10 := Lib.hid (O9.out.step hb)
    clear hb K9 O9 hr9
    go_wp2_with fail
    obtain ⟨As, cs, hv, hrs, hcs, hms⟩ := own_rd (B := 0) O10.out.2.1
    subst hv
    refine (strings_any As cs LS w10 hrs hcs hms (by omega) (by omega)).mono ?_
    rintro e w11 hmk
    clear hrs
    obtain ⟨A11, c11, rfl, hr11, -, -, hb⟩ := makes_gives hmk
    have K11 := Lib.hid (K10.out.step hb)
    have O11 := Lib.hid (O10.out.step hb)
    clear hb K10 O10 hmk
    go_wp2_with fail
    refine (is_made K11.out hc (by omega) hr11 (by have h2 := M.encI_len_le LS.length (M.I64_nat LS.length (by omega)); unfold M.encL; rw [List.length_append]; omega) (by omega) CS.out).mono ?_
    rintro e w12 ⟨rfl, hb⟩
    have K12 := Lib.hid (K11.out.step hb)
    have O12 := Lib.hid (O11.out.step hb)
    clear hb K11 O11 hr11
    go_wp2_with fail
    obtain ⟨Ad, cd, hv, hrd, hcd, hmd⟩ := own_rd (B := 0) O12.out.2.2
    subst hv
    refine (digests_any Ad cd LD.length LD.flatten w12 hrd hcd hmd FD.out (by omega)).mono ?_
    rintro e w13 hmk
    clear hrd
    obtain ⟨A13, c13, rfl, hr13, -, -, hb⟩ := makes_gives hmk
    have K13 := Lib.hid (K12.out.step hb)
    have O13 := Lib.hid (O12.out.step hb)
    clear hb K12 O12 hmk
    go_wp2_with fail
    refine (is_made K13.out hc (by omega) hr13 (by have h1 := FD.out; have h2 := M.encI_len_le LD.length (M.I64_nat LD.length (by omega)); unfold encD; rw [List.length_append]; omega) (by omega) CD.out).mono ?_
    rintro e w14 ⟨rfl, hb⟩
    have K14 := Lib.hid (K13.out.step hb)
    have O14 := Lib.hid (O13.out.step hb)
    clear hb K13 O13 hr13
    go_wp2_with fail
    go_ret
    exact ⟨rfl, K14.out.1⟩
end Go.Proofs.Ytacgekhphhhmpaa
