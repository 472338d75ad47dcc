/- Holidays, as the laws on working days make them; the walk of the statement CalendarWork. -/
import Derived.Test.YtkenfgifhebnpaaDoorCalL1
import Derived.Test.YtkenfgifhebnpaaDoorCalRl
import Derived.Test.YtkenfgifhebnpaaDoorDrawA
import Derived.Laws.MakeOwn
import Derived.Laws.OwnMore
namespace Go.Proofs.YtkenfgifhebnpaaDoor
open Go.RowKit
set_option linter.unusedVariables false
set_option maxRecDepth 100000

/-- The first n holidays. -/
def hols (day : Int) (l : List Int) (n : Nat) : List Int := (l.take n).map fun x => day + around x 60 - 30
theorem hols_len (day : Int) (l : List Int) (n : Nat) : (hols day l n).length ≤ n := by unfold hols; simp; omega
theorem hols_succ (day : Int) (l : List Int) (n : Nat) (x : Int) (h : l[n]? = some x) : hols day l (n + 1) = hols day l n ++ [day + around x 60 - 30] := by
  unfold hols
  rw [List.take_add_one, h]
  simp
theorem hols_in (day : Int) (l : List Int) (n : Nat) (h : Cal.known day) : ∀ x ∈ hols day l n, M.I64 x := by
  intro x hx
  obtain ⟨y, -, rfl⟩ := List.mem_map.1 hx
  have := around_lt y 60 (by decide)
  unfold Cal.known at h
  unfold M.I64
  omega
theorem make_zeros (w : World) (n : Nat) (z : Int) (hz : z = (n : Int)) (hn : n ≤ 65536) : (Instr.makeSlice 23 (.int .i64 z) (.int .i64 z)).run Tryd.prog w = .ok (.slice (some ⟨w.heap.size, 0, none⟩) n n) (w.alloc (.cells (List.replicate n (Value.int .i64 0)).toArray 3)) := by
  subst hz
  obtain ⟨i0, hi, hz0, hz1, hz2⟩ := info_parts info_i64
  have hmk := run_makeSlice (P := Tryd.prog) w 23 3 i0 (.int .i64 0) Tryd.underlying23 hi hz0 .i64 .i64 (n : Int) (n : Int) (by omega) (by omega) (by rw [hz1]; omega) (by rw [hz2]; omega) (by omega)
  rw [hz1, Int.toNat_natCast, Nat.mul_one] at hmk
  have hmc : madeCells (Value.int .i64 0).cells n = (List.replicate n (Value.int .i64 0)).toArray := by
    apply Array.toList_inj.1
    rw [show (Value.int .i64 0).cells = #[Value.int .i64 0] from rfl, toList_madeCells_one]
  rw [hmc] at hmk
  exact hmk

theorem two_blocks (w : World) (x y : List Value) (t u : TypeId) : Blk ((w.alloc (.cells x.toArray t)).alloc (.cells y.toArray u)) w.heap.size x t ∧ Blk ((w.alloc (.cells x.toArray t)).alloc (.cells y.toArray u)) (w.heap.size + 1) y u ∧ Below w.heap.size w ((w.alloc (.cells x.toArray t)).alloc (.cells y.toArray u)) := by
  have k1 := Blk.new (w.alloc (.cells x.toArray t)) y u
  simp only [World.size_alloc] at k1
  exact ⟨(Blk.new w x t).alloc _, k1, ((Below.refl _ _).alloc (Nat.le_refl _) _).alloc (by simp) _⟩
theorem own_rd2 {w : World} {base n size cap : Nat} {e : TypeId} {A : Option Addr} {xs : List Value} (h : w.ownsRow base e size (.slice A n cap) n xs) : Rd w w.heap.size A xs := by
  obtain ⟨A', c', e1, h1, -, -⟩ := own_rd (B := 0) h
  cases e1
  exact h1

theorem blk_rd {w : World} {b : Nat} {l : List Int} {t : TypeId} (h : Blk w b (l.map iv) t) : Rd w w.heap.size (some ⟨b, 0, none⟩) (l.map iv) := fun _ => ⟨b, 0, rfl, h.lt, fun j u hu => by rw [Nat.zero_add]; exact h.cell j u hu⟩

set_option maxHeartbeats 8000000 in
theorem calWork_walk (n k many raw : Int) (A : Option Addr) (cap : Nat) (l : List Int) (w : World) (hn : M.I64 n) (hk : M.I64 k) (hma : M.I64 many) (hra : M.I64 raw)
    (hr : Rd w w.heap.size A (l.map iv)) (hI : ∀ n ∈ l, M.I64 n) (hl : l.length ≤ 9223372036854775807) (hD : CDoor w) :
    Calls Tryd.prog 6 #[.int .i64 n, .int .i64 k, .slice A l.length cap, .int .i64 many, .int .i64 raw] w (Tells true w) := by
  have HD := Lib.hid hD
  clear hD
  have cS := some_any n w hn
  have hS := someD_known n
  obtain ⟨day, hday⟩ : ∃ x, x = someD n := ⟨_, rfl⟩
  rw [← hday] at cS hS
  have hin := fun m => hols_in day l m hS
  have hS1 : -146097 ≤ day := hS.1
  have hS2 : day ≤ 146096 := hS.2
  obtain ⟨N, hN⟩ : ∃ N, N = l.length := ⟨_, rfl⟩
  have HR := Lib.hid (And.intro hr (And.intro hI (And.intro hN hin)))
  have CS := Lib.hid cS
  have HI := Lib.hid (And.intro hk (And.intro hma hra))
  rw [← hN] at hl ⊢
  clear cS hS hday hr hI hN hn hk hma hra hin
  go_enter Tryd.func6, Tryd.ntmps6
  go_wp2_with fail
  refine CS.out.mono ?_
  rintro e w1 ⟨rfl, hb1⟩
  have B1 := Lib.hid hb1
  clear hb1 CS
  go_wp2_with fail
  go_loopw [12, 13] (fun h i wr => ∃ m : Nat, m ≤ N ∧ m ≤ 30 ∧ i = .int .i64 m ∧ wr.ownsRow w1.heap.size 3 1 h (hols day l m).length ((hols day l m).map iv) ∧ Below w1.heap.size w1 wr) (fun _ i _ => 30 - (intOf i).toNat)
  case atStart => exact ⟨0, Nat.zero_le _, Nat.zero_le _, rfl, World.ownsRow_nil _ _ _ _, Below.refl _ _⟩
  case round =>
    obtain ⟨m, hmN, hm30, rfl, hown, hb⟩ := hrel
    by_cases hlt : m < N ∧ m < 30
    · obtain ⟨h1, h2⟩ := hlt
      have i1 : (m : Int) < N := by omega
      have i2 : (m : Int) < 30 := by omega
      obtain ⟨x, hx⟩ : ∃ x, l[m]? = some x := ⟨_, List.getElem?_eq_getElem (by have := HR.out.2.2.1; omega)⟩
      have hxI : M.I64 x := HR.out.2.1 x (List.mem_of_getElem? hx)
      have hsu := hols_succ day l m x hx
      have cA := fun W => around_any x 60 W hxI (small64 _ (by decide) (by decide))
      have lA := around_lt x 60 (by decide)
      obtain ⟨a, ha⟩ : ∃ a, a = around x 60 := ⟨_, rfl⟩
      rw [← ha] at lA hsu
      simp only [← ha] at cA
      obtain ⟨lA1, lA2⟩ := lA
      have hrd := (HR.out.1.below (B1.out.trans (hb.mono B1.out.size)))
      obtain ⟨b, off, hA, hlb, hcell⟩ := hrd (by rw [List.length_map, ← HR.out.2.2.1]; omega)
      have hc := hcell m (iv x) (by rw [List.getElem?_map, hx]; rfl)
      unfold iv at hc
      have hHl := hols_len day l m
      have CA := Lib.hid cA
      have HS := Lib.hid (And.intro hsu hHl)
      have HB := Lib.hid (And.intro hb hown)
      subst hA
      clear cA ha hsu hHl hb hown hx hxI hrd hcell hlb
      go_wp2_with fail
      refine (CA.out _).mono ?_
      rintro e w' ⟨rfl, rfl⟩
      obtain ⟨T, hT⟩ : ∃ T, T = hols day l m := ⟨_, rfl⟩
      have hTl : T.length ≤ 30 := by have := HS.out.2; rw [hT]; omega
      have hown := HB.out.2
      have hsz := HB.out.1.size
      rw [← hT] at hown
      have HT := Lib.hid hT
      clear hT CA hc
      go_wp2_with (at_builtin; refine wpList_append_ownI _ rfl (.tmp 38) (.tmp 47) rfl w1.heap.size _ T [day + a - 30] (some ⟨w'.heap.size, 0, none⟩) 1 rfl rfl (hown.alloc _) (rd_new w' [iv (day + a - 30)] 3) (by simp; omega) (by simp; omega) ?_; intro v' w3 hown' hgrow)
      go_roundw
      case rel =>
        refine ⟨m + 1, by omega, by omega, by go_num, ?_, (HB.out.1.alloc HB.out.1.size _).grown hgrow (by simp; omega) (fun j hj => (hown.lt j hj).1)⟩
        rw [HS.out.1, ← HT.out]
        exact hown'
      case measure => simp [intOf]; omega
    · have hgu : (¬ (m : Int) < N) ∨ ((m : Int) < N ∧ ¬ (m : Int) < 30) := by omega
      have B2 := B1.out.trans (hb.mono B1.out.size)
      have hHl := hols_len day l m
      have hin := HR.out.2.2.2 m
      obtain ⟨H, hH⟩ : ∃ H, H = hols day l m := ⟨_, rfl⟩
      rw [← hH] at hown hHl hin
      have hHl2 : H.length ≤ 30 := by omega
      have cC := fun W => around_any many 5 W HI.out.2.1 (small64 _ (by decide) (by decide))
      have lC := around_lt many 5 (by decide)
      have cK := fun W => around_any k 41 W HI.out.1 (small64 _ (by decide) (by decide))
      have lK := around_lt k 41 (by decide)
      have cM := fun W => around_any k 2006 W HI.out.1 (small64 _ (by decide) (by decide))
      have lM := around_lt k 2006 (by decide)
      obtain ⟨ac, hac⟩ : ∃ c : Nat, (c : Int) = 398 + around many 5 := ⟨(398 + around many 5).toNat, by omega⟩
      obtain ⟨aa, haa⟩ : ∃ a, a = around many 5 := ⟨_, rfl⟩
      obtain ⟨ak, hak⟩ : ∃ a, a = around k 41 := ⟨_, rfl⟩
      obtain ⟨am, ham⟩ : ∃ a, a = around k 2006 := ⟨_, rfl⟩
      rw [← haa] at lC hac
      simp only [← haa] at cC
      rw [← hak] at lK
      simp only [← hak] at cK
      rw [← ham] at lM
      simp only [← ham] at cM
      obtain ⟨lC1, lC2⟩ := lC
      obtain ⟨lK1, lK2⟩ := lK
      obtain ⟨lM1, lM2⟩ := lM
      have hac2 : ac ≤ 500 := by omega
      have CC := Lib.hid cC
      have CK := Lib.hid cK
      have CM := Lib.hid cM
      have HB2 := Lib.hid (And.intro B2 (And.intro hown hin))
      have HAC := Lib.hid hac
      have ohs := own_rd (B := 0) hown
      obtain ⟨A1, c1, rfl, -, hc1, hc2⟩ := ohs
      clear cC cK cM haa hak ham hH hown hin B2 hHl hb hac hlt B1 hmN hm30
      have cmk := make_zeros wr ac (398 + aa) HAC.out.symm (by omega)
      rcases hgu with g1 | ⟨g1, g2⟩
      all_goals
        go_wp2_with fail
        refine (CC.out _).mono ?_
        rintro e w4 ⟨rfl, rfl⟩
        go_wp2_with fail
        have hmkW : ∀ W3, W3 = ((w4.alloc (.cells (Array.replicate ac (Value.int .i64 0)) 3)).alloc (.cells #[.slice A1 H.length c1, .slice none 0 0, .slice (some ⟨w4.heap.size, 0, none⟩) ac ac] 23)) →
            Blk W3 w4.heap.size (List.replicate ac (.int .i64 0)) 3 ∧ Blk W3 (w4.heap.size + 1) [.slice A1 H.length c1, .slice none 0 0, .slice (some ⟨w4.heap.size, 0, none⟩) ac ac] 23 ∧ Below w4.heap.size w4 W3 := fun W3 h => by
          have hb := two_blocks w4 (List.replicate ac (.int .i64 0)) [.slice A1 H.length c1, .slice none 0 0, .slice (some ⟨w4.heap.size, 0, none⟩) ac ac] 3 23
          rw [h]
          simpa using hb
        obtain ⟨W3, hW3⟩ : ∃ W3, W3 = ((w4.alloc (.cells (Array.replicate ac (Value.int .i64 0)) 3)).alloc (.cells #[.slice A1 H.length c1, .slice none 0 0, .slice (some ⟨w4.heap.size, 0, none⟩) ac ac] 23)) := ⟨_, rfl⟩
        obtain ⟨k0, k1, kb⟩ := hmkW W3 hW3
        rw [← hW3]
        have hrdH := own_rd2 HB2.out.2.1
        have hrdH := (hrdH.below kb).more kb.size
        have kb := HB2.out.1.trans (kb.mono HB2.out.1.size)
        have K3 := Lib.hid (And.intro k0 (And.intro k1 (And.intro kb hrdH)))
        clear k0 k1 kb hmkW hW3 cmk hrdH
        refine (CK.out _).mono ?_
        rintro e w5 ⟨rfl, rfl⟩
        go_wp2_with fail
        refine (CM.out _).mono ?_
        rintro e w6 ⟨rfl, rfl⟩
        clear CC CK CM
        go_wp2_with fail
        obtain ⟨W7, hW7⟩ : ∃ W7, W7 = w6.alloc (.cells #[.int .i64 (ak - 20), .int .i64 k, .int .i64 (am - 1003)] 3) := ⟨_, rfl⟩
        have hb7 : Below w6.heap.size w6 W7 := by rw [hW7]; exact (Below.refl _ _).alloc (Nat.le_refl _) _
        have k2 : Blk W7 w6.heap.size [.int .i64 (ak - 20), .int .i64 k, .int .i64 (am - 1003)] 3 := by rw [hW7]; exact Blk.new w6 _ _
        have K7 := Lib.hid (And.intro (K3.out.1.below hb7 K3.out.1.lt) (And.intro (K3.out.2.1.below hb7 K3.out.2.1.lt) (And.intro k2 (And.intro (K3.out.2.2.1.trans (hb7.mono K3.out.2.2.1.size)) ((K3.out.2.2.2.below hb7).more hb7.size)))))
        rw [← hW7]
        clear hW7 hb7 k2 K3
        go_loopw [16, 17, 18, 19, 20, 21] (fun i j a b c d wr => ∃ t : Nat, t ≤ 3 ∧ i = .int .i64 t ∧ Below W7.heap.size W7 wr) (fun i _ _ _ _ _ _ => 3 - (intOf i).toNat)
        case atStart => exact ⟨0, by omega, rfl, Below.refl _ _⟩
        case round =>
          obtain ⟨i, hi, rfl, hb⟩ := hrel
          obtain ⟨wo, rfl⟩ : ∃ wo : World, wo = wr := ⟨_, rfl⟩
          by_cases hlt : i < 3
          · obtain ⟨AL, cL, LL, hL1, hL2, hL3, hL4, hL5, hL6⟩ : ∃ (AL : Option Addr) (cL : Nat) (LL : List Int), [Value.slice A1 H.length c1, .slice none 0 0, .slice (some ⟨w4.heap.size, 0, none⟩) ac ac][i]? = some (.slice AL LL.length cL) ∧ Rd W7 W7.heap.size AL (LL.map iv) ∧ LL.length ≤ 1000000000 ∧ LL.length ≤ cL ∧ cL ≤ maxLen ∧ ∀ z ∈ LL, M.I64 z := by
              match i, hlt with
              | 0, _ => exact ⟨A1, c1, H, rfl, K7.out.2.2.2.2, by omega, hc1, hc2, HB2.out.2.2⟩
              | 1, _ => exact ⟨none, 0, [], rfl, Rd.nil, by simp, by simp, by unfold maxLen; omega, fun z h => by cases h⟩
              | 2, _ => exact ⟨some ⟨w4.heap.size, 0, none⟩, ac, List.replicate ac 0, by simp, blk_rd (by rw [List.map_replicate]; exact K7.out.1), by simp; omega, by simp, by unfold maxLen; omega, fun z h => by rw [List.eq_of_mem_replicate h]; exact small64 _ (by decide) (by decide)⟩
            have hi3 : (i : Int) < 3 := by omega
            have HL := Lib.hid (And.intro hL1 (And.intro hL2 (And.intro hL3 (And.intro hL4 (And.intro hL5 (And.intro hL6 hlt))))))
            have HB := Lib.hid hb
            clear hL1 hL2 hL3 hL4 hL5 hL6 hb hlt
            go_wp2_with fail
            go_loopw [17, 18, 19, 20, 21] (fun j a b c d wr => ∃ t : Nat, t ≤ 3 ∧ j = .int .i64 t ∧ Below W7.heap.size W7 wr) (fun j _ _ _ _ _ => 3 - (intOf j).toNat)
            case atStart => exact ⟨0, by omega, rfl, HB.out⟩
            case round =>
              obtain ⟨j, hj, rfl, hb⟩ := hrel
              obtain ⟨wi, rfl⟩ : ∃ wi : World, wi = wr := ⟨_, rfl⟩
              by_cases hlt : j < 3
              · obtain ⟨u, hu, huI⟩ : ∃ u : Int, [Value.int .i64 (ak - 20), .int .i64 k, .int .i64 (am - 1003)][j]? = some (.int .i64 u) ∧ M.I64 u := by
                  match j, hlt with
                  | 0, _ => exact ⟨_, rfl, by unfold M.I64; omega⟩
                  | 1, _ => exact ⟨_, rfl, HI.out.1⟩
                  | 2, _ => exact ⟨_, rfl, by unfold M.I64; omega⟩
                have hj3 : (j : Int) < 3 := by omega
                have P : ∀ V : World, Below W7.heap.size W7 V → V.cell? ⟨w4.heap.size + 1, i, none⟩ = some (.slice AL LL.length cL) ∧ V.cell? ⟨w6.heap.size, j, none⟩ = some (.int .i64 u) := fun V hV =>
                  ⟨(K7.out.2.1.below hV K7.out.2.1.lt).cell i _ HL.out.1, (K7.out.2.2.1.below hV K7.out.2.2.1.lt).cell j _ hu⟩
                have cW := fun W (hV : Below W7.heap.size W7 W) => calWork_any day u AL cL LL W (small64 _ (by omega) (by omega)) huI ((HL.out.2.1.below hV).more hV.size) HL.out.2.2.1 HL.out.2.2.2.1 HL.out.2.2.2.2.1 HL.out.2.2.2.2.2.1
                have rW := fun W (hV : Below W7.heap.size W7 W) => refWork_any day u AL cL LL W ((HL.out.2.1.below hV).more hV.size) HL.out.2.2.1
                obtain ⟨⟨r1, r2⟩, hR⟩ : ∃ R, R = workR day u LL := ⟨_, rfl⟩
                simp only [← hR] at cW rW
                obtain ⟨NL, hNL⟩ : ∃ N, N = LL.length := ⟨_, rfl⟩
                simp only [← hNL] at cW rW P
                have q0 := fun q : BelT wi.heap.size wi => (P q.at (hb.trans (q.out.mono hb.size))).1
                have q1 := fun q : BelT wi.heap.size wi => (P q.at (hb.trans (q.out.mono hb.size))).2
                have CW := Lib.hid cW
                have RW := Lib.hid rW
                have HP := Lib.hid P
                have HB2' := Lib.hid hb
                have HJ := Lib.hid hlt
                clear hu huI P cW rW hR hNL hb hlt
                go_wp2_with fail
                refine wp_region_below wi.heap.size (by kernel_rfl) (by kernel_rfl) ?_
                repeat (go_big_quiet_step (exact (CW.out _ (HB2'.out.trans ((BelT.out _).mono HB2'.out.size))).mono fun e w' h => ⟨h.1, BelT.of ((BelT.out _).trans (h.2.mono (BelT.out _).size))⟩))
                refine wpQuiet_nil ?_
                intro w' hw'
                obtain ⟨q, rfl⟩ := hw'
                have hb5 := HB2'.out.trans (q.out.mono HB2'.out.size)
                obtain ⟨w8, hw8⟩ : ∃ w8, w8 = q.at := ⟨_, rfl⟩
                rw [← hw8] at hb5
                rw [← hw8]
                clear q0 q1 CW hw8 HB2'
                have q0 := fun q : BelT w8.heap.size w8 => (HP.out q.at (hb5.trans (q.out.mono hb5.size))).1
                have q1 := fun q : BelT w8.heap.size w8 => (HP.out q.at (hb5.trans (q.out.mono hb5.size))).2
                have HB5 := Lib.hid hb5
                clear hb5
                go_wp2_with fail
                refine wp_region_below w8.heap.size (by kernel_rfl) (by kernel_rfl) ?_
                repeat (go_big_quiet_step (exact (RW.out _ (HB5.out.trans ((BelT.out _).mono HB5.out.size))).mono fun e w' h => ⟨h.1, _, h.2⟩))
                refine wpQuiet_nil ?_
                intro w' hw'
                obtain ⟨q, rfl⟩ := hw'
                have HB6 := Lib.hid (HB5.out.trans (q.out.mono HB5.out.size))
                have HJ2 := HJ.out
                clear q0 q1 RW HB5
                go_wp2_with fail
                go_roundw
                case rel => exact ⟨j + 1, by omega, by go_num, HB6.out⟩
                case measure => simp [intOf]; omega
              · obtain rfl : j = 3 := by omega
                have HB2' := Lib.hid hb
                have HL2 := HL.out.2.2.2.2.2.2
                clear hb
                go_wp2_with fail
                go_roundw
                case rel => exact ⟨i + 1, by omega, by go_num, HB2'.out⟩
                case measure => simp [intOf]; omega
          · obtain rfl : i = 3 := by omega
            have cW := fun W (hV : Below W7.heap.size W7 W) => calWork_any raw 1 A1 c1 H W HI.out.2.2 (small64 _ (by decide) (by decide)) ((K7.out.2.2.2.2.below hV).more hV.size) (by omega) hc1 hc2 HB2.out.2.2
            have rW := fun W (hV : Below W7.heap.size W7 W) => refWork_any raw 1 A1 c1 H W ((K7.out.2.2.2.2.below hV).more hV.size) (by omega)
            obtain ⟨⟨r1, r2⟩, hR⟩ : ∃ R, R = workR raw 1 H := ⟨_, rfl⟩
            simp only [← hR] at cW rW
            obtain ⟨NL, hNL⟩ : ∃ N, N = H.length := ⟨_, rfl⟩
            simp only [← hNL] at cW rW
            rw [← hNL]
            have CW := Lib.hid cW
            have RW := Lib.hid rW
            have HB := Lib.hid hb
            clear cW rW hR hNL hb
            go_wp2_with fail
            refine (CW.out _ HB.out).mono ?_
            rintro e w8 ⟨rfl, hb8⟩
            have HB8 := Lib.hid (HB.out.trans (hb8.mono HB.out.size))
            clear hb8 HB CW
            go_wp2_with fail
            refine (RW.out _ HB8.out).mono ?_
            rintro e w9 ⟨rfl, rfl⟩
            clear RW
            go_wp2_with fail
            refine (calLives_any _ (HD.out.below (K7.out.2.2.2.1.trans (HB8.out.mono K7.out.2.2.2.1.size)) (Nat.le_refl _))).mono ?_
            rintro e wa ⟨rfl, hba⟩
            have HBa := Lib.hid ((K7.out.2.2.2.1.trans (HB8.out.mono K7.out.2.2.2.1.size)).trans (hba.mono (Nat.le_trans K7.out.2.2.2.1.size HB8.out.size)))
            clear hba
            go_wp2_with fail
            go_ret
            exact ⟨rfl, HBa.out⟩
end Go.Proofs.YtkenfgifhebnpaaDoor
