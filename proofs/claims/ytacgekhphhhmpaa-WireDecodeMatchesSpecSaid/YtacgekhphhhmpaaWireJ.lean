/- wire.GetStrings; the closure of wire.GetDigests; wire.GetDigests. -/
import Derived.Test.YtacgekhphhhmpaaWireI
import Derived.Laws.CopyOwn
namespace Go.Proofs.Ytacgekhphhhmpaa
open Go.RowKit
set_option linter.unusedVariables false

def gS (q : List UInt8) : ByteArray × Nat × Nat := (bs (M.getB q).1, (M.getB q).2)

set_option maxHeartbeats 1000000 in
theorem getStrings_any (A : Option Addr) (cap : Nat) (l : List UInt8) (w : World) (hr : RdB w w.heap.size A l) (hc : l.length ≤ cap) (hm : cap ≤ maxLen) (hl : l.length ≤ 1000000000) :
    Calls Try.prog 31 #[.slice A l.length cap] w (GotList 9 1 (List.map sv) (M.getLs gS 1 l) w) := by
  have hnew := heap_alloc_new w (.cells #[.slice none 0 0] 23)
  have hI0 : InvOf w.heap.size 23 9 1 (List.map sv) (w.alloc (.cells #[.slice none 0 0] 23)) [] := ⟨_, hnew, World.ownsRow_nil _ _ _ _⟩
  have hgl := getList_any 44 (.pointer (some ⟨w.heap.size, 0, none⟩)) gS (InvOf w.heap.size 23 9 1 (List.map sv)) w.heap.size (fun _ _ => rfl)
    (fun W A c q L h1 h2 h3 h4 h5 => getStrings1_any w.heap.size W A c q L h1 h2 h3 h4 h5) (fun q => getB_used q) A cap l (w.alloc (.cells #[.slice none 0 0] 23)) 1 (hr.alloc (Nat.le_refl _) _) hc hm (by omega) (by omega) hl hI0
  obtain ⟨r, hR⟩ : ∃ r, r = M.getLs gS 1 l := ⟨_, rfl⟩
  rw [← hR] at hgl ⊢
  have herr : r.2.2 ≠ 0 → r.1 = [] ∧ r.2.1 = 0 := by
    rw [hR]; exact M.getLs_zero gS 1 l
  have Herr := Lib.hid herr
  have Hgl := Lib.hid hgl
  clear hnew hgl herr hR hI0
  have hmf : ∀ (fn : Fn) (first cap : Array Value) (w : World), (Instr.makeFunc fn first cap).run Try.prog w = .ok (.func fn first cap) w := fun _ _ _ _ => rfl
  go_enter Try.func31, Try.ntmps31
  go_wp2_with fail
  refine Hgl.out.mono ?_
  rintro e w1 ⟨rfl, hbel, hinv⟩
  have hbel' := ((Below.refl w.heap.size w).alloc (Nat.le_refl _) (.cells #[.slice none 0 0] 23)).trans hbel
  unfold I2
  by_cases hE : r.2.2 = 0
  · obtain ⟨v, hv, hown⟩ := hinv hE
    have hcv := cell_of_one hv
    have hE' : ((r.2.2 : Int) != 0) = false := by rw [hE]; rfl
    have HE := Lib.hid hE
    have Hv := Lib.hid hv
    clear hE hv hinv
    go_wp2_with fail
    go_ret3
    exact ⟨v, by rw [HE.out]; rfl, hown, hbel'⟩
  · have hE' : ((r.2.2 : Int) != 0) = true := by simp; omega
    clear hinv
    go_wp2_with fail
    go_ret3
    obtain ⟨z1, z2⟩ := Herr.out hE
    exact ⟨.slice none 0 0, by rw [z2]; rfl, by rw [z1]; exact World.ownsRow_nil _ _ _ _, hbel'⟩

/-- The first 16 bytes, zeros behind them where there are fewer. -/
def pad (q : List UInt8) : List UInt8 := q.take 16 ++ List.replicate (16 - (q.take 16).length) 0
theorem pad_len (q : List UInt8) : (pad q).length = 16 := by simp [pad]; omega
def gD (q : List UInt8) : List UInt8 × Nat × Nat := (pad q, min q.length 16, 0)
def dcells (L : List (List UInt8)) : List Value := L.flatten.map bv
def zero16 : List Value := [.int .u8 0, .int .u8 0, .int .u8 0, .int .u8 0, .int .u8 0, .int .u8 0, .int .u8 0, .int .u8 0, .int .u8 0, .int .u8 0, .int .u8 0, .int .u8 0, .int .u8 0, .int .u8 0, .int .u8 0, .int .u8 0]
theorem zero16_eq : zero16 = (List.replicate 16 (0 : UInt8)).map bv := rfl
theorem pad_splice (q : List UInt8) : splice zero16 0 ((q.take 16).map bv) = (pad q).map bv := by
  unfold splice pad
  rw [zero16_eq, List.take_zero, List.nil_append, List.map_append, Nat.zero_add, List.length_map, ← List.map_drop, List.drop_replicate]
theorem info_dig : (Try.prog.info? 57).map (fun i => (i.zero, i.size, i.bytes)) = some (some (.agg zero16.toArray), 16, 16) := by kernel_rfl

theorem cells_new (w : World) (xs : List Value) (t : TypeId) : ∀ (j : Nat) (u : Value), xs[j]? = some u → (w.alloc (.cells xs.toArray t)).cell? ((⟨w.heap.size, 0, none⟩ : Addr).add j) = some u := by
  intro j u hu
  rw [Addr.add_mid, cell_of_row _ _ _ _ _ _ (heap_alloc_new w _)]
  simpa using hu
theorem sixteen {α : Type} (l : List α) (h : l.length = 16) : ∃ x0 x1 x2 x3 x4 x5 x6 x7 x8 x9 x10 x11 x12 x13 x14 x15 : α, l = [x0, x1, x2, x3, x4, x5, x6, x7, x8, x9, x10, x11, x12, x13, x14, x15] := by
  match l, h with
  | [x0, x1, x2, x3, x4, x5, x6, x7, x8, x9, x10, x11, x12, x13, x14, x15], _ => exact ⟨x0, x1, x2, x3, x4, x5, x6, x7, x8, x9, x10, x11, x12, x13, x14, x15, rfl⟩

set_option maxHeartbeats 2000000 in
theorem getDigests1_any (Bl : Nat) (W : World) (A : Option Addr) (c : Nat) (q : List UInt8) (L : List (List UInt8)) (hr : RdB W Bl A q) (hc : q.length ≤ c) (hm : c ≤ maxLen) (hL : L.length ≤ 1000000000)
    (hI : InvOf Bl 24 57 16 dcells W L) :
    Calls Try.prog 45 #[.slice A q.length c, .pointer (some ⟨Bl, 0, none⟩)] W (StepPost Bl (InvOf Bl 24 57 16 dcells) L (gD q) W) := by
  obtain ⟨i0, hi, hz0, hz1, hz2⟩ := info_parts info_dig
  obtain ⟨v, hv, hown⟩ := hI
  have hlt := lt_of_block hv
  have hcv := cell_of_one hv
  have Hv := Lib.hid hv
  have hmx : L.length + 1 ≤ maxLen := by unfold maxLen; omega
  obtain ⟨cs, hcs⟩ : ∃ cs, cs = (q.take 16).map bv := ⟨_, rfl⟩
  obtain ⟨X, hX⟩ : ∃ X, X = (pad q).map bv := ⟨_, rfl⟩
  have hsp : splice zero16 0 cs = X := by rw [hcs, hX, pad_splice]
  have hXl : X.length = 16 := by rw [hX, List.length_map, pad_len]
  have hX1 : ∀ u ∈ X, u.oneCell' = true := by rw [hX]; exact one_cells _
  have hcs1 : ∀ u ∈ cs, u.oneCell' = true := by rw [hcs]; exact one_cells _
  have hcsm : cs.length = min q.length 16 := by rw [hcs]; simp; omega
  have hcsl : cs.length = Nat.min q.length 16 := hcsm
  have hpos : 0 < cs.length → (some (⟨W.heap.size, 0, none⟩ : Addr) = some ⟨W.heap.size, 0, none⟩) ∧ ∃ ad, A = some ad ∧ ∀ (j : Nat) (u : Value), cs[j]? = some u → (W.alloc (.cells #[.int .u8 0, .int .u8 0, .int .u8 0, .int .u8 0, .int .u8 0, .int .u8 0, .int .u8 0, .int .u8 0, .int .u8 0, .int .u8 0, .int .u8 0, .int .u8 0, .int .u8 0, .int .u8 0, .int .u8 0, .int .u8 0] 57)).cell? (ad.add j) = some u := by
    intro h
    have hq0 : 0 < (q.map bv).length := by simp; omega
    obtain ⟨b, off, rfl, hb, hcell⟩ := hr hq0
    refine ⟨rfl, _, rfl, fun j u hu => ?_⟩
    rw [World.cell?_alloc_lt W _ _ (by rw [add_block]; show b < W.heap.size; omega), Addr.add_mid]
    refine hcell j u ?_
    rw [hcs, List.map_take, List.getElem?_take] at hu
    split at hu
    · exact hu
    · cases hu
  have hz := heap_alloc_new W (.cells #[.int .u8 0, .int .u8 0, .int .u8 0, .int .u8 0, .int .u8 0, .int .u8 0, .int .u8 0, .int .u8 0, .int .u8 0, .int .u8 0, .int .u8 0, .int .u8 0, .int .u8 0, .int .u8 0, .int .u8 0, .int .u8 0] 57)
  have hfit : 0 + cs.length ≤ zero16.length := by show _ ≤ 16; omega
  have hn57 : (Try.prog.info? 57).map (·.size) = some X.toArray.size := by rw [show X.toArray.size = 16 from by simpa using hXl]; kernel_rfl
  have hn5 : (Try.prog.info? 5).map (·.size) = some 1 := by kernel_rfl
  have hcx : dcells (L ++ [pad q]) = dcells L ++ X := by rw [hX]; simp [dcells]
  have hb0 : Below W.heap.size W (W.alloc (.cells #[.int .u8 0, .int .u8 0, .int .u8 0, .int .u8 0, .int .u8 0, .int .u8 0, .int .u8 0, .int .u8 0, .int .u8 0, .int .u8 0, .int .u8 0, .int .u8 0, .int .u8 0, .int .u8 0, .int .u8 0, .int .u8 0] 57)) := (Below.refl _ _).alloc (Nat.le_refl _) _
  have Hsp := Lib.hid hsp
  have HXl := Lib.hid hXl
  have HX1 := Lib.hid hX1
  have Hcs1 := Lib.hid hcs1
  have Hcsl := Lib.hid hcsl
  have Hpos := Lib.hid hpos
  have Hz := Lib.hid hz
  have Hfit := Lib.hid hfit
  have Hn57 := Lib.hid hn57
  have Hn5 := Lib.hid hn5
  have Hcx := Lib.hid hcx
  have Hcsm := Lib.hid hcsm
  clear hcsm hv hcs hX hsp hXl hX1 hcs1 hcsl hpos hz hfit hn57 hn5 hcx hr hc hm
  obtain ⟨x0, x1, x2, x3, x4, x5, x6, x7, x8, x9, x10, x11, x12, x13, x14, x15, rfl⟩ := sixteen X HXl.out
  go_enter Try.func45, Try.ntmps45
  go_wp2_with (first
    | (refine wpList_copy_splice (o := ⟨some 9, _, _, _, _, _⟩) rfl (.tmp 7) (.tmp 8) 28 28 rfl 5 Try.underlying28 Hn5.out (some ⟨W.heap.size, 0, none⟩) A 16 16 q.length c rfl rfl W.heap.size 0 zero16 57 Hz.out cs Hcsl.out Hpos.out Hfit.out Hcs1.out W.heap.size W hb0 (Nat.le_refl _) ?_; intro w2 hblk hb2; have hcv2 := (hb2.cell (p := ⟨Bl, 0, none⟩) hlt).trans hcv; have hown2 := own_below hown hb2 (Nat.le_refl _); have hblk2 := hblk.out; rw [Hsp.out] at hblk2; have Hblk2 := Lib.hid hblk2; have Hv2 := Lib.hid ((hb2.block Bl hlt).trans Hv.out); clear hblk hblk2)
    | (refine wpList_load_row (o := ⟨some 11, _, _, _, _, _⟩) rfl 57 (.tmp 5) rfl W.heap.size rfl 57 #[x0, x1, x2, x3, x4, x5, x6, x7, x8, x9, x10, x11, x12, x13, x14, x15] (0, 0) _ Hblk2.out Try.underlying57 rfl Hn57.out ?_)
    | (at_builtin; refine wpList_append_own _ rfl (.tmp 10) (.tmp 12) 24 rfl (Bl + 1) 57 i0 (.agg zero16.toArray) 16 16 Try.underlying24 hi hz0 hz1 hz2 rfl (by decide) v L.length (dcells L) rfl (hown2.alloc _) ⟨w2.heap.size, 0, none⟩ 1 1 [x0, x1, x2, x3, x4, x5, x6, x7, x8, x9, x10, x11, x12, x13, x14, x15] rfl rfl (cells_new _ _ _) HX1.out hmx (by omega) (by have := hb2.size; simp; omega) ?_; intro v' w3 hown' hgrow _; obtain ⟨hp1, hp2, hp3, hp4⟩ := inv_push (a := pad q) Hv2.out hown2 hown' hgrow Hcx.out; obtain ⟨g, cap, hvv, -⟩ := own_ex hown' (by omega); subst hvv; clear hown' hgrow))
  go_ret2
  exact ⟨by rw [Hcsm.out]; rfl, (hb2.mono (Nat.le_of_lt hlt)).trans hp2, hp1⟩

set_option maxHeartbeats 1000000 in
theorem getDigests_any (A : Option Addr) (cap : Nat) (l : List UInt8) (w : World) (hr : RdB w w.heap.size A l) (hc : l.length ≤ cap) (hm : cap ≤ maxLen) (hl : l.length ≤ 1000000000) :
    Calls Try.prog 34 #[.slice A l.length cap] w (GotList 57 16 dcells (M.getLs gD 16 l) w) := by
  have hnew := heap_alloc_new w (.cells #[.slice none 0 0] 24)
  have hI0 : InvOf w.heap.size 24 57 16 dcells (w.alloc (.cells #[.slice none 0 0] 24)) [] := ⟨_, hnew, World.ownsRow_nil _ _ _ _⟩
  have hgl := getList_any 45 (.pointer (some ⟨w.heap.size, 0, none⟩)) gD (InvOf w.heap.size 24 57 16 dcells) w.heap.size (fun _ _ => rfl)
    (fun W A c q L h1 h2 h3 h4 h5 => getDigests1_any w.heap.size W A c q L h1 h2 h3 h4 h5) (fun q => Nat.min_le_left _ _) A cap l (w.alloc (.cells #[.slice none 0 0] 24)) 16 (hr.alloc (Nat.le_refl _) _) hc hm (by omega) (by omega) hl hI0
  obtain ⟨r, hR⟩ : ∃ r, r = M.getLs gD 16 l := ⟨_, rfl⟩
  rw [← hR] at hgl ⊢
  have herr : r.2.2 ≠ 0 → r.1 = [] ∧ r.2.1 = 0 := by
    rw [hR]; exact M.getLs_zero gD 16 l
  have Herr := Lib.hid herr
  have Hgl := Lib.hid hgl
  clear hnew hgl herr hR hI0
  have hmf : ∀ (fn : Fn) (first cap : Array Value) (w : World), (Instr.makeFunc fn first cap).run Try.prog w = .ok (.func fn first cap) w := fun _ _ _ _ => rfl
  go_enter Try.func34, Try.ntmps34
  go_wp2_with fail
  refine Hgl.out.mono ?_
  rintro e w1 ⟨rfl, hbel, hinv⟩
  have hbel' := ((Below.refl w.heap.size w).alloc (Nat.le_refl _) (.cells #[.slice none 0 0] 24)).trans hbel
  unfold I2
  by_cases hE : r.2.2 = 0
  · obtain ⟨v, hv, hown⟩ := hinv hE
    have hcv := cell_of_one hv
    have hE' : ((r.2.2 : Int) != 0) = false := by rw [hE]; rfl
    have HE := Lib.hid hE
    have Hv := Lib.hid hv
    clear hE hv hinv
    go_wp2_with fail
    go_ret3
    exact ⟨v, by rw [HE.out]; rfl, hown, hbel'⟩
  · have hE' : ((r.2.2 : Int) != 0) = true := by simp; omega
    clear hinv
    go_wp2_with fail
    go_ret3
    obtain ⟨z1, z2⟩ := Herr.out hE
    exact ⟨.slice none 0 0, by rw [z2]; rfl, by rw [z1]; exact World.ownsRow_nil _ _ _ _, hbel'⟩

end Go.Proofs.Ytacgekhphhhmpaa
