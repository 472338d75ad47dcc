/- The closures of wire.GetInts and wire.GetStrings, by contracts of their own; wire.GetInts, wire.GetStrings. -/
import Derived.Test.YtacgekhphhhmpaaWireH
namespace Go.Proofs.Ytacgekhphhhmpaa
open Go.RowKit
set_option linter.unusedVariables false

/-- The captured variable, a block of one cell, holds a slice of the call's own with these cells. -/
def InvOf {α : Type} (Bl : Nat) (T e : TypeId) (size : Nat) (cells : List α → List Value) (w : World) (L : List α) : Prop :=
  ∃ v, w.heap[Bl]? = some (.cells #[v] T (0, 0)) ∧ w.ownsRow (Bl + 1) e size v L.length (cells L)

theorem own_ex {w : World} {base n size : Nat} {e : TypeId} {v : Value} {xs : List Value} (h : w.ownsRow base e size v n xs) (hn : 0 < n) : ∃ g cap, v = .slice (some ⟨g, 0, none⟩) n cap ∧ base ≤ g := by
  rcases h.2 with ⟨_, h0⟩ | ⟨g, cap, cur, hv, hb, _⟩
  · omega
  · exact ⟨g, cap, hv, hb⟩
theorem info_int : (Try.prog.info? 3).map (fun i => (i.zero, i.size, i.bytes)) = some (some (.int .i64 0), 1, 8) := by kernel_rfl
theorem info_str : (Try.prog.info? 9).map (fun i => (i.zero, i.size, i.bytes)) = some (some (.string ByteArray.empty), 1, 16) := by kernel_rfl

theorem cell_one (w : World) (x : Value) (t : TypeId) : ∀ (j : Nat) (u : Value), [x][j]? = some u → (w.alloc (.cells #[x] t)).cell? ((⟨w.heap.size, 0, none⟩ : Addr).add j) = some u := by
  intro j u hu
  match j, hu with
  | 0, hu => simp at hu; subst hu; simp [Addr.add]

/-- What an append and the store of its result make of the invariant. -/
theorem inv_push {α : Type} {Bl : Nat} {T e : TypeId} {size : Nat} {cells : List α → List Value} {w w1 : World} {L : List α} {a : α} {v v' : Value} {o : Obj} {xs : List Value}
    (hv : w.heap[Bl]? = some (.cells #[v] T (0, 0))) (hown : w.ownsRow (Bl + 1) e size v L.length (cells L))
    (hown' : w1.ownsRow (Bl + 1) e size v' (L.length + 1) (cells L ++ xs)) (hgrow : (w.alloc o).grownBy w1 v.ownBlock) (hx : cells (L ++ [a]) = cells L ++ xs) :
    InvOf Bl T e size cells (w1.setCell ⟨Bl, 0, none⟩ v') (L ++ [a]) ∧ Below Bl w (w1.setCell ⟨Bl, 0, none⟩ v') ∧ w1.cell? ⟨Bl, 0, none⟩ = some v ∧ w1.frozen? ⟨Bl, 0, none⟩ = false := by
  have hlt := lt_of_block hv
  have hne : some Bl ≠ v.ownBlock := fun h => by have := (hown.lt Bl h.symm).1; omega
  have hv1 : w1.heap[Bl]? = some (.cells #[v] T (0, 0)) := by
    rw [hgrow.block Bl (by simp; omega) hne, Below.heap_alloc _ _ _ hlt]; exact hv
  refine ⟨⟨v', one_setCell hv1, ?_⟩, ?_, cell_of_one hv1, free_of_one hv1⟩
  · rw [hx, List.length_append]
    exact ownsRow_setCell_below hown' (by show Bl < Bl + 1; omega) v'
  · exact (((Below.refl Bl w).alloc (by omega) o).grown hgrow (by simp; omega) (fun k hk => by have := (hown.lt k hk).1; omega)).setCell (Nat.le_refl _) v'

set_option maxHeartbeats 1000000 in
theorem getInts1_any (Bl : Nat) (W : World) (A : Option Addr) (c : Nat) (q : List UInt8) (L : List Int) (hr : RdB W Bl A q) (hc : q.length ≤ c) (hm : c ≤ maxLen) (hL : L.length ≤ 1000000000)
    (hI : InvOf Bl 22 3 1 (List.map iv) W L) :
    Calls Try.prog 43 #[.slice A q.length c, .pointer (some ⟨Bl, 0, none⟩)] W (StepPost Bl (InvOf Bl 22 3 1 (List.map iv)) L (M.getI q) W) := by
  obtain ⟨i0, hi, hz0, hz1, hz2⟩ := info_parts info_int
  obtain ⟨v, hv, hown⟩ := hI
  have hlt := lt_of_block hv
  have hcv := cell_of_one hv
  have hgi := getInt_any A c q W Bl hr hc hm
  obtain ⟨a, ha⟩ : ∃ a, a = M.getI q := ⟨_, rfl⟩
  rw [← ha] at hgi ⊢
  have Hgi := Lib.hid hgi
  have Hv := Lib.hid hv
  clear hgi ha hr hc hm hv
  have hmx : L.length + 1 ≤ maxLen := by unfold maxLen; omega
  go_enter Try.func43, Try.ntmps43
  go_wp2_with fail
  refine Hgi.out.mono ?_
  rintro e w' ⟨rfl, rfl⟩
  unfold I3
  go_wp2_with (at_builtin; refine wpList_append_own _ rfl (.tmp 14) (.tmp 16) 22 rfl (Bl + 1) 3 i0 (.int .i64 0) 1 8 Try.underlying22 hi hz0 hz1 hz2 rfl (by decide) v L.length (L.map iv) rfl (hown.alloc _) ⟨W.heap.size, 0, none⟩ 1 1 [iv a.1] rfl rfl (cell_one _ _ _) (by intro u hu; simp at hu; subst hu; rfl) hmx (by omega) (by simp; omega) ?_; intro v' w1 hown' hgrow _; obtain ⟨hp1, hp2, hp3, hp4⟩ := inv_push (a := a.1) Hv.out hown hown' hgrow (by simp); obtain ⟨g, cap, hvv, -⟩ := own_ex hown' (by omega); subst hvv; clear hown' hgrow)
  go_ret2
  exact ⟨rfl, hp2, hp1⟩

set_option maxHeartbeats 1000000 in
theorem getStrings1_any (Bl : Nat) (W : World) (A : Option Addr) (c : Nat) (q : List UInt8) (L : List ByteArray) (hr : RdB W Bl A q) (hc : q.length ≤ c) (hm : c ≤ maxLen) (hL : L.length ≤ 1000000000)
    (hI : InvOf Bl 23 9 1 (List.map sv) W L) :
    Calls Try.prog 44 #[.slice A q.length c, .pointer (some ⟨Bl, 0, none⟩)] W (StepPost Bl (InvOf Bl 23 9 1 (List.map sv)) L (bs (M.getB q).1, (M.getB q).2) W) := by
  obtain ⟨i0, hi, hz0, hz1, hz2⟩ := info_parts info_str
  obtain ⟨v, hv, hown⟩ := hI
  have hlt := lt_of_block hv
  have hcv := cell_of_one hv
  have hgi := getBytes_any A c q W Bl hr hc hm
  obtain ⟨a, ha⟩ : ∃ a, a = (bs (M.getB q).1, (M.getB q).2) := ⟨_, rfl⟩
  rw [show bs (M.getB q).1 = a.1 from by rw [ha], show (M.getB q).2 = a.2 from by rw [ha]] at hgi
  rw [← ha]
  have Hgi := Lib.hid hgi
  have Hv := Lib.hid hv
  clear hgi ha hr hc hm hv
  have hmx : L.length + 1 ≤ maxLen := by unfold maxLen; omega
  go_enter Try.func44, Try.ntmps44
  go_wp2_with fail
  refine Hgi.out.mono ?_
  rintro e w' ⟨rfl, rfl⟩
  unfold S3
  go_wp2_with (at_builtin; refine wpList_append_own _ rfl (.tmp 14) (.tmp 16) 23 rfl (Bl + 1) 9 i0 (.string ByteArray.empty) 1 16 Try.underlying23 hi hz0 hz1 hz2 rfl (by decide) v L.length (L.map sv) rfl (hown.alloc _) ⟨W.heap.size, 0, none⟩ 1 1 [sv a.1] rfl rfl (cell_one _ _ _) (by intro u hu; simp at hu; subst hu; rfl) hmx (by omega) (by simp; omega) ?_; intro v' w1 hown' hgrow _; obtain ⟨hp1, hp2, hp3, hp4⟩ := inv_push (a := a.1) Hv.out hown hown' hgrow (by simp); obtain ⟨g, cap, hvv, -⟩ := own_ex hown' (by omega); subst hvv; clear hown' hgrow)
  go_ret2
  exact ⟨rfl, hp2, hp1⟩

theorem getB_used (l : List UInt8) : (M.getB l).2.1 ≤ l.length := by
  unfold M.getB
  by_cases h : (M.getLen l 1).2.2 ≠ 0
  · rw [if_pos h]; exact Nat.zero_le _
  · rw [if_neg h]
    obtain ⟨h1, h2, h3, h4, h5⟩ := M.getLen_ok l 1 (by omega) (by omega)
    have := (M.getI_ok l h1).2.1
    rw [h2, h3]
    show (M.getI l).2.1 + (M.getI l).1.toNat ≤ l.length
    omega

/-- A decoded list: the error with zeros, or the list in a new row. -/
def GotList {α : Type} (e : TypeId) (size : Nat) (cells : List α → List Value) (r : List α × Nat × Nat) (w : World) (en : Ending) (w' : World) : Prop :=
  ∃ v, en = .returned (.tuple #[v, .int .i64 r.2.1, .int .i64 r.2.2]) ∧ w'.ownsRow (w.heap.size + 1) e size v r.1.length (cells r.1) ∧ Below w.heap.size w w'

set_option maxHeartbeats 1000000 in
theorem getInts_any (A : Option Addr) (cap : Nat) (l : List UInt8) (w : World) (hr : RdB w w.heap.size A l) (hc : l.length ≤ cap) (hm : cap ≤ maxLen) (hl : l.length ≤ 1000000000) :
    Calls Try.prog 28 #[.slice A l.length cap] w (GotList 3 1 (List.map iv) (M.getLs M.getI 1 l) w) := by
  have hnew := heap_alloc_new w (.cells #[.slice none 0 0] 22)
  have hI0 : InvOf w.heap.size 22 3 1 (List.map iv) (w.alloc (.cells #[.slice none 0 0] 22)) [] := ⟨_, hnew, World.ownsRow_nil _ _ _ _⟩
  have hgl := getList_any 43 (.pointer (some ⟨w.heap.size, 0, none⟩)) M.getI (InvOf w.heap.size 22 3 1 (List.map iv)) w.heap.size (fun _ _ => rfl)
    (fun W A c q L h1 h2 h3 h4 h5 => getInts1_any w.heap.size W A c q L h1 h2 h3 h4 h5) M.getI_used A cap l (w.alloc (.cells #[.slice none 0 0] 22)) 1 (hr.alloc (Nat.le_refl _) _) hc hm (by omega) (by omega) hl hI0
  obtain ⟨r, hR⟩ : ∃ r, r = M.getLs M.getI 1 l := ⟨_, rfl⟩
  rw [← hR] at hgl ⊢
  have herr : r.2.2 ≠ 0 → r.1 = [] ∧ r.2.1 = 0 := by
    rw [hR]; exact M.getLs_zero M.getI 1 l
  have Herr := Lib.hid herr
  have Hgl := Lib.hid hgl
  clear hnew hgl herr hR hI0
  have hmf : ∀ (fn : Fn) (first cap : Array Value) (w : World), (Instr.makeFunc fn first cap).run Try.prog w = .ok (.func fn first cap) w := fun _ _ _ _ => rfl
  go_enter Try.func28, Try.ntmps28
  go_wp2_with fail
  refine Hgl.out.mono ?_
  rintro e w1 ⟨rfl, hbel, hinv⟩
  have hbel' := ((Below.refl w.heap.size w).alloc (Nat.le_refl _) (.cells #[.slice none 0 0] 22)).trans hbel
  unfold I2
  by_cases hE : r.2.2 = 0
  · obtain ⟨v, hv, hown⟩ := hinv hE
    have hcv := cell_of_one hv
    have hE' : ((r.2.2 : Int) != 0) = false := by rw [hE]; rfl
    have HE := Lib.hid hE
    have Hv := Lib.hid hv
    clear hE hv hinv
    go_wp2_with fail
    go_ret3
    exact ⟨v, by rw [HE.out]; rfl, hown, hbel'⟩
  · have hE' : ((r.2.2 : Int) != 0) = true := by simp; omega
    clear hinv
    go_wp2_with fail
    go_ret3
    obtain ⟨z1, z2⟩ := Herr.out hE
    exact ⟨.slice none 0 0, by rw [z2]; rfl, by rw [z1]; exact World.ownsRow_nil _ _ _ _, hbel'⟩
end Go.Proofs.Ytacgekhphhhmpaa
