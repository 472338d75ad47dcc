import Derived.WalkSpells
import Derived.Deep.LoopGhost
import Derived.Test.YtjdidnonfmdfmaaDoorJWireA0

section
/- The contract of wire.Int: it returns a new row that holds the encoding; nothing that was there has changed. -/



namespace Go.Proofs.YtjdidnonfmdfmaaDoor
open Go.RowKit
set_option linter.unusedVariables false

def bv (c : UInt8) : Value := .int .u8 (c.toNat : Int)
theorem info_u8 : (Tryd.prog.info? 5).map (fun i => (i.zero, i.size, i.bytes)) = some (some (.int .u8 0), 1, 1) := by kernel_rfl

def roomAt (B f : Nat) : Addr := if 8 = f then ⟨B, 0, none⟩ else ⟨B, f, none⟩
theorem slice_room (W : World) (B f : Nat) (hf : f ≤ 8) :
    (Instr.sliceAt 96 (.pointer (some ⟨B, 0, none⟩)) (some (.int .i64 (f : Int))) none none).run Tryd.prog W = .ok (.slice (some (roomAt B f)) (8 - f) (8 - f)) W := by
  have h1 : Tryd.prog.arrayLen 96 = 8 := by kernel_rfl
  have h := run_sliceAt_array_l (P := Tryd.prog) W 96 ⟨B, 0, none⟩ (by kernel_rfl) .i64 (f : Int) (by omega) (by rw [h1]; omega)
  rw [h]
  have h2 : (sizeOf (Tryd.prog.elem 96)).run Tryd.prog W = .ok 1 W := by kernel_rfl
  rw [h2, h1]
  simp [slicedAt, roomAt, Addr.add]
  split <;> simp_all

theorem int_end (n : Int) (f : Nat) (R : List UInt8) (h : M.I64 n) (hf : f ≤ 8) (hR : R.length = 8) (hd : R.drop f = (M.lowd (8 - f) (M.mag n)).map (M.flip (decide (n < 0))))
    (hg : M.digs 8 (M.mag n) = M.digs f 0 ++ M.lowd (8 - f) (M.mag n)) :
    (M.encI n).length = 1 + (8 - f) ∧ (M.encI n).map bv = [.int .u8 (if n < 0 then 127 - (8 - (f : Int)) else 128 + (8 - (f : Int)))] ++ (R.drop f).map bv := by
  rw [M.digs_zero, List.nil_append] at hg
  have hm := M.mag_lt n h
  have hl := M.digs_len (M.mag n) (by omega)
  rw [hg, M.lowd_len] at hl
  refine ⟨by rw [M.encI_len n h, ← hl], ?_⟩
  unfold M.encI
  rw [hd, hg, List.map_cons]
  congr 1
  unfold bv
  rw [M.head_toNat, ← hl]
  split <;> congr 1 <;> omega

theorem room_cells {w : World} {B f : Nat} {R : List UInt8} (hR : R.length = 8) (hf : f ≤ 8) (hb : w.heap[B]? = some (.cells (R.map bv).toArray 96 (0, 0))) :
    ∀ j u, ((R.drop f).map bv)[j]? = some u → w.cell? ((roomAt B f).add j) = some u := by
  intro j u hu
  have hj : j < 8 - f := by
    have := (List.getElem?_eq_some_iff.1 hu).1
    simp [hR] at this
    exact this
  have e : (roomAt B f).add j = ⟨B, f + j, none⟩ := by
    unfold roomAt
    rw [if_neg (by omega)]
    simp [Addr.add]
  rw [e, cell_of_row w B (f + j) _ _ _ hb]
  rw [← hu]
  simp

theorem room_set {w : World} {B g : Nat} {R : List UInt8} (d : UInt8) (hb : w.heap[B]? = some (.cells (R.map bv).toArray 96 (0, 0))) :
    (w.setCell ⟨B, g, none⟩ (bv d)).heap[B]? = some (.cells ((R.set g d).map bv).toArray 96 (0, 0)) := by
  simp [World.setCell, Array.getElem?_modify, hb]

theorem drop_set (R : List UInt8) (g : Nat) (d : UInt8) (h : g < R.length) : (R.set g d).drop g = d :: R.drop (g + 1) := by
  rw [List.drop_eq_getElem_cons (by simpa using h)]
  simp [List.drop_set]

theorem own_one (w : World) (base : Nat) (h : base ≤ w.heap.size) (x : Value) : (w.alloc (.cells #[x] 5)).ownsRow base 5 1 (.slice (some ⟨w.heap.size, 0, none⟩) 1 1) 1 [x] :=
  ⟨rfl, .inr ⟨w.heap.size, 1, #[x], rfl, h, heap_alloc_new w _, Nat.le_refl _, by decide, rfl, rfl⟩⟩
theorem one_cells (l : List UInt8) : ∀ u ∈ l.map bv, u.oneCell' = true := by
  intro u hu
  obtain ⟨c, _, rfl⟩ := List.mem_map.1 hu
  rfl
theorem room_block (B f : Nat) : (roomAt B f).block = B := by unfold roomAt; split <;> rfl
theorem add_block (a : Addr) (n : Nat) : (a.add n).block = a.block := by unfold Addr.add; split <;> rfl

def IntPost (n : Int) (w : World) (e : Ending) (w' : World) : Prop := ∃ v, e = .returned v ∧ w'.ownsRow w.heap.size 5 1 v (M.encI n).length ((M.encI n).map bv) ∧ Below w.heap.size w w'

set_option maxHeartbeats 1000000 in
theorem int_any (n : Int) (w : World) (h : M.I64 n) : Calls Tryd.prog 60 #[.int .i64 n] w (IntPost n w) := by
  have hm := M.mag_lt n h
  obtain ⟨i0, hi, hz0, hz1, hz2⟩ := info_parts info_u8
  go_enter Tryd.func60, Tryd.ntmps60
  go_wp2_with fail
  go_step3
  go_wp2_with fail
  refine (magnitude_any n _ h).mono ?_
  rintro e w' ⟨rfl, rfl⟩
  go_wp2_with fail
  go_step3
  go_wp2_with fail
  go_loopw [3, 5] (fun x i wr => ∃ (f : Nat) (R : List UInt8), f ≤ 8 ∧ i = .int .i64 f ∧ x = .int .u64 ((M.mag n / 256 ^ (8 - f) : Nat)) ∧ R.length = 8 ∧
      R.drop f = (M.lowd (8 - f) (M.mag n)).map (M.flip (decide (n < 0))) ∧ M.digs 8 (M.mag n) = M.digs f (M.mag n / 256 ^ (8 - f)) ++ M.lowd (8 - f) (M.mag n) ∧
      wr.heap[w.heap.size]? = some (.cells (R.map bv).toArray 96 (0, 0)) ∧ wr.heap.size = w.heap.size + 1 ∧ Below w.heap.size w wr) (fun _ i _ => (intOf i).toNat)
  case atStart =>
    exact ⟨8, List.replicate 8 0, by omega, rfl, by simp, rfl, rfl, by simp [M.lowd], heap_alloc_new w _, by simp, (Below.refl _ _).alloc (Nat.le_refl _) _⟩
  case round =>
    obtain ⟨f, R, hf, rfl, rfl, hR, hd, hdigs, hblk, hsz, hbel⟩ := hrel
    have hX64 : M.mag n / 256 ^ (8 - f) ≤ M.mag n := Nat.div_le_self _ _
    have hlt : w.heap.size < wr.heap.size := by omega
    obtain ⟨X, hX⟩ : ∃ X, X = M.mag n / 256 ^ (8 - f) := ⟨_, rfl⟩
    rw [← hX] at hdigs hX64 ⊢
    by_cases h0 : X = 0
    · subst h0
      have hend := int_end n f R h hf hR hd hdigs
      have hcl : ∀ (o : Obj) j u, ((R.drop f).map bv)[j]? = some u → (wr.alloc o).cell? ((roomAt w.heap.size f).add j) = some u :=
        fun o j u hu => (World.cell?_alloc_lt wr o _ (by rw [add_block, room_block]; exact hlt)).trans (room_cells hR hf hblk j u hu)
      have Hend := Lib.hid hend
      have Hcl := Lib.hid hcl
      have HRl := Lib.hid (show (R.drop f).length = 8 - f by simp [hR])
      have hsl := fun W => slice_room W w.heap.size f hf
      clear hX hd hR hdigs hblk hsz hend hcl
      have hB : w.heap.size ≤ wr.heap.size := by omega
      have hmx : 1 + (8 - f) ≤ maxLen := by unfold maxLen; omega
      by_cases hn : n < 0
      all_goals
        go_wp2_with (at_builtin; refine wpList_append_own _ rfl (.tmp 41) (.tmp 43) 52 rfl w.heap.size 5 i0 (.int .u8 0) 1 1 Tryd.underlying52 hi hz0 hz1 hz2 rfl (by decide) _ 1 _ rfl (own_one wr w.heap.size hB _) (roomAt w.heap.size f) (8 - f) (8 - f) ((R.drop f).map bv) rfl (by simpa using HRl.out) (Hcl.out _) (one_cells _) hmx (by omega) (by simp; omega) ?_; intro v' w1 hown hgrow _)
        try rw [Exit.noGoto_ret]
        go_ret
        refine ⟨v', rfl, ?_, (hbel.alloc hB _).grown hgrow (by simp; omega) (fun k hk => by have hk' : wr.heap.size = k := Option.some.inj hk; omega)⟩
        rw [Hend.out.1, Hend.out.2]
        first | (rw [if_pos (by omega)]; simpa using hown) | (rw [if_neg (by omega)]; simpa using hown)
    · obtain ⟨g, rfl⟩ : ∃ g, f = g + 1 := by
        rcases f with _ | g
        · exact absurd (hX.trans (M.div_pow_lt _ hm)) h0
        · exact ⟨g, rfl⟩
      have hc : wr.cell? ⟨w.heap.size, g, none⟩ = some (bv (R.getD g 0)) := by
        rw [cell_of_row wr w.heap.size g _ _ _ hblk]
        have : g < R.length := by omega
        simp [this]
      have hfz : wr.frozen? ⟨w.heap.size, g, none⟩ = false := by simp [World.frozen?, hblk]
      have hXne : ((X : Int) == 0) = false := by simp; omega
      have hj : 8 - g = 8 - (g + 1) + 1 := by omega
      have hstep := M.digs_step g (8 - (g + 1)) (M.mag n) (by rw [← hX]; exact hdigs) (by rw [← hX]; exact h0)
      rw [← hj] at hstep
      have hdiv : M.mag n / 256 ^ (8 - g) = X / 256 := by rw [hj, hX, Nat.div_div_eq_div_mul, Nat.pow_succ]
      have hset := fun d => room_set (w := wr) (B := w.heap.size) (g := g) (R := R) d hblk
      have hds := fun d => drop_set R g d (by omega)
      have hlow : M.lowd (8 - g) (M.mag n) = UInt8.ofNat X :: M.lowd (8 - (g + 1)) (M.mag n) := by rw [hj, hX]; rfl
      have Hstep := Lib.hid hstep
      have Hset := Lib.hid hset
      have Hds := Lib.hid hds
      have Hlow := Lib.hid hlow
      have Hd := Lib.hid hd
      have HR := Lib.hid hR
      have Hdiv := Lib.hid hdiv
      have Hsz := Lib.hid hsz
      clear hX hd hR hdigs hblk hsz hstep hdiv hset hds hlow hj
      by_cases hn : n < 0
      · have hval : Value.int IntKind.u8 (255 - (X : Int) % 256) = bv (M.flip true (UInt8.ofNat X)) := by
          unfold bv; rw [M.flip_toNat]; simp; omega
        have Hval := Lib.hid hval
        clear hval
        go_wp2_with fail
        go_roundw
        case rel =>
          rw [Hval.out]
          refine ⟨g, R.set g (M.flip true (UInt8.ofNat X)), by omega, rfl, by rw [Hdiv.out]; go_num, by simp [HR.out], ?_, Hstep.out, Hset.out _, by simp [World.setCell, Hsz.out], hbel.setCell (Nat.le_refl _) _⟩
          rw [Hds.out, Hd.out, Hlow.out]
          simp [hn]
        case measure => simp [intOf]
      · have hval : Value.int IntKind.u8 ((X : Int) % 256) = bv (M.flip false (UInt8.ofNat X)) := by
          unfold bv; simp [M.flip]
        have Hval := Lib.hid hval
        clear hval
        go_wp2_with fail
        go_roundw
        case rel =>
          rw [Hval.out]
          refine ⟨g, R.set g (M.flip false (UInt8.ofNat X)), by omega, rfl, by rw [Hdiv.out]; go_num, by simp [HR.out], ?_, Hstep.out, Hset.out _, by simp [World.setCell, Hsz.out], hbel.setCell (Nat.le_refl _) _⟩
          rw [Hds.out, Hd.out, Hlow.out]
          simp [hn]
        case measure => simp [intOf]
end Go.Proofs.YtjdidnonfmdfmaaDoor
end

