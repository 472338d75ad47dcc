import Derived.Lib.LazyBuf
import Derived.Lib.SlBuf
import Derived.Test.YtjdidnonfmdfmaaDoorJHashE

section
/- Stream.Add: the copy of a string's beginning; the stream of a message. -/



namespace Go.Proofs.YtjdidnonfmdfmaaDoor
open Go.RowKit
set_option linter.unusedVariables false

/-- 'copy(dst, s)' from a string: as much as fits. -/
theorem run_copy_min {P : Program} (w : World) (dT sT ty elem : TypeId) (b o dLen dCap : Nat) (t : ByteArray)
    (hu : P.underlying dT = some (.slice elem)) (hz : ∀ w, (Go.sizeOf elem).run P w = .ok 1 w) (n : Nat) (hn : n = min t.size dLen)
    (ht : w.there b o n) :
    (Builtin.copy_ #[dT, sT] ty #[.slice (some ⟨b, o, none⟩) dLen dCap, .string t]).run P w = .ok (goInt n) (w.setCells b o (((sb t).take n).map bv)) := by
  have hmin : Nat.min t.size dLen = n := hn.symm
  have hl : (((sb t).take n).map bv).length = n := by rw [List.length_map, List.length_take, sb_len]; omega
  have hst := run_storeCells_cells (P := P) b o (((sb t).take n).map bv) 0 w (by rw [hl]; simpa using fun j hj => (ht j hj).1) (by rw [hl]; simpa using fun j hj => (ht j hj).2) (bytes_one _)
  simp [Builtin.copy_, run_underlying hu, Builtin.lenOf, Builtin.firstCells, hz, hmin]
  rw [← List.map_take]
  simp only [Nat.add_zero] at hst
  have e : (List.map (fun x : UInt8 => Value.int IntKind.u8 (x.toNat : Int)) (List.take n t.data.toList)) = ((sb t).take n).map bv := rfl
  rw [e, hst, ← List.map_take]
  rfl

theorem Str_splice (s : H.St) (b x : List UInt8) (n r : Nat) (hb : b.length = 64) (hr : r + x.length ≤ 64) :
    (Str s b n).take (8 + r) ++ x.map bv ++ (Str s b n).drop (8 + r + x.length) = Str s (b.take r ++ x ++ b.drop (r + x.length)) n := by
  have hw : (s.words.map wv).length = 8 := rfl
  unfold Str
  rw [List.take_append, List.take_of_length_le (by rw [hw]; omega), List.drop_append, List.drop_of_length_le (by rw [hw]; omega), hw, show 8 + r - 8 = r by omega, show 8 + r + x.length - 8 = r + x.length by omega,
    List.take_append_of_le_length (by simp [hb]; omega), List.drop_append_of_le_length (by simp [hb]; omega)]
  simp
theorem Str_set_num (s : H.St) (b : List UInt8) (n n' : Nat) (hb : b.length = 64) : (Str s b n).set 72 (.int .u64 (n' : Int)) = Str s b n' := by
  have hw : (s.words.map wv).length = 8 := rfl
  unfold Str
  rw [List.set_append_right _ _ (by rw [hw]; omega), hw, List.set_append_right _ _ (by simp [hb])]
  simp [hb]
/-- The stream whose message is m. -/
def Strm (m : List UInt8) : List Value := Str (H.state m) (H.block m) m.length
theorem Strm_len (m : List UInt8) : (Strm m).length = 73 := Str_len _ _ _ (H.block_len m)
theorem fill_block (m x : List UInt8) (h : m.length % 64 + x.length ≤ 64) :
    (H.block m).take (m.length % 64) ++ x ++ (H.block m).drop (m.length % 64 + x.length) = H.rest m ++ x ++ H.zeros (64 - (m.length % 64 + x.length)) := by
  have hr := H.rest_len m
  unfold H.block
  rw [List.take_append_of_le_length (by omega), List.take_of_length_le (by omega), List.drop_append, List.drop_of_length_le (by omega), List.nil_append, hr]
  simp [H.zeros, show m.length % 64 + x.length - m.length % 64 = x.length by omega]
  omega
theorem Strm_grow (m x : List UInt8) (h : m.length % 64 + x.length < 64) : Str (H.state m) (H.rest m ++ x ++ H.zeros (64 - (m.length % 64 + x.length))) (m.length + x.length) = Strm (m ++ x) := by
  obtain ⟨h1, h2⟩ := H.state_grow m x h
  unfold Strm
  rw [h1, List.length_append]
  congr 1
  unfold H.block
  rw [h2, List.length_append, show (m.length + x.length) % 64 = m.length % 64 + x.length by omega]
theorem Strm_full (m x : List UInt8) (h : m.length % 64 + x.length = 64) : Str (H.compress (H.state m) (H.rest m ++ x ++ H.zeros (64 - (m.length % 64 + x.length)))) (H.zeros 64) (m.length + x.length) = Strm (m ++ x) := by
  obtain ⟨h1, h2⟩ := H.state_full m x h
  unfold Strm
  rw [h1, List.length_append, h, show H.zeros (64 - 64) = [] from rfl, List.append_nil]
  congr 1
  unfold H.block
  rw [h2, List.length_append, show (m.length + x.length) % 64 = 0 by omega]
  rfl
theorem Strm_nil : Strm [] = Str H.init (H.zeros 64) 0 := rfl

theorem slice_block (W : World) (b r : Nat) (hr : r < 64) :
    (Instr.sliceAt 83 (.pointer (some ⟨b, 8, none⟩)) (some (.int .i64 (r : Int))) none none).run Tryd.prog W = .ok (.slice (some ⟨b, 8 + r, none⟩) (64 - r) (64 - r)) W := by
  have h1 : Tryd.prog.arrayLen 83 = 64 := by kernel_rfl
  have h := run_sliceAt_array_l (P := Tryd.prog) W 83 ⟨b, 8, none⟩ (by kernel_rfl) .i64 (r : Int) (by omega) (by rw [h1]; omega)
  rw [h]
  have h2 : (sizeOf (Tryd.prog.elem 83)).run Tryd.prog W = .ok 1 W := by kernel_rfl
  rw [h2, h1]
  have h3 : ¬ (64 = r) := by omega
  simp [slicedAt, Addr.add, h3]
theorem size_u8 (W : World) : (sizeOf 5).run Tryd.prog W = .ok 1 W := by kernel_rfl
end Go.Proofs.YtjdidnonfmdfmaaDoor
end

