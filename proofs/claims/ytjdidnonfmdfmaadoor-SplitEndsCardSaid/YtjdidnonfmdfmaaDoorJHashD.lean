import Derived.Test.YtjdidnonfmdfmaaDoorJHashC

section
/- The contracts of hash.Begin, Stream.waiting and Stream.compressed. -/

namespace Go.Proofs.YtjdidnonfmdfmaaDoor
open Go.RowKit
set_option linter.unusedVariables false

/-- The cells of a stream: its state, its block, its length. -/
def Str (s : H.St) (b : List UInt8) (n : Nat) : List Value := s.words.map wv ++ (b.map bv ++ [.int .u64 (n : Int)])
theorem Str_len (s : H.St) (b : List UInt8) (n : Nat) (hb : b.length = 64) : (Str s b n).length = 73 := by simp [Str, H.words_len, hb]
theorem Str_words (s : H.St) (b : List UInt8) (n : Nat) (j : Nat) (hj : j < (s.words.map wv).length) : (Str s b n)[0 + j]? = (s.words.map wv)[j]? := by
  unfold Str
  rw [Nat.zero_add, List.getElem?_append_left hj]
theorem Str_block (s : H.St) (b : List UInt8) (n : Nat) (j : Nat) (hj : j < (b.map bv).length) : (Str s b n)[8 + j]? = (b.map bv)[j]? := by
  unfold Str
  rw [List.getElem?_append_right (by simp [H.words_len]), show 8 + j - (s.words.map wv).length = j by simp [H.words_len], List.getElem?_append_left hj]
theorem Str_num (s : H.St) (b : List UInt8) (n : Nat) (hb : b.length = 64) : (Str s b n)[72]? = some (.int .u64 (n : Int)) := by
  unfold Str
  rw [List.getElem?_append_right (by simp [H.words_len]), show 72 - (s.words.map wv).length = 64 by simp [H.words_len], List.getElem?_append_right (by simp [hb])]
  simp [hb]
theorem Str_set_words (s s' : H.St) (b : List UInt8) (n : Nat) : (Str s b n).take 0 ++ s'.words.map wv ++ (Str s b n).drop 8 = Str s' b n := by
  unfold Str
  rw [List.take_zero, List.nil_append, List.drop_append, List.drop_of_length_le (by simp [H.words_len])]
  simp [H.words_len]
theorem Str_set_block (s : H.St) (b b' : List UInt8) (n : Nat) (hb : b.length = 64) : (Str s b n).take 8 ++ b'.map bv ++ (Str s b n).drop 72 = Str s b' n := by
  unfold Str
  rw [List.take_append, List.take_of_length_le (by simp [H.words_len]), List.drop_append, List.drop_of_length_le (by simp [H.words_len]), List.drop_append, List.drop_of_length_le (by simp [hb, H.words_len])]
  simp [H.words_len, hb]
theorem bytes_one (l : List UInt8) : ∀ u ∈ l.map bv, u.oneCell' = true := by
  intro u hu
  obtain ⟨c, _, rfl⟩ := List.mem_map.1 hu
  rfl
theorem Str_one (s : H.St) (b : List UInt8) (n : Nat) : ∀ u ∈ Str s b n, u.oneCell' = true := by
  intro u hu
  unfold Str at hu
  rcases List.mem_append.1 hu with h | h
  · exact words_cells _ u h
  · rcases List.mem_append.1 h with h | h
    · exact bytes_one b u h
    · rw [List.mem_singleton.1 h]; rfl
theorem stream_zero : (Tryd.prog.info? 86).map (fun i => (i.zero, i.size)) = some (some (.agg (Str ⟨0, 0, 0, 0, 0, 0, 0, 0⟩ (H.zeros 64) 0).toArray), 73) := by kernel_rfl
theorem size_stream {xs : List Value} (h : xs.length = 73) : (Tryd.prog.info? 86).map (·.size) = some xs.toArray.size := by rw [List.size_toArray, h]; kernel_rfl
theorem size_w8 {xs : List Value} (h : xs.length = 8) : (Tryd.prog.info? 82).map (·.size) = some xs.toArray.size := by rw [List.size_toArray, h]; kernel_rfl
theorem size_b64 {xs : List Value} (h : xs.length = 64) : (Tryd.prog.info? 83).map (·.size) = some xs.toArray.size := by rw [List.size_toArray, h]; kernel_rfl

set_option maxRecDepth 100000 in
theorem waiting_any (s : H.St) (b : List UInt8) (n : Nat) (w : World) (hb : b.length = 64) (hn : n < 9223372036854775808) :
    Calls Tryd.prog 63 #[.agg (Str s b n).toArray] w fun e w' => e = .returned (.int .i64 ((n % 64 : Nat) : Int)) ∧ Below w.heap.size w w' := by
  obtain ⟨X, hX⟩ : ∃ X, X = Str s b n := ⟨_, rfl⟩
  rw [← hX]
  have hc : (w.alloc (.cells X.toArray 86)).cell? ⟨w.heap.size, 72, none⟩ = some (.int .u64 (n : Int)) := (Blk.new w X 86).cell 72 _ (by rw [hX]; exact Str_num s b n hb)
  clear hX
  go_enter Tryd.func63, Tryd.ntmps63
  go_wp2_with fail
  go_ret
  exact ⟨congrArg Ending.returned (congrArg (Value.int IntKind.i64) (by omega)), (Below.refl _ _).alloc (Nat.le_refl _) _⟩

set_option maxRecDepth 100000 in
theorem begin_any (w : World) : Calls Tryd.prog 56 #[] w fun e w' => e = .returned (.agg (Str H.init (H.zeros 64) 0).toArray) ∧ Below w.heap.size w w' := by
  obtain ⟨hz, hs⟩ := zero_of_info stream_zero
  obtain ⟨T, hT⟩ : ∃ T, T = (H.zeros 64).map bv ++ [Value.int .u64 ((0 : Nat) : Int)] := ⟨_, rfl⟩
  have hz1 : Str ⟨0, 0, 0, 0, 0, 0, 0, 0⟩ (H.zeros 64) 0 = .int .u32 0 :: .int .u32 0 :: .int .u32 0 :: .int .u32 0 :: .int .u32 0 :: .int .u32 0 :: .int .u32 0 :: .int .u32 0 :: T := by rw [hT]; rfl
  have hi1 : Str H.init (H.zeros 64) 0 = .int .u32 1779033703 :: .int .u32 3144134277 :: .int .u32 1013904242 :: .int .u32 2773480762 :: .int .u32 1359893119 :: .int .u32 2600822924 :: .int .u32 528734635 :: .int .u32 1541459225 :: T := by rw [hT]; rfl
  rw [hz1] at hz
  rw [hi1]
  have hTl : T.length = 65 := by rw [hT]; simp [H.zeros_len]
  have hth : (w.alloc (.cells (.int .u32 0 :: .int .u32 0 :: .int .u32 0 :: .int .u32 0 :: .int .u32 0 :: .int .u32 0 :: .int .u32 0 :: .int .u32 0 :: T).toArray 86)).there w.heap.size 0 ((.int .u32 1779033703 :: .int .u32 3144134277 :: .int .u32 1013904242 :: .int .u32 2773480762 :: .int .u32 1359893119 :: .int .u32 2600822924 :: .int .u32 528734635 :: .int .u32 1541459225 :: T) : List Value).toArray.size := (Blk.new w _ _).there 0 _ (by simp)
  have hsz : (Tryd.prog.info? 86).map (·.size) = some ((.int .u32 1779033703 :: .int .u32 3144134277 :: .int .u32 1013904242 :: .int .u32 2773480762 :: .int .u32 1359893119 :: .int .u32 2600822924 :: .int .u32 528734635 :: .int .u32 1541459225 :: T) : List Value).toArray.size := size_stream (by simp [hTl])
  have hall : ((.int .u32 1779033703 :: .int .u32 3144134277 :: .int .u32 1013904242 :: .int .u32 2773480762 :: .int .u32 1359893119 :: .int .u32 2600822924 :: .int .u32 528734635 :: .int .u32 1541459225 :: T) : List Value).toArray.all (·.oneCell') = true := by
    rw [← hi1]
    exact all_oneCell_toArray (Str_one _ _ _)
  have hres := (Blk.new w (.int .u32 0 :: .int .u32 0 :: .int .u32 0 :: .int .u32 0 :: .int .u32 0 :: .int .u32 0 :: .int .u32 0 :: .int .u32 0 :: T) 86).whole (.int .u32 1779033703 :: .int .u32 3144134277 :: .int .u32 1013904242 :: .int .u32 2773480762 :: .int .u32 1359893119 :: .int .u32 2600822924 :: .int .u32 528734635 :: .int .u32 1541459225 :: T) (by simp)
  have hbel : Below w.heap.size w ((w.alloc (.cells (.int .u32 0 :: .int .u32 0 :: .int .u32 0 :: .int .u32 0 :: .int .u32 0 :: .int .u32 0 :: .int .u32 0 :: .int .u32 0 :: T).toArray 86)).setCells w.heap.size 0 (.int .u32 1779033703 :: .int .u32 3144134277 :: .int .u32 1013904242 :: .int .u32 2773480762 :: .int .u32 1359893119 :: .int .u32 2600822924 :: .int .u32 528734635 :: .int .u32 1541459225 :: T)) := below_setCells _ (Nat.le_refl _) _ _ _ ((Below.refl _ _).alloc (Nat.le_refl _) _)
  have HR := Lib.hid hres
  have HTl := Lib.hid hTl
  have Hsz := Lib.hid hsz
  clear hT hz1 hi1 hTl hs hres hsz
  go_enter Tryd.func56, Tryd.ntmps56
  go_wp2_with (refine wpList_store_mid rfl 86 (.tmp 0) (.tmp 2) rfl w.heap.size 0 (.int .u32 1779033703 :: .int .u32 3144134277 :: .int .u32 1013904242 :: .int .u32 2773480762 :: .int .u32 1359893119 :: .int .u32 2600822924 :: .int .u32 528734635 :: .int .u32 1541459225 :: T).toArray rfl rfl hth Hsz.out hall ?_)
  exact bodyPost_ret (results_cell_row rfl _ _ w.heap.size 86 _ (0, 0) _ rfl HR.out Tryd.underlying86 rfl Hsz.out) rfl ⟨rfl, hbel⟩
end Go.Proofs.YtjdidnonfmdfmaaDoor
end

