
section
/- Plain mathematics: SHA-256 over lists of bytes, its padding, its blocks. -/
namespace Go.Proofs.YtkelfcgomeojeaaDoor.H

abbrev W := BitVec 32
def oadd (x y : W) : W := x + y
def oxor (x y : W) : W := x ^^^ y
def oand (x y : W) : W := x &&& y
def oor (x y : W) : W := x ||| y
def onot (x : W) : W := ~~~x
def oshl (x : W) (n : Nat) : W := x <<< n
def oshr (x : W) (n : Nat) : W := x >>> n
def rotr (x : W) (n : Nat) : W := oor (oshr x n) (oshl x (32 - n))
def s0 (x : W) : W := oxor (oxor (rotr x 7) (rotr x 18)) (oshr x 3)
def s1 (x : W) : W := oxor (oxor (rotr x 17) (rotr x 19)) (oshr x 10)
/-- The round constants. -/
def KN : List Nat := [1116352408, 1899447441, 3049323471, 3921009573, 961987163, 1508970993, 2453635748, 2870763221, 3624381080, 310598401, 607225278, 1426881987, 1925078388, 2162078206, 2614888103, 3248222580, 3835390401, 4022224774, 264347078, 604807628, 770255983, 1249150122, 1555081692, 1996064986, 2554220882, 2821834349, 2952996808, 3210313671, 3336571891, 3584528711, 113926993, 338241895, 666307205, 773529912, 1294757372, 1396182291, 1695183700, 1986661051, 2177026350, 2456956037, 2730485921, 2820302411, 3259730800, 3345764771, 3516065817, 3600352804, 4094571909, 275423344, 430227734, 506948616, 659060556, 883997877, 958139571, 1322822218, 1537002063, 1747873779, 1955562222, 2024104815, 2227730452, 2361852424, 2428436474, 2756734187, 3204031479, 3329325298]
def K (i : Nat) : W := BitVec.ofNat 32 (KN.getD i 0)

/-- The eight words. -/
structure St where
  (a b c d e f g h : W)
def St.words (s : St) : List W := [s.a, s.b, s.c, s.d, s.e, s.f, s.g, s.h]
def tx (s : St) (k w : W) : W := oadd (oadd (oadd (oadd s.h (oxor (oxor (rotr s.e 6) (rotr s.e 11)) (rotr s.e 25))) (oxor (oand s.e s.f) (oand (onot s.e) s.g))) k) w
def ty (s : St) : W := oadd (oxor (oxor (rotr s.a 2) (rotr s.a 13)) (rotr s.a 22)) (oxor (oxor (oand s.a s.b) (oand s.a s.c)) (oand s.b s.c))
def step (s : St) (k w : W) : St := ⟨oadd (tx s k w) (ty s), s.a, s.b, s.c, oadd s.d (tx s k w), s.e, s.f, s.g⟩
def wat (l : List W) (i : Nat) : W := l.getD i 0
/-- The word behind a list of at least sixteen. -/
def next (l : List W) : W := oadd (oadd (oadd (wat l (l.length - 16)) (s0 (wat l (l.length - 15)))) (wat l (l.length - 7))) (s1 (wat l (l.length - 2)))
def ext : Nat → List W → List W
  | 0, l => l
  | n + 1, l => ext n l ++ [next (ext n l)]
def u (c : UInt8) : W := BitVec.ofNat 32 c.toNat
def word (b : List UInt8) (t : Nat) : W := oor (oor (oor (oshl (u (b.getD (4 * t) 0)) 24) (oshl (u (b.getD (4 * t + 1) 0)) 16)) (oshl (u (b.getD (4 * t + 2) 0)) 8)) (u (b.getD (4 * t + 3) 0))
def first (b : List UInt8) (n : Nat) : List W := (List.range n).map (word b)
def sched (b : List UInt8) : List W := ext 48 (first b 16)
def rounds (w : List W) (s : St) : Nat → St
  | 0 => s
  | n + 1 => step (rounds w s n) (K n) (wat w n)
def St.plus (s r : St) : St := ⟨oadd s.a r.a, oadd s.b r.b, oadd s.c r.c, oadd s.d r.d, oadd s.e r.e, oadd s.f r.f, oadd s.g r.g, oadd s.h r.h⟩
def compress (s : St) (b : List UInt8) : St := s.plus (rounds (sched b) s 64)
def init : St := ⟨1779033703#32, 3144134277#32, 1013904242#32, 2773480762#32, 1359893119#32, 2600822924#32, 528734635#32, 1541459225#32⟩
/-- Block i of a message. -/
def blk (l : List UInt8) (i : Nat) : List UInt8 := (l.drop (64 * i)).take 64
def fold (l : List UInt8) (s : St) : Nat → St
  | 0 => s
  | n + 1 => compress (fold l s n) (blk l n)
def be64 (n : Nat) : List UInt8 := (List.range 8).map fun i => UInt8.ofNat (n / 2 ^ (56 - 8 * i))
def zeros (n : Nat) : List UInt8 := List.replicate n 0
def pad (l : List UInt8) : List UInt8 := l ++ ([128] ++ (zeros ((119 - l.length % 64) % 64) ++ be64 (8 * l.length)))
def wbyte (x : W) (j : Nat) : UInt8 := UInt8.ofNat (x.toNat / 2 ^ (24 - 8 * j))
def St.bytes (s : St) : List UInt8 := (List.range 32).map fun i => wbyte (wat s.words (i / 4)) (i % 4)
def sha (l : List UInt8) : List UInt8 := (fold (pad l) init ((pad l).length / 64)).bytes

theorem be64_len (n : Nat) : (be64 n).length = 8 := by simp [be64]
theorem zeros_len (n : Nat) : (zeros n).length = n := by simp [zeros]
theorem bytes_len (s : St) : s.bytes.length = 32 := by simp [St.bytes]
theorem sha_len (l : List UInt8) : (sha l).length = 32 := bytes_len _
theorem words_len (s : St) : s.words.length = 8 := rfl
theorem pad_len (l : List UInt8) : (pad l).length = l.length + 9 + (119 - l.length % 64) % 64 := by
  simp [pad, be64_len, zeros_len]; omega
theorem pad_mod (l : List UInt8) : (pad l).length % 64 = 0 := by rw [pad_len]; omega
theorem first_len (b : List UInt8) (n : Nat) : (first b n).length = n := by simp [first]
theorem first_succ (b : List UInt8) (n : Nat) : first b (n + 1) = first b n ++ [word b n] := by simp [first, List.range_succ]
theorem ext_len (n : Nat) (l : List W) : (ext n l).length = l.length + n := by
  induction n with
  | zero => rfl
  | succ n ih => simp [ext, ih]; omega
theorem ext_succ (n : Nat) (l : List W) : ext (n + 1) l = ext n l ++ [next (ext n l)] := rfl
theorem sched_len (b : List UInt8) : (sched b).length = 64 := by simp [sched, ext_len, first_len]

/-- The fold looks at the blocks alone. -/
theorem fold_same (l m : List UInt8) (s : St) (n : Nat) (h : ∀ i, i < n → blk l i = blk m i) : fold l s n = fold m s n := by
  induction n with
  | zero => rfl
  | succ n ih => simp only [fold]; rw [ih (fun i hi => h i (by omega)), h n (by omega)]
theorem blk_app (l m : List UInt8) (i : Nat) (h : 64 * (i + 1) ≤ l.length) : blk (l ++ m) i = blk l i := by
  unfold blk
  rw [List.drop_append_of_le_length (by omega), List.take_append_of_le_length (by simp; omega)]
theorem fold_app (l m : List UInt8) (s : St) (n : Nat) (h : 64 * n ≤ l.length) : fold (l ++ m) s n = fold l s n :=
  fold_same _ _ _ _ fun i hi => blk_app l m i (by omega)

/-- What waits: the bytes behind the last whole block. -/
def rest (l : List UInt8) : List UInt8 := l.drop (64 * (l.length / 64))
theorem rest_len (l : List UInt8) : (rest l).length = l.length % 64 := by simp [rest]; omega
/-- The state behind the whole blocks. -/
def state (l : List UInt8) : St := fold l init (l.length / 64)
def block (l : List UInt8) : List UInt8 := rest l ++ zeros (64 - l.length % 64)
theorem block_len (l : List UInt8) : (block l).length = 64 := by simp [block, rest_len, zeros_len]; omega

/-- The end of a message, its last block short enough for the length. -/
theorem sha_short (l : List UInt8) (h : l.length % 64 < 56) :
    sha l = (compress (state l) (rest l ++ ([128] ++ (zeros (55 - l.length % 64) ++ be64 (8 * l.length))))).bytes := by
  have hp := pad_len l
  have hn : (pad l).length / 64 = l.length / 64 + 1 := by rw [hp]; omega
  unfold sha
  rw [hn]
  simp only [fold]
  have h1 : fold (pad l) init (l.length / 64) = state l := by
    unfold pad state
    exact fold_app _ _ _ _ (by omega)
  have h2 : blk (pad l) (l.length / 64) = rest l ++ ([128] ++ (zeros (55 - l.length % 64) ++ be64 (8 * l.length))) := by
    unfold blk pad
    have hz : (119 - l.length % 64) % 64 = 55 - l.length % 64 := by omega
    rw [hz, List.drop_append_of_le_length (by omega), List.take_of_length_le]
    · rfl
    · simp [be64_len, zeros_len]; omega
  rw [h1, h2]
/-- The other end: two blocks more. -/
theorem sha_long (l : List UInt8) (h : 56 ≤ l.length % 64) :
    sha l = (compress (compress (state l) (rest l ++ ([128] ++ zeros (63 - l.length % 64)))) (zeros 56 ++ be64 (8 * l.length))).bytes := by
  have hp := pad_len l
  have hn : (pad l).length / 64 = l.length / 64 + 1 + 1 := by rw [hp]; omega
  have hz : (119 - l.length % 64) % 64 = (63 - l.length % 64) + 56 := by omega
  have hsp : pad l = (l ++ ([128] ++ zeros (63 - l.length % 64))) ++ (zeros 56 ++ be64 (8 * l.length)) := by
    unfold pad
    rw [hz, show zeros (63 - l.length % 64 + 56) = zeros (63 - l.length % 64) ++ zeros 56 from List.replicate_append_replicate.symm]
    simp only [List.append_assoc]
  have hl : (l ++ ([128] ++ zeros (63 - l.length % 64))).length = 64 * (l.length / 64 + 1) := by simp [zeros_len]; omega
  unfold sha
  rw [hn]
  simp only [fold]
  have h1 : fold (pad l) init (l.length / 64) = state l := by
    unfold pad state
    exact fold_app _ _ _ _ (by omega)
  have h2 : blk (pad l) (l.length / 64) = rest l ++ ([128] ++ zeros (63 - l.length % 64)) := by
    rw [hsp, blk_app _ _ _ (by omega)]
    unfold blk
    rw [List.drop_append_of_le_length (by omega), List.take_of_length_le]
    · rfl
    · simp [zeros_len]; omega
  have h3 : blk (pad l) (l.length / 64 + 1) = zeros 56 ++ be64 (8 * l.length) := by
    rw [hsp]
    unfold blk
    rw [← hl, List.drop_append_of_le_length (Nat.le_refl _), List.drop_length, List.nil_append, List.take_of_length_le]
    simp [be64_len, zeros_len]
  rw [h1, h2, h3]

/-- A message that grows within its last block. -/
theorem state_grow (l m : List UInt8) (h : l.length % 64 + m.length < 64) : state (l ++ m) = state l ∧ rest (l ++ m) = rest l ++ m := by
  have hd : (l ++ m).length / 64 = l.length / 64 := by simp; omega
  unfold state rest
  rw [hd]
  exact ⟨fold_app _ _ _ _ (by omega), List.drop_append_of_le_length (by omega)⟩
/-- .. and one that fills it. -/
theorem state_full (l m : List UInt8) (h : l.length % 64 + m.length = 64) : state (l ++ m) = compress (state l) (rest l ++ m) ∧ rest (l ++ m) = [] := by
  have hd : (l ++ m).length / 64 = l.length / 64 + 1 := by simp; omega
  unfold state rest
  rw [hd]
  simp only [fold]
  refine ⟨?_, List.drop_of_length_le (by simp; omega)⟩
  rw [fold_app _ _ _ _ (by omega)]
  congr 1
  unfold blk
  rw [List.drop_append_of_le_length (by omega), List.take_of_length_le (by simp; omega)]
end Go.Proofs.YtkelfcgomeojeaaDoor.H
end

section
/- SHA-256 over plain numbers, for the kernel to reckon with; it is the one over words. -/

namespace Go.Proofs.YtkelfcgomeojeaaDoor.F
open H

/-- The value is reckoned before it is handed on. -/
noncomputable def force {α : Type} (x : Nat) (k : Nat → α) : α := Bool.rec (k x) (k x) (Nat.ble x x)
theorem force_eq {α : Type} (x : Nat) (k : Nat → α) : force x k = k x := by
  unfold force
  cases Nat.ble x x <;> rfl
def rotr (x n m : Nat) : Nat := Nat.lor (Nat.shiftRight x n) (Nat.mod (Nat.shiftLeft x m) 4294967296)
def s0 (x : Nat) : Nat := Nat.xor (Nat.xor (rotr x 7 25) (rotr x 18 14)) (Nat.shiftRight x 3)
def s1 (x : Nat) : Nat := Nat.xor (Nat.xor (rotr x 17 15) (rotr x 19 13)) (Nat.shiftRight x 10)
def t1 (e f g h k w : Nat) : Nat := Nat.add (Nat.add (Nat.add (Nat.add h (Nat.xor (Nat.xor (rotr e 6 26) (rotr e 11 21)) (rotr e 25 7))) (Nat.xor (Nat.land e f) (Nat.land (Nat.sub 4294967295 e) g))) k) w
def t2 (a b c : Nat) : Nat := Nat.add (Nat.xor (Nat.xor (rotr a 2 30) (rotr a 13 19)) (rotr a 22 10)) (Nat.xor (Nat.xor (Nat.land a b) (Nat.land a c)) (Nat.land b c))
def mod32 (x : Nat) : Nat := Nat.mod x 4294967296
def nw (w0 w1 w9 w14 : Nat) : Nat := mod32 (Nat.add (Nat.add (Nat.add w0 (s0 w1)) w9) (s1 w14))
/-- The rounds, the words of the next sixteen at hand. -/
noncomputable def go (ks : List Nat) : Nat → Nat → Nat → Nat → Nat → Nat → Nat → Nat → Nat → Nat → Nat → Nat → Nat → Nat → Nat → Nat → Nat → Nat → Nat → Nat → Nat → Nat → Nat → Nat → List Nat :=
  List.rec (motive := fun _ => Nat → Nat → Nat → Nat → Nat → Nat → Nat → Nat → Nat → Nat → Nat → Nat → Nat → Nat → Nat → Nat → Nat → Nat → Nat → Nat → Nat → Nat → Nat → Nat → List Nat)
    (fun a b c d e f g h _ _ _ _ _ _ _ _ _ _ _ _ _ _ _ _ => [a, b, c, d, e, f, g, h])
    (fun k _ ih a b c d e f g h w0 w1 w2 w3 w4 w5 w6 w7 w8 w9 w10 w11 w12 w13 w14 w15 =>
      force (t1 e f g h k w0) fun t => force (mod32 (Nat.add t (t2 a b c))) fun a' => force (mod32 (Nat.add d t)) fun e' => force (nw w0 w1 w9 w14) fun w16 =>
        ih a' a b c e' e f g w1 w2 w3 w4 w5 w6 w7 w8 w9 w10 w11 w12 w13 w14 w15 w16) ks
theorem go_nil (a b c d e f g h w0 w1 w2 w3 w4 w5 w6 w7 w8 w9 w10 w11 w12 w13 w14 w15 : Nat) : go [] a b c d e f g h w0 w1 w2 w3 w4 w5 w6 w7 w8 w9 w10 w11 w12 w13 w14 w15 = [a, b, c, d, e, f, g, h] := rfl
theorem go_cons (k : Nat) (ks : List Nat) (a b c d e f g h w0 w1 w2 w3 w4 w5 w6 w7 w8 w9 w10 w11 w12 w13 w14 w15 : Nat) : go (k :: ks) a b c d e f g h w0 w1 w2 w3 w4 w5 w6 w7 w8 w9 w10 w11 w12 w13 w14 w15 =
    go ks (mod32 (Nat.add (t1 e f g h k w0) (t2 a b c))) a b c (mod32 (Nat.add d (t1 e f g h k w0))) e f g w1 w2 w3 w4 w5 w6 w7 w8 w9 w10 w11 w12 w13 w14 w15 (nw w0 w1 w9 w14) := by
  unfold go
  simp only [force_eq]

theorem rotr_nat (x : W) (n m : Nat) (h : 32 - n = m) : (H.rotr x n).toNat = rotr x.toNat n m := by
  subst h
  unfold H.rotr H.oor H.oshr H.oshl rotr
  rw [BitVec.toNat_or, BitVec.toNat_ushiftRight, BitVec.toNat_shiftLeft]
  rfl
theorem xor_nat (x y : W) : (H.oxor x y).toNat = Nat.xor x.toNat y.toNat := BitVec.toNat_xor ..
theorem and_nat (x y : W) : (H.oand x y).toNat = Nat.land x.toNat y.toNat := BitVec.toNat_and ..
theorem add_nat (x y : W) : (H.oadd x y).toNat = (x.toNat + y.toNat) % 4294967296 := BitVec.toNat_add ..
theorem shr_nat (x : W) (n : Nat) : (H.oshr x n).toNat = Nat.shiftRight x.toNat n := BitVec.toNat_ushiftRight ..
theorem not_nat (x : W) : (H.onot x).toNat = Nat.sub 4294967295 x.toNat := by
  unfold H.onot
  rw [BitVec.toNat_not]
  rfl
theorem s0_nat (x : W) : (H.s0 x).toNat = s0 x.toNat := by
  unfold H.s0 s0
  rw [xor_nat, xor_nat, rotr_nat x 7 25 rfl, rotr_nat x 18 14 rfl, shr_nat]
theorem s1_nat (x : W) : (H.s1 x).toNat = s1 x.toNat := by
  unfold H.s1 s1
  rw [xor_nat, xor_nat, rotr_nat x 17 15 rfl, rotr_nat x 19 13 rfl, shr_nat]
theorem tx_nat (s : St) (k w : W) : (H.tx s k w).toNat = mod32 (t1 s.e.toNat s.f.toNat s.g.toNat s.h.toNat k.toNat w.toNat) := by
  unfold H.tx t1 mod32
  simp only [add_nat, xor_nat, and_nat, not_nat, rotr_nat s.e 6 26 rfl, rotr_nat s.e 11 21 rfl, rotr_nat s.e 25 7 rfl]
  generalize Nat.xor (Nat.xor (rotr s.e.toNat 6 26) (rotr s.e.toNat 11 21)) (rotr s.e.toNat 25 7) = A
  generalize Nat.xor (Nat.land s.e.toNat s.f.toNat) (Nat.land (Nat.sub 4294967295 s.e.toNat) s.g.toNat) = B
  show _ = (s.h.toNat + A + B + k.toNat + w.toNat) % 4294967296
  omega
theorem ty_nat (s : St) : (H.ty s).toNat = mod32 (t2 s.a.toNat s.b.toNat s.c.toNat) := by
  unfold H.ty t2 mod32
  simp only [add_nat, xor_nat, and_nat, rotr_nat s.a 2 30 rfl, rotr_nat s.a 13 19 rfl, rotr_nat s.a 22 10 rfl]
  rfl
theorem mod_add (x y : Nat) : mod32 (Nat.add (mod32 x) (mod32 y)) = mod32 (Nat.add x y) := by
  show (x % 4294967296 + y % 4294967296) % 4294967296 = (x + y) % 4294967296
  omega
theorem mod_add' (x y : Nat) : mod32 (Nat.add x (mod32 y)) = mod32 (Nat.add x y) := by
  show (x + y % 4294967296) % 4294967296 = (x + y) % 4294967296
  omega
theorem nw_nat (x0 x1 x9 x14 : W) : (oadd (oadd (oadd x0 (H.s0 x1)) x9) (H.s1 x14)).toNat = nw x0.toNat x1.toNat x9.toNat x14.toNat := by
  unfold nw mod32
  simp only [add_nat, s0_nat, s1_nat]
  show _ = (x0.toNat + s0 x1.toNat + x9.toNat + s1 x14.toNat) % 4294967296
  omega

/-- Words of a longer schedule. -/
def long (b : List UInt8) : List W := ext 64 (first b 16)
theorem ext_pre (l : List W) (n d : Nat) (j : Nat) (hj : j < l.length + n) : wat (ext (n + d) l) j = wat (ext n l) j := by
  induction d with
  | zero => rfl
  | succ d ih =>
    rw [← Nat.add_assoc, ext_succ]
    unfold wat at ih ⊢
    rw [← ih, List.getD_eq_getElem?_getD, List.getD_eq_getElem?_getD, List.getElem?_append_left (by rw [ext_len]; omega)]
theorem long_first (b : List UInt8) (j : Nat) (hj : j < 16) : wat (long b) j = word b j := by
  have h := ext_pre (first b 16) 0 64 j (by rw [first_len]; omega)
  rw [Nat.zero_add] at h
  show wat (ext 64 (first b 16)) j = _
  rw [h]
  unfold wat ext first
  rw [List.getD_eq_getElem?_getD, List.getElem?_map, List.getElem?_range hj]
  rfl
theorem long_sched (b : List UInt8) (j : Nat) (hj : j < 64) : wat (long b) j = wat (sched b) j := by
  exact ext_pre (first b 16) 48 16 j (by rw [first_len]; omega)
theorem long_next (b : List UInt8) (n : Nat) (hn : n < 64) : wat (long b) (n + 16) = oadd (oadd (oadd (wat (long b) n) (H.s0 (wat (long b) (n + 1)))) (wat (long b) (n + 9))) (H.s1 (wat (long b) (n + 14))) := by
  have e : ∀ j, j < 16 + (n + 1) → wat (long b) j = wat (ext (n + 1) (first b 16)) j := fun j hj => by
    have h := ext_pre (first b 16) (n + 1) (63 - n) j (by rw [first_len]; omega)
    rw [show n + 1 + (63 - n) = 64 by omega] at h
    exact h
  have e2 : ∀ j, j < 16 + n → wat (long b) j = wat (ext n (first b 16)) j := fun j hj => by
    have h := ext_pre (first b 16) n (64 - n) j (by rw [first_len]; omega)
    rw [show n + (64 - n) = 64 by omega] at h
    exact h
  have hl : (ext n (first b 16)).length = 16 + n := by rw [ext_len, first_len]
  rw [e (n + 16) (by omega), e2 n (by omega), e2 (n + 1) (by omega), e2 (n + 9) (by omega), e2 (n + 14) (by omega), ext_succ]
  have h0 : wat (ext n (first b 16) ++ [next (ext n (first b 16))]) (n + 16) = next (ext n (first b 16)) := by
    unfold wat
    rw [List.getD_eq_getElem?_getD, List.getElem?_append_right (by omega), hl, show n + 16 - (16 + n) = 0 by omega]
    rfl
  rw [h0]
  unfold next
  rw [hl, show 16 + n - 16 = n by omega, show 16 + n - 15 = n + 1 by omega, show 16 + n - 7 = n + 9 by omega, show 16 + n - 2 = n + 14 by omega]

def nats (s : St) : List Nat := [s.a.toNat, s.b.toNat, s.c.toNat, s.d.toNat, s.e.toNat, s.f.toNat, s.g.toNat, s.h.toNat]
theorem KN_len : KN.length = 64 := rfl
theorem K_nat (i : Nat) (h : i < 64) : (K i).toNat = KN.getD i 0 := by
  have : ∀ j : Fin 64, (K j.val).toNat = KN.getD j.val 0 := by decide +kernel
  exact this ⟨i, h⟩
theorem go_rounds (b : List UInt8) (s : St) (m t : Nat) (hm : t + m = 64) (r : St) (hr : r = rounds (sched b) s t) :
    go (KN.drop t) r.a.toNat r.b.toNat r.c.toNat r.d.toNat r.e.toNat r.f.toNat r.g.toNat r.h.toNat (wat (long b) t).toNat (wat (long b) (t + 1)).toNat (wat (long b) (t + 2)).toNat (wat (long b) (t + 3)).toNat (wat (long b) (t + 4)).toNat (wat (long b) (t + 5)).toNat (wat (long b) (t + 6)).toNat (wat (long b) (t + 7)).toNat (wat (long b) (t + 8)).toNat (wat (long b) (t + 9)).toNat (wat (long b) (t + 10)).toNat (wat (long b) (t + 11)).toNat (wat (long b) (t + 12)).toNat (wat (long b) (t + 13)).toNat (wat (long b) (t + 14)).toNat (wat (long b) (t + 15)).toNat
      = nats (rounds (sched b) s 64) := by
  induction m generalizing t r with
  | zero =>
    rw [show t = 64 by omega] at hr ⊢
    rw [show KN.drop 64 = [] from rfl, go_nil, hr]
    rfl
  | succ m ih =>
    have hd : KN.drop t = KN.getD t 0 :: KN.drop (t + 1) := by
      have h : t < KN.length := by rw [KN_len]; omega
      rw [List.drop_eq_getElem_cons h]
      congr 1
      simp [h]
    rw [hd, go_cons, ← K_nat t (by omega)]
    have h1 := ih (t + 1) (by omega) (step r (K t) (wat (sched b) t)) (by rw [hr]; rfl)
    rw [← h1]
    have ha : (step r (K t) (wat (sched b) t)).a.toNat = mod32 (Nat.add (t1 r.e.toNat r.f.toNat r.g.toNat r.h.toNat (K t).toNat (wat (long b) t).toNat) (t2 r.a.toNat r.b.toNat r.c.toNat)) := by
      show (oadd (tx r (K t) (wat (sched b) t)) (ty r)).toNat = _
      rw [add_nat, tx_nat, ty_nat, long_sched b t (by omega)]
      exact mod_add _ _
    have he : (step r (K t) (wat (sched b) t)).e.toNat = mod32 (Nat.add r.d.toNat (t1 r.e.toNat r.f.toNat r.g.toNat r.h.toNat (K t).toNat (wat (long b) t).toNat)) := by
      show (oadd r.d (tx r (K t) (wat (sched b) t))).toNat = _
      rw [add_nat, tx_nat, long_sched b t (by omega)]
      exact mod_add' _ _
    have hw : (wat (long b) (t + 1 + 15)).toNat = nw (wat (long b) t).toNat (wat (long b) (t + 1)).toNat (wat (long b) (t + 9)).toNat (wat (long b) (t + 14)).toNat := by
      rw [show t + 1 + 15 = t + 16 by omega, long_next b t (by omega), nw_nat]
    rw [ha, he, hw]
    rfl

def wordN (b : List UInt8) (t : Nat) : Nat := Nat.add (Nat.add (Nat.add (Nat.mul (b.getD (Nat.mul 4 t) 0).toNat 16777216) (Nat.mul (b.getD (Nat.add (Nat.mul 4 t) 1) 0).toNat 65536)) (Nat.mul (b.getD (Nat.add (Nat.mul 4 t) 2) 0).toNat 256)) (b.getD (Nat.add (Nat.mul 4 t) 3) 0).toNat
theorem or_add (x y k : Nat) (h : y < 2 ^ k) : x * 2 ^ k ||| y = x * 2 ^ k + y := by
  rw [Nat.mul_comm, Nat.two_pow_add_eq_or_of_lt h]
theorem word_nat (b : List UInt8) (t : Nat) : (word b t).toNat = wordN b t := by
  unfold word wordN H.oor H.oshl H.u
  have h0 := (b.getD (4 * t) 0).toNat_lt
  have h1 := (b.getD (4 * t + 1) 0).toNat_lt
  have h2 := (b.getD (4 * t + 2) 0).toNat_lt
  have h3 := (b.getD (4 * t + 3) 0).toNat_lt
  show _ = (b.getD (4 * t) 0).toNat * 16777216 + (b.getD (4 * t + 1) 0).toNat * 65536 + (b.getD (4 * t + 2) 0).toNat * 256 + (b.getD (4 * t + 3) 0).toNat
  generalize (b.getD (4 * t) 0).toNat = x0 at *
  generalize (b.getD (4 * t + 1) 0).toNat = x1 at *
  generalize (b.getD (4 * t + 2) 0).toNat = x2 at *
  generalize (b.getD (4 * t + 3) 0).toNat = x3 at *
  simp only [BitVec.toNat_or, BitVec.toNat_shiftLeft, BitVec.toNat_ofNat, Nat.shiftLeft_eq]
  rw [Nat.mod_eq_of_lt (show x0 < 2 ^ 32 by omega), Nat.mod_eq_of_lt (show x1 < 2 ^ 32 by omega), Nat.mod_eq_of_lt (show x2 < 2 ^ 32 by omega), Nat.mod_eq_of_lt (show x3 < 2 ^ 32 by omega),
    Nat.mod_eq_of_lt (show x0 * 2 ^ 24 < 2 ^ 32 by omega), Nat.mod_eq_of_lt (show x1 * 2 ^ 16 < 2 ^ 32 by omega), Nat.mod_eq_of_lt (show x2 * 2 ^ 8 < 2 ^ 32 by omega)]
  rw [or_add x0 (x1 * 2 ^ 16) 24 (by omega), show x0 * 2 ^ 24 + x1 * 2 ^ 16 = (x0 * 2 ^ 8 + x1) * 2 ^ 16 by omega, or_add _ (x2 * 2 ^ 8) 16 (by omega), show (x0 * 2 ^ 8 + x1) * 2 ^ 16 + x2 * 2 ^ 8 = ((x0 * 2 ^ 8 + x1) * 2 ^ 8 + x2) * 2 ^ 8 by omega, or_add _ x3 8 (by omega)]

def plus (s r : List Nat) (i : Nat) : Nat := mod32 (Nat.add (s.getD i 0) (r.getD i 0))
/-- A block made part of a state, each number reckoned. -/
noncomputable def compressK (ks s : List Nat) (b : List UInt8) : List Nat :=
  force (wordN b 0) fun w0 => force (wordN b 1) fun w1 => force (wordN b 2) fun w2 => force (wordN b 3) fun w3 => force (wordN b 4) fun w4 => force (wordN b 5) fun w5 => force (wordN b 6) fun w6 => force (wordN b 7) fun w7 =>
  force (wordN b 8) fun w8 => force (wordN b 9) fun w9 => force (wordN b 10) fun w10 => force (wordN b 11) fun w11 => force (wordN b 12) fun w12 => force (wordN b 13) fun w13 => force (wordN b 14) fun w14 => force (wordN b 15) fun w15 =>
  (fun r => force (plus s r 0) fun x0 => force (plus s r 1) fun x1 => force (plus s r 2) fun x2 => force (plus s r 3) fun x3 => force (plus s r 4) fun x4 => force (plus s r 5) fun x5 => force (plus s r 6) fun x6 => force (plus s r 7) fun x7 => [x0, x1, x2, x3, x4, x5, x6, x7])
    (go ks (s.getD 0 0) (s.getD 1 0) (s.getD 2 0) (s.getD 3 0) (s.getD 4 0) (s.getD 5 0) (s.getD 6 0) (s.getD 7 0) w0 w1 w2 w3 w4 w5 w6 w7 w8 w9 w10 w11 w12 w13 w14 w15)
theorem compress_of (ks : List Nat) (s r : St) (b : List UInt8) (w0 w1 w2 w3 w4 w5 w6 w7 w8 w9 w10 w11 w12 w13 w14 w15 : Nat)
    (h : go ks s.a.toNat s.b.toNat s.c.toNat s.d.toNat s.e.toNat s.f.toNat s.g.toNat s.h.toNat w0 w1 w2 w3 w4 w5 w6 w7 w8 w9 w10 w11 w12 w13 w14 w15 = nats r)
    (e0 : w0 = wordN b 0) (e1 : w1 = wordN b 1) (e2 : w2 = wordN b 2) (e3 : w3 = wordN b 3) (e4 : w4 = wordN b 4) (e5 : w5 = wordN b 5) (e6 : w6 = wordN b 6) (e7 : w7 = wordN b 7) (e8 : w8 = wordN b 8) (e9 : w9 = wordN b 9) (e10 : w10 = wordN b 10) (e11 : w11 = wordN b 11) (e12 : w12 = wordN b 12) (e13 : w13 = wordN b 13) (e14 : w14 = wordN b 14) (e15 : w15 = wordN b 15) :
    compressK ks (nats s) b = nats (s.plus r) := by
  subst e0 e1 e2 e3 e4 e5 e6 e7 e8 e9 e10 e11 e12 e13 e14 e15
  unfold compressK
  simp only [force_eq]
  have h2 : go ks ((nats s).getD 0 0) ((nats s).getD 1 0) ((nats s).getD 2 0) ((nats s).getD 3 0) ((nats s).getD 4 0) ((nats s).getD 5 0) ((nats s).getD 6 0) ((nats s).getD 7 0) (wordN b 0) (wordN b 1) (wordN b 2) (wordN b 3) (wordN b 4) (wordN b 5) (wordN b 6) (wordN b 7) (wordN b 8) (wordN b 9) (wordN b 10) (wordN b 11) (wordN b 12) (wordN b 13) (wordN b 14) (wordN b 15) = nats r := h
  rw [h2]
  have p : ∀ x y : W, mod32 (Nat.add x.toNat y.toNat) = (oadd x y).toNat := fun x y => (add_nat x y).symm
  show [mod32 (Nat.add s.a.toNat r.a.toNat), mod32 (Nat.add s.b.toNat r.b.toNat), mod32 (Nat.add s.c.toNat r.c.toNat), mod32 (Nat.add s.d.toNat r.d.toNat), mod32 (Nat.add s.e.toNat r.e.toNat), mod32 (Nat.add s.f.toNat r.f.toNat), mod32 (Nat.add s.g.toNat r.g.toNat), mod32 (Nat.add s.h.toNat r.h.toNat)] = _
  simp only [p]
  rfl
theorem word_long (b : List UInt8) (j : Nat) (hj : j < 16) : (wat (long b) (0 + j)).toNat = wordN b j := by rw [Nat.zero_add, long_first b j hj, word_nat]
theorem compress_drop (s : St) (b : List UInt8) : compressK (KN.drop 0) (nats s) b = nats (H.compress s b) :=
  compress_of (KN.drop 0) s _ b _ _ _ _ _ _ _ _ _ _ _ _ _ _ _ _ (go_rounds b s 64 0 rfl s rfl) (word_long b 0 (by omega)) (word_long b 1 (by omega)) (word_long b 2 (by omega)) (word_long b 3 (by omega)) (word_long b 4 (by omega)) (word_long b 5 (by omega)) (word_long b 6 (by omega)) (word_long b 7 (by omega)) (word_long b 8 (by omega)) (word_long b 9 (by omega)) (word_long b 10 (by omega)) (word_long b 11 (by omega)) (word_long b 12 (by omega)) (word_long b 13 (by omega)) (word_long b 14 (by omega)) (word_long b 15 (by omega))
noncomputable def compress (s : List Nat) (b : List UInt8) : List Nat := compressK KN s b
theorem compress_nat (s : St) (b : List UInt8) : compress (nats s) b = nats (H.compress s b) := by
  have h := compress_drop s b
  rw [List.drop_zero] at h
  exact h

/-- The blocks, and the bytes in the end. -/
noncomputable def fold (l : List UInt8) (s : List Nat) (n : Nat) : List Nat := Nat.rec s (fun i r => compress r (blk l i)) n
theorem fold_nat (l : List UInt8) (s : St) (n : Nat) : fold l (nats s) n = nats (H.fold l s n) := by
  induction n with
  | zero => rfl
  | succ n ih =>
    show compress (fold l (nats s) n) (blk l n) = _
    rw [ih, compress_nat]
    rfl
def byteN (x j : Nat) : UInt8 := UInt8.ofNat (Nat.shiftRight x j)
def bytes (s : List Nat) : List UInt8 := (List.range 32).map fun i => byteN (s.getD (Nat.div i 4) 0) (Nat.sub 24 (Nat.mul 8 (Nat.mod i 4)))
theorem bytes_nat (s : St) : bytes (nats s) = s.bytes := by
  unfold bytes St.bytes
  apply List.map_congr_left
  intro i hi
  have hi := List.mem_range.1 hi
  have e : ∀ j, j < 8 → (nats s).getD j 0 = (wat s.words j).toNat := by
    intro j hj
    match j, hj with
    | 0, _ | 1, _ | 2, _ | 3, _ | 4, _ | 5, _ | 6, _ | 7, _ => rfl
  show byteN ((nats s).getD (i / 4) 0) (24 - 8 * (i % 4)) = _
  rw [e _ (by omega)]
  unfold byteN wbyte
  show UInt8.ofNat ((wat s.words (i / 4)).toNat >>> (24 - 8 * (i % 4))) = _
  rw [Nat.shiftRight_eq_div_pow]
def initN : List Nat := [1779033703, 3144134277, 1013904242, 2773480762, 1359893119, 2600822924, 528734635, 1541459225]
theorem init_nat : initN = nats init := rfl
noncomputable def sha (l : List UInt8) : List UInt8 := bytes (fold (pad l) initN (Nat.div (pad l).length 64))
theorem sha_nat (l : List UInt8) : sha l = H.sha l := by
  unfold sha H.sha
  rw [init_nat, fold_nat, bytes_nat]
  rfl
end Go.Proofs.YtkelfcgomeojeaaDoor.F
end

section
/- One more of a list. -/

namespace Go.Proofs.YtkelfcgomeojeaaDoor

theorem take_snoc (g : List UInt8) (k : Nat) (h : k < g.length) : g.take (k + 1) = g.take k ++ [g.getD k 0] := by
  rw [List.take_add_one, List.getElem?_eq_getElem h, show g.getD k 0 = g[k] from by simp [h]]
  rfl
end Go.Proofs.YtkelfcgomeojeaaDoor
end

