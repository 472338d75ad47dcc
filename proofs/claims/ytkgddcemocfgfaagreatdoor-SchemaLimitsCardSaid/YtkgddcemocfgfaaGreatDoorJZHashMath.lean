
section
/- Plain mathematics: SHA-256 over lists of bytes, its padding, its blocks. -/
namespace Go.Proofs.YtkgddcemocfgfaaGreatDoor.H

abbrev W := BitVec 32
def oadd (x y : W) : W := x + y
def oxor (x y : W) : W := x ^^^ y
def oand (x y : W) : W := x &&& y
def oor (x y : W) : W := x ||| y
def onot (x : W) : W := ~~~x
def oshl (x : W) (n : Nat) : W := x <<< n
def oshr (x : W) (n : Nat) : W := x >>> n
def rotr (x : W) (n : Nat) : W := oor (oshr x n) (oshl x (32 - n))
def s0 (x : W) : W := oxor (oxor (rotr x 7) (rotr x 18)) (oshr x 3)
def s1 (x : W) : W := oxor (oxor (rotr x 17) (rotr x 19)) (oshr x 10)
/-- The round constants. -/
def KN : List Nat := [1116352408, 1899447441, 3049323471, 3921009573, 961987163, 1508970993, 2453635748, 2870763221, 3624381080, 310598401, 607225278, 1426881987, 1925078388, 2162078206, 2614888103, 3248222580, 3835390401, 4022224774, 264347078, 604807628, 770255983, 1249150122, 1555081692, 1996064986, 2554220882, 2821834349, 2952996808, 3210313671, 3336571891, 3584528711, 113926993, 338241895, 666307205, 773529912, 1294757372, 1396182291, 1695183700, 1986661051, 2177026350, 2456956037, 2730485921, 2820302411, 3259730800, 3345764771, 3516065817, 3600352804, 4094571909, 275423344, 430227734, 506948616, 659060556, 883997877, 958139571, 1322822218, 1537002063, 1747873779, 1955562222, 2024104815, 2227730452, 2361852424, 2428436474, 2756734187, 3204031479, 3329325298]
def K (i : Nat) : W := BitVec.ofNat 32 (KN.getD i 0)

/-- The eight words. -/
structure St where
 (a b c d e f g h : W)
def St.words (s : St) : List W := [s.a, s.b, s.c, s.d, s.e, s.f, s.g, s.h]
def tx (s : St) (k w : W) : W := oadd (oadd (oadd (oadd s.h (oxor (oxor (rotr s.e 6) (rotr s.e 11)) (rotr s.e 25))) (oxor (oand s.e s.f) (oand (onot s.e) s.g))) k) w
def ty (s : St) : W := oadd (oxor (oxor (rotr s.a 2) (rotr s.a 13)) (rotr s.a 22)) (oxor (oxor (oand s.a s.b) (oand s.a s.c)) (oand s.b s.c))
def step (s : St) (k w : W) : St := ⟨oadd (tx s k w) (ty s), s.a, s.b, s.c, oadd s.d (tx s k w), s.e, s.f, s.g⟩
def wat (l : List W) (i : Nat) : W := l.getD i 0
/-- The word behind a list of at least sixteen. -/
def next (l : List W) : W := oadd (oadd (oadd (wat l (l.length - 16)) (s0 (wat l (l.length - 15)))) (wat l (l.length - 7))) (s1 (wat l (l.length - 2)))
def ext : Nat → List W → List W
 | 0, l => l
 | n + 1, l => ext n l ++ [next (ext n l)]
def u (c : UInt8) : W := BitVec.ofNat 32 c.toNat
def word (b : List UInt8) (t : Nat) : W := oor (oor (oor (oshl (u (b.getD (4 * t) 0)) 24) (oshl (u (b.getD (4 * t + 1) 0)) 16)) (oshl (u (b.getD (4 * t + 2) 0)) 8)) (u (b.getD (4 * t + 3) 0))
def first (b : List UInt8) (n : Nat) : List W := (List.range n).map (word b)
def sched (b : List UInt8) : List W := ext 48 (first b 16)
def rounds (w : List W) (s : St) : Nat → St
 | 0 => s
 | n + 1 => step (rounds w s n) (K n) (wat w n)
def St.plus (s r : St) : St := ⟨oadd s.a r.a, oadd s.b r.b, oadd s.c r.c, oadd s.d r.d, oadd s.e r.e, oadd s.f r.f, oadd s.g r.g, oadd s.h r.h⟩
def compress (s : St) (b : List UInt8) : St := s.plus (rounds (sched b) s 64)
def init : St := ⟨1779033703#32, 3144134277#32, 1013904242#32, 2773480762#32, 1359893119#32, 2600822924#32, 528734635#32, 1541459225#32⟩
/-- Block i of a message. -/
def blk (l : List UInt8) (i : Nat) : List UInt8 := (l.drop (64 * i)).take 64
def fold (l : List UInt8) (s : St) : Nat → St
 | 0 => s
 | n + 1 => compress (fold l s n) (blk l n)
def zeros (n : Nat) : List UInt8 := List.replicate n 0
def wbyte (x : W) (j : Nat) : UInt8 := UInt8.ofNat (x.toNat / 2 ^ (24 - 8 * j))
def St.bytes (s : St) : List UInt8 := (List.range 32).map fun i => wbyte (wat s.words (i / 4)) (i % 4)
/-- What waits: the bytes behind the last whole block. -/
def rest (l : List UInt8) : List UInt8 := l.drop (64 * (l.length / 64))
/-- The state behind the whole blocks. -/
def state (l : List UInt8) : St := fold l init (l.length / 64)
def block (l : List UInt8) : List UInt8 := rest l ++ zeros (64 - l.length % 64)
end Go.Proofs.YtkgddcemocfgfaaGreatDoor.H
end

