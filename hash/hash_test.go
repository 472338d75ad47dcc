package hash_test

import (
	"crypto/hmac"
	"crypto/sha256"
	"encoding/hex"
	"slices"
	"strings"
	"testing"

	"diorama/api"
	"diorama/hash"
	"diorama/wire"
)

// sample returns n bytes with all values among them, different ones for each seed.
func sample(n, seed int) string {
	b := make([]byte, n)
	state := uint32(seed)*2654435761 + uint32(n)
	for i := range b {
		state = state*1664525 + 1013904223
		b[i] = byte(state >> 24)
	}
	return string(b)
}

// lengths are all around the ends of the first blocks, and some long ones.
func lengths() []int {
	l := []int{511, 512, 513, 1000, 4096, 65535, 65536, 65537, 1 << 20}
	for n := range 260 {
		l = append(l, n)
	}
	return l
}

// inPieces returns the hash of a text that is added n bytes at a time.
func inPieces(text string, n int) [32]byte {
	s := hash.Begin()
	for ; len(text) > n; text = text[n:] {
		s = s.Add(text[:n])
	}
	return s.Add(text).Sum()
}

// P2.1: the examples of the document and of FIPS 180-4
func TestSumOfKnownMessages(t *testing.T) {
	for text, want := range map[string]string{
		"":    "e3b0c44298fc1c149afbf4c8996fb92427ae41e4649b934ca495991b7852b855",
		"abc": "ba7816bf8f01cfea414140de5dae2223b00361a396177a9cb410ff61f20015ad",
		"abcdbcdecdefdefgefghfghighijhijkijkljklmklmnlmnomnopnopq":                                                         "248d6a61d20638b8e5c026930c3e6039a33ce45964ff2167f6ecedd419db06c1",
		"abcdefghbcdefghicdefghijdefghijkefghijklfghijklmghijklmnhijklmnoijklmnopjklmnopqklmnopqrlmnopqrsmnopqrstnopqrstu": "cf5b16a778af8380036ce59e7b0492370b249b11e8f07a51afac45037afee9d1",
		strings.Repeat("a", 1000000): "cdc76e5c9914fb9281a1c7e284d73e67f1809a48a497200e046d39ccc7112cd0",
	} {
		h := hash.Sum([]byte(text))
		if got := hex.EncodeToString(h[:]); got != want {
			t.Errorf("Sum of %d bytes = %s, want %s", len(text), got, want)
		}
	}
	if hash.Sum(nil) != hash.Sum([]byte{}) {
		t.Error("Sum of nil and of an empty list differ")
	}
}

// P2.1: any length, in particular those at which the padding takes another block
func TestSumOfEachLength(t *testing.T) {
	for _, n := range lengths() {
		for seed := range 3 {
			b := []byte(sample(n, seed))
			if hash.Sum(b) != sha256.Sum256(b) {
				t.Errorf("Sum of %d bytes is wrong", n)
			}
		}
	}
}

func TestSumDoesNotChangeItsArgument(t *testing.T) {
	b := make([]byte, 100, 300)
	copy(b, sample(100, 1))
	rest := sample(200, 2)
	copy(b[100:300], rest)
	hash.Sum(b)
	if string(b) != sample(100, 1) || string(b[100:300]) != rest {
		t.Error("Sum changes its argument or what follows it")
	}
}

// P2.2
func TestStreamHasTheMessageThatWasAdded(t *testing.T) {
	if hash.Begin().Sum() != sha256.Sum256(nil) {
		t.Error("the message of Begin is not empty")
	}
	if hash.Begin().Add("a").Add("bc").Sum() != sha256.Sum256([]byte("abc")) {
		t.Error(`the message of "a" and "bc" is not "abc"`)
	}
	s, message := hash.Begin(), ""
	for n := range 200 {
		if s.Sum() != sha256.Sum256([]byte(message)) {
			t.Fatalf("the hash after %d bytes is wrong", len(message))
		}
		piece := sample(n, n)
		s, message = s.Add(piece), message+piece
	}
}

// P2.2: several streams continue the same one
func TestStreamsDoNotChange(t *testing.T) {
	for _, n := range []int{0, 1, 3, 55, 56, 63, 64, 65, 127, 128, 200} {
		message := sample(n, 1)
		s := hash.Begin().Add(message)
		for _, m := range []int{0, 1, 8, 9, 60, 64, 65, 300} {
			for seed := range 2 {
				piece := sample(m, 7+seed)
				longer := s.Add(piece)
				other := s.Add("other")
				if longer.Sum() != sha256.Sum256([]byte(message+piece)) {
					t.Errorf("%d bytes and %d more: wrong hash", n, m)
				}
				if other.Sum() != sha256.Sum256([]byte(message+"other")) {
					t.Errorf("%d bytes and %d more: another stream changed", n, m)
				}
				if s.Sum() != sha256.Sum256([]byte(message)) {
					t.Fatalf("%d bytes and %d more: the stream itself changed", n, m)
				}
			}
		}
	}
	if hash.Begin().Sum() != sha256.Sum256(nil) {
		t.Error("Begin is no longer empty")
	}
}

// P2.2: a stream can be continued after its hash was asked for
func TestSumDoesNotEndAStream(t *testing.T) {
	for n := range 130 {
		s := hash.Begin().Add(sample(n, 1))
		first := s.Sum()
		if s.Sum() != first {
			t.Errorf("%d bytes: two hashes of one stream differ", n)
		}
		if s.Add("x").Sum() != sha256.Sum256([]byte(sample(n, 1)+"x")) {
			t.Errorf("%d bytes: continued after Sum, the hash is wrong", n)
		}
	}
}

// P1: a zero Stream is not valid, but does not panic either
func TestZeroStreamDoesNotPanic(t *testing.T) {
	var s hash.Stream
	s.Sum()
	s.Add(sample(200, 1)).Add("").Sum()
}

// P2.3: the examples of the document and of RFC 4231
func TestMacOfKnownMessages(t *testing.T) {
	for i, c := range []struct{ key, text, want string }{
		{"Jefe", "what do ya want for nothing?", "5bdcc146bf60754e6a042426089575c75a003f089d2739839dec58b964ec3843"},
		{"", "", "b613679a0814d9ec772f95d778c35fc5ff1697c493715653c6c712144292c5ad"},
		{strings.Repeat("\x0b", 20), "Hi There", "b0344c61d8db38535ca8afceaf0bf12b881dc200c9833da726e9376c2e32cff7"},
		{strings.Repeat("\xaa", 20), strings.Repeat("\xdd", 50), "773ea91e36800e46854db8ebd09181a72959098b3ef8c122d9635514ced565fe"},
		{strings.Repeat("\xaa", 131), "Test Using Larger Than Block-Size Key - Hash Key First", "60e431591ee0b67f0d8a26aacbf5b77f8e0bc6213728c5140546040f0ee37f54"},
	} {
		if got := hex.EncodeToString([]byte(hash.Mac(c.key, c.text))); got != c.want {
			t.Errorf("Mac %d = %s, want %s", i, got, c.want)
		}
	}
}

// P2.3: keys of every length around that of a block, and texts of several blocks
func TestMacOfEachLength(t *testing.T) {
	for n := range 140 {
		for _, m := range []int{0, 1, 31, 55, 56, 64, 65, 200} {
			key, text := sample(n, 3), sample(m, 4)
			h := hmac.New(sha256.New, []byte(key))
			h.Write([]byte(text))
			if hash.Mac(key, text) != string(h.Sum(nil)) {
				t.Errorf("Mac with a key of %d bytes and a text of %d bytes is wrong", n, m)
			}
		}
	}
}

// P2.3: a short key is extended by zero bytes, and only one of more than 64 bytes is hashed
func TestMacKeys(t *testing.T) {
	for _, n := range []int{0, 1, 32, 63} {
		key := sample(n, 5)
		if hash.Mac(key, "t") != hash.Mac(key+strings.Repeat("\x00", 64-n), "t") {
			t.Errorf("a key of %d bytes is not extended by zero bytes", n)
		}
	}
	for _, n := range []int{64, 65, 66, 1000} {
		key := sample(n, 5)
		short := hash.Sum([]byte(key))
		if hashed := hash.Mac(key, "t") == hash.Mac(string(short[:]), "t"); hashed != (n > 64) {
			t.Errorf("a key of %d bytes is hashed: %v", n, hashed)
		}
	}
}

// firstBytes returns the digest of the bytes that P2.4 says are hashed.
func firstBytes(tag byte, parts []string) api.Digest {
	b := []byte{tag}
	for _, part := range parts {
		b = append(b, wire.Bytes(part)...)
	}
	h := sha256.Sum256(b)
	return api.Digest(h[:16])
}

// partLists are lists of parts, most of which would be the same if they were joined without their lengths.
func partLists() [][]string {
	return [][]string{
		nil,
		{""},
		{"", ""},
		{"", "", ""},
		{"a"},
		{"a", ""},
		{"", "a"},
		{"ab"},
		{"a", "b"},
		{"ba"},
		{"b", "a"},
		{"", "ab"},
		{"a", "", "b"},
		{"\x80"},
		{"\x80\x80"},
		{"\x81\x01a"},
		{"\x81\x01a", "b"},
		{sample(255, 1)},
		{sample(256, 1)},
		{sample(255, 1), sample(256, 1)},
		{sample(70000, 1), ""},
		slices.Repeat([]string{"x"}, 1000),
	}
}

// P2.4: the examples of the document
func TestOfKnownParts(t *testing.T) {
	for _, c := range []struct {
		tag   int
		parts []string
		want  string
	}{
		{1, nil, "4bf5122f344554c53bde2ebb8cd2b7e3"},
		{1, []string{}, "4bf5122f344554c53bde2ebb8cd2b7e3"},
		{8, []string{"a", ""}, "36cd50850329f88406e31bb8a7d8fb62"},
	} {
		d := hash.Of(c.tag, c.parts...)
		if got := hex.EncodeToString(d[:]); got != c.want {
			t.Errorf("Of(%d, %q) = %s, want %s", c.tag, c.parts, got, c.want)
		}
	}
}

// P2.4: any tag, also a negative one, and any parts
func TestOfHashesTheTagAndTheParts(t *testing.T) {
	tags := map[int]byte{
		0: 0, 1: 1, api.TagCause: 13, 127: 127, 128: 128, 255: 255, 256: 0, 257: 1, 511: 255, 1<<62 + 5: 5,
		-1: 255, -2: 254, -128: 128, -255: 1, -256: 0, -257: 255, -1 << 63: 0, 1<<63 - 1: 255,
	}
	for tag, want := range tags {
		for i, parts := range partLists() {
			kept := slices.Clone(parts)
			if hash.Of(tag, parts...) != firstBytes(want, parts) {
				t.Errorf("Of(%d) of list %d is wrong", tag, i)
			}
			if !slices.Equal(parts, kept) {
				t.Errorf("Of(%d) changes list %d", tag, i)
			}
		}
	}
}

// P2.5
func TestEqual(t *testing.T) {
	for _, c := range []struct {
		a, b string
		want bool
	}{
		{"", "", true},
		{"ab", "ab", true},
		{"ab", "ac", false},
		{"ab", "cb", false},
		{"", "a", false},
		{"ab", "abc", false},
		{"ab", "ab\x00", false},
		{"ab", "ba", false},
		{"\x00", "", false},
		{"\x80\x80", "\x00\x00", false},
		{"\x01\x01", "\x02\x02", false},
	} {
		if hash.Equal(c.a, c.b) != c.want || hash.Equal(c.b, c.a) != c.want {
			t.Errorf("Equal(%q, %q) is not %v in both orders", c.a, c.b, c.want)
		}
	}
}

// P2.5: a difference counts in every bit and at every place, and two do not cancel each other
func TestEqualLooksAtAllBytes(t *testing.T) {
	for _, n := range []int{1, 16, 32, 65} {
		text := sample(n, 1)
		if !hash.Equal(text, string([]byte(text))) {
			t.Errorf("%d equal bytes are not equal", n)
		}
		for i := range n {
			for bit := range 8 {
				b := []byte(text)
				b[i] ^= 1 << bit
				if hash.Equal(text, string(b)) {
					t.Errorf("bit %d of byte %d of %d is not looked at", bit, i, n)
				}
				b[n-1-i] ^= 1 << bit
				if hash.Equal(text, string(b)) != (i == n-1-i) {
					t.Errorf("bit %d of bytes %d and %d of %d are compared wrongly", bit, i, n-1-i, n)
				}
			}
		}
	}
}

// P2.6
func TestPiecesDoNotMatter(t *testing.T) {
	for _, length := range []int{0, 1, 63, 64, 65, 129, 300} {
		text := sample(length, 9)
		want := hash.Sum([]byte(text))
		for n := 1; n <= length+1; n++ {
			if inPieces(text, n) != want {
				t.Errorf("%d bytes in pieces of %d have another hash", length, n)
			}
		}
		for at := range length + 1 {
			if hash.Begin().Add(text[:at]).Add("").Add(text[at:]).Sum() != want {
				t.Errorf("%d bytes that are divided at %d have another hash", length, at)
			}
		}
	}
}

// P2.6
func TestOfTellsListsAndTagsApart(t *testing.T) {
	type input struct{ tag, list int }
	from := map[api.Digest]input{}
	for tag := range 256 {
		for i, parts := range partLists() {
			if len(parts) > 3 || slices.ContainsFunc(parts, func(p string) bool { return len(p) > 300 }) {
				continue
			}
			d := hash.Of(tag, parts...)
			if other, ok := from[d]; ok {
				t.Fatalf("tag %d with list %d and tag %d with list %d have the same digest", tag, i, other.tag, other.list)
			}
			from[d] = input{tag, i}
		}
	}
}
