package sign_test

import (
	"crypto/hmac"
	"crypto/sha256"
	"encoding/hex"
	"math"
	"slices"
	"strings"
	"testing"

	"diorama/api"
	"diorama/sign"
	"diorama/wire"
)

const (
	maxMessage = 1 << 20
	size       = api.DigestSize
)

// counting is the seed of the bytes 0 to 31.
func counting() string {
	b := make([]byte, api.KeySize)
	for i := range b {
		b[i] = byte(i)
	}
	return string(b)
}

// sample returns a digest, another one for each seed.
func sample(seed int) api.Digest {
	h := sha256.Sum256(wire.Int(seed))
	return api.Digest(h[:size])
}

// The functions ref... do what the chapter says, level by level, with the library's hash.

func refOf(tag byte, parts ...string) string {
	b := []byte{tag}
	for _, part := range parts {
		b = append(b, wire.Bytes(part)...)
	}
	h := sha256.Sum256(b)
	return string(h[:size])
}

func refInts(l ...int) string { return string(wire.Ints(l)) }

// refDigits writes the digest as a number in base 4, by its bits.
func refDigits(d string) []int {
	var l []int
	sum := 0
	for _, b := range []byte(d) {
		for _, x := range []byte{b >> 6, b >> 4 & 3, b >> 2 & 3, b & 3} {
			l = append(l, int(x))
			sum += 3 - int(x)
		}
	}
	return append(l, sum/64, sum/16%4, sum/4%4, sum%4)
}

func refValue(seed string, index, chain, height int) string {
	h := hmac.New(sha256.New, []byte(seed))
	h.Write([]byte("chain" + refInts(index, chain)))
	value := string(h.Sum(nil)[:size])
	for t := range height {
		value = refOf(api.TagChain, refInts(index, chain, t), value)
	}
	return value
}

func refLeaf(seed string, index int) string {
	tops := ""
	for chain := range sign.Chains {
		tops += refValue(seed, index, chain, sign.Top)
	}
	return refOf(api.TagLeaf, refOf(api.TagKey, tops))
}

// refTree returns the nodes of each level, the leaves first.
func refTree(seed string, height int) [][]string {
	var level []string
	for index := range 1 << height {
		level = append(level, refLeaf(seed, index))
	}
	levels := [][]string{level}
	for range height {
		var above []string
		for k := 0; k < len(level); k += 2 {
			above = append(above, refOf(api.TagNode, level[k], level[k+1]))
		}
		level = above
		levels = append(levels, level)
	}
	return levels
}

func refSign(seed string, tree [][]string, index int, message string) string {
	height := len(tree) - 1
	s := string(wire.Int(index))
	d := refOf(api.TagMessage, tree[height][0], string(wire.Int(index)), message)
	for chain, digit := range refDigits(d) {
		s += refValue(seed, index, chain, digit)
	}
	for level := range height {
		s += tree[level][index>>level^1]
	}
	return s
}

// mustPublic returns a public key that there has to be.
func mustPublic(t *testing.T, seed string, height int) api.Digest {
	t.Helper()
	p, e := sign.Public(seed, height)
	if e != api.OK {
		t.Fatalf("Public of height %d: error %d", height, e)
	}
	return p
}

// mustSign returns a signature that there has to be.
func mustSign(t *testing.T, seed string, height, index int, message string) string {
	t.Helper()
	s, e := sign.Sign(seed, height, index, message)
	if e != api.OK {
		t.Fatalf("Sign with key %d of height %d: error %d", index, height, e)
	}
	return s
}

// wantVerify checks what Verify returns; with an error, the index has to be 0.
func wantVerify(t *testing.T, what string, p api.Digest, height int, message, s string, index int, e api.Errno) {
	t.Helper()
	if got, f := sign.Verify(p, height, message, s); got != index || f != e {
		t.Errorf("%s: Verify returns %d and the error %d, want %d and %d", what, got, f, index, e)
	}
}

func TestConstants(t *testing.T) {
	if sign.Chains != 68 || sign.Top != 3 || sign.MaxHeight != 6 {
		t.Error("the constants are not 68, 3 and 6")
	}
}

// P3.1: the examples of the document, and digests whose digits are easily seen
func TestDigitsOfKnownDigests(t *testing.T) {
	full := api.Digest([]byte(strings.Repeat("\xff", size)))
	for _, c := range []struct {
		d          api.Digest
		begin, sum []int
	}{
		{api.Digest{}, make([]int, 64), []int{3, 0, 0, 0}},
		{full, slices.Repeat([]int{3}, 64), []int{0, 0, 0, 0}},
		{api.Digest{0x1b, 0xe4}, []int{0, 1, 2, 3, 3, 2, 1, 0, 0, 0}, []int{2, 3, 1, 0}},
		{api.Digest{0x1b, 0xff}, []int{0, 1, 2, 3, 3, 3, 3, 3, 0}, []int{2, 2, 3, 2}},
		{api.Digest{0x80}, []int{2, 0, 0, 0, 0}, []int{2, 3, 3, 2}},
		{api.Digest{15: 0x01}, make([]int, 63), []int{2, 3, 3, 3}},
	} {
		l := sign.Digits(c.d)
		if len(l) != 68 || !slices.Equal(l[:len(c.begin)], c.begin) || !slices.Equal(l[64:], c.sum) {
			t.Errorf("Digits(%x) = %v", c.d, l)
		}
	}
	if l := sign.Digits(api.Digest{15: 0x01}); l[63] != 1 {
		t.Error("the last digit is not that of the last bits")
	}
}

// P3.1: each byte at each place
func TestDigitsOfEachByte(t *testing.T) {
	for place := range size {
		for b := range 256 {
			d := sample(place)
			d[place] = byte(b)
			if l := sign.Digits(d); !slices.Equal(l, refDigits(string(d[:]))) {
				t.Fatalf("Digits(%x) = %v", d, l)
			}
		}
	}
}

func TestDigitsAreNewMemory(t *testing.T) {
	l := sign.Digits(api.Digest{})
	l[0] = 7
	if sign.Digits(api.Digest{})[0] != 0 {
		t.Error("two results of Digits share memory")
	}
}

// P3.1: keys that another program computed
func TestPublicOfKnownSeeds(t *testing.T) {
	for height, want := range []string{
		"903394918169e22fdc0497315c5acb4d",
		"bbd52957c2fd4c2c325f26b5c9fc5e89",
		"743e52c9e053db6298f2ce0f963f3182",
		"bf58c23da61150326435ea0f548c2820",
		"6f46ec6d2fd48d95744882f2cce3cf31",
		"2038e7b3b3e32f82c53bbba2c8d42c98",
		"b38a107e4bebfd7ed83b3211b50ef24d",
	} {
		p := mustPublic(t, counting(), height)
		if got := hex.EncodeToString(p[:]); got != want {
			t.Errorf("Public of height %d = %s, want %s", height, got, want)
		}
	}
}

// P3.1: each height, and seeds of any bytes
func TestPublicIsTheRoot(t *testing.T) {
	for _, seed := range []string{counting(), strings.Repeat("\x00", 32), strings.Repeat("\xff", 32)} {
		for height := range sign.MaxHeight + 1 {
			p := mustPublic(t, seed, height)
			if want := refTree(seed, height)[height][0]; string(p[:]) != want {
				t.Errorf("Public(%x, %d) = %x, want %x", seed, height, p, want)
			}
		}
	}
}

// badSigners are seeds and heights that are not valid.
func badSigners() []struct {
	seed   string
	height int
} {
	return []struct {
		seed   string
		height int
	}{
		{"", 0},
		{counting()[1:], 0},
		{counting() + "x", 1},
		{strings.Repeat("x", 64), 1},
		{counting(), -1},
		{counting(), 7},
		{counting(), 64},
		{counting(), math.MaxInt},
		{counting(), math.MinInt},
		{"", -1},
	}
}

// P3.1: errors
func TestPublicRefuses(t *testing.T) {
	for i, c := range badSigners() {
		if p, e := sign.Public(c.seed, c.height); p != (api.Digest{}) || e != api.ErrArg {
			t.Errorf("Public of signer %d returns %x and the error %d", i, p, e)
		}
	}
}

// P3.2: any index, and any message, also one that cannot be signed
func TestDigest(t *testing.T) {
	var b api.Digest
	copy(b[:], counting())
	for _, c := range []struct {
		public  api.Digest
		index   int
		message string
		want    string
	}{
		{api.Digest{}, 0, "", "17d0f09805992de91a34e146456a830d"},
		{api.Digest{}, -1, "", "069463609850183407052f3922758d11"},
		{b, math.MinInt, "m", "520934a7a2353db13f42c92eadf4ffd2"},
		{b, math.MaxInt, "m", "70d33d9c52e360ef5b2b381fc4e95831"},
		{api.Digest{}, 1, strings.Repeat("x", maxMessage+1), "ff399da46d1c0c4f42727bd99ed32d68"},
	} {
		d := sign.Digest(c.public, c.index, c.message)
		if got := hex.EncodeToString(d[:]); got != c.want {
			t.Errorf("Digest(%x, %d, %d bytes) = %s, want %s", c.public, c.index, len(c.message), got, c.want)
		}
	}
	for i := range 300 {
		p := sample(i)
		m := string(p[:i%size])
		d := sign.Digest(p, i-150, m)
		if want := refOf(api.TagMessage, string(p[:]), string(wire.Int(i-150)), m); string(d[:]) != want {
			t.Errorf("Digest(%x, %d, %x) = %x, want %x", p, i-150, m, d, want)
		}
	}
}

// P3.3: signatures that another program computed
func TestSignKnownMessages(t *testing.T) {
	for _, c := range []struct {
		height, index int
		message       string
		length        int
		want          string
	}{
		{0, 0, "", 1089, "ac98d44f8db8cae95e83fd820087180047bc18d061c81e28846851ae52e01c93"},
		{1, 1, "m", 1106, "25d6a5a83cb8beac75462b2a99b142488ab1b423f968718c1589107fb75cc8e2"},
		{3, 5, "message", 1138, "bf87e29d63d5ccce473edafab6cb1629fc9c1b003be3dc2f7709787822efcfd4"},
		{6, 0, "\x00\xff", 1185, "d0e355646ee27fb29381c5a856b79a35008251c95b26cd3024653beae9cabe56"},
		{6, 63, "last", 1186, "e7ba1b35a1e85b6535dc72a281fb6baafd7f13c66a889fea44c78d0bd82052c9"},
	} {
		s := mustSign(t, counting(), c.height, c.index, c.message)
		h := sha256.Sum256([]byte(s))
		if len(s) != c.length || hex.EncodeToString(h[:]) != c.want {
			t.Errorf("the signature of %q with key %d of height %d is another one", c.message, c.index, c.height)
		}
	}
}

// P3.3, P3.5: each index of each height up to 4, and some of the others
func TestSignWithEachKey(t *testing.T) {
	seed := counting()
	for height := range sign.MaxHeight + 1 {
		tree := refTree(seed, height)
		p := mustPublic(t, seed, height)
		step := 1
		if height > 4 {
			step = 7
		}
		for index := 0; index < 1<<height; index += step {
			message := strings.Repeat("m", index)
			s := mustSign(t, seed, height, index, message)
			if s != refSign(seed, tree, index, message) {
				t.Errorf("the signature with key %d of height %d is another one", index, height)
			}
			wantVerify(t, "a signature", p, height, message, s, index, api.OK)
		}
	}
}

// P3.3: errors, the one named first if there are several
func TestSignRefuses(t *testing.T) {
	long := strings.Repeat("m", maxMessage+1)
	for i, c := range badSigners() {
		for _, index := range []int{0, -1, 1 << 20} {
			if s, e := sign.Sign(c.seed, c.height, index, long); s != "" || e != api.ErrArg {
				t.Errorf("Sign by signer %d returns %d bytes and the error %d", i, len(s), e)
			}
		}
	}
	for height := range sign.MaxHeight + 1 {
		for _, index := range []int{-1, math.MinInt, 1 << height, 1<<height + 1, math.MaxInt} {
			for _, message := range []string{"", long} {
				if s, e := sign.Sign(counting(), height, index, message); s != "" || e != api.ErrSpent {
					t.Errorf("Sign with key %d of height %d returns %d bytes and the error %d", index, height, len(s), e)
				}
			}
		}
		if s, e := sign.Sign(counting(), height, 1<<height-1, long); s != "" || e != api.ErrLimit {
			t.Errorf("Sign of %d bytes returns %d bytes and the error %d", len(long), len(s), e)
		}
	}
}

// P3.3, P3.4: a message of as many bytes as are allowed
func TestLongestMessage(t *testing.T) {
	message := strings.Repeat("m", maxMessage)
	s := mustSign(t, counting(), 1, 1, message)
	if s != refSign(counting(), refTree(counting(), 1), 1, message) {
		t.Error("the signature of the longest message is another one")
	}
	wantVerify(t, "the longest message", mustPublic(t, counting(), 1), 1, message, s, 1, api.OK)
}

// P3.4: errors, the one named first if there are several
func TestVerifyRefuses(t *testing.T) {
	p := mustPublic(t, counting(), 1)
	good := mustSign(t, counting(), 1, 1, "m")
	rest := good[2:]
	long := strings.Repeat("m", maxMessage+1)
	for _, c := range []struct {
		what               string
		height             int
		message, signature string
		e                  api.Errno
	}{
		{"height -1", -1, long, "", api.ErrArg},
		{"height 7", 7, "", "", api.ErrArg},
		{"least height", math.MinInt, "m", good, api.ErrArg},
		{"greatest height", math.MaxInt, "m", good, api.ErrArg},
		{"long message", 1, long, "", api.ErrLimit},
		{"long message, good length", 1, long, good, api.ErrLimit},
		{"no bytes", 1, "m", "", api.ErrMore},
		{"index without its byte", 1, "m", "\x81", api.ErrMore},
		{"index of 9 bytes", 1, "m", "\x89" + good, api.ErrForm},
		{"index with a leading zero", 1, "m", "\x81\x00" + rest, api.ErrForm},
		{"index above 2^63 - 1", 1, "m", "\x88" + strings.Repeat("\xff", 8) + rest, api.ErrForm},
		{"index 2", 1, "m", "\x81\x02" + rest, api.ErrForm},
		{"index -1", 1, "m", "\x7f" + rest, api.ErrForm},
		{"index -2", 1, "m", "\x7e\xfe" + rest, api.ErrForm},
		{"index 2^63 - 1", 1, "m", string(wire.Int(math.MaxInt)) + rest, api.ErrForm},
		{"index alone", 1, "m", "\x81\x01", api.ErrForm},
		{"a byte less", 1, "m", good[:len(good)-1], api.ErrForm},
		{"a byte more", 1, "m", good + "x", api.ErrForm},
		{"no path", 1, "m", good[:len(good)-size], api.ErrForm},
		{"a longer path", 1, "m", good + good[len(good)-size:], api.ErrForm},
		{"two signatures", 1, "m", good + good, api.ErrForm},
		{"less height", 0, "m", good, api.ErrForm},
		{"more height", 2, "m", good, api.ErrForm},
		{"index 0", 1, "m", "\x80" + rest, api.ErrSign},
		{"another message", 1, "n", good, api.ErrSign},
		{"no message", 1, "", good, api.ErrSign},
		{"a longer message", 1, "m\x00", good, api.ErrSign},
		{"zero bytes", 1, "m", "\x81\x01" + strings.Repeat("\x00", len(rest)), api.ErrSign},
	} {
		wantVerify(t, c.what, p, c.height, c.message, c.signature, 0, c.e)
	}
	wantVerify(t, "the signature itself", p, 1, "m", good, 1, api.OK)
}

// P3.4: a signature counts for the public key with which it was made, and for no other one
func TestVerifyWithAnotherKey(t *testing.T) {
	p := mustPublic(t, counting(), 2)
	s := mustSign(t, counting(), 2, 2, "m")
	for i := range p {
		for bit := range 8 {
			other := p
			other[i] ^= 1 << bit
			wantVerify(t, "another public key", other, 2, "m", s, 0, api.ErrSign)
		}
	}
	for _, seed := range []string{strings.Repeat("s", 32), "\x01" + counting()[1:]} {
		wantVerify(t, "another seed", p, 2, "m", mustSign(t, seed, 2, 2, "m"), 0, api.ErrSign)
	}
}

// P3.4: each byte of the values and of the path counts
func TestVerifyLooksAtEachByte(t *testing.T) {
	p := mustPublic(t, counting(), 3)
	s := mustSign(t, counting(), 3, 5, "m")
	for i := 2; i < len(s); i++ {
		b := []byte(s)
		b[i] ^= 1 << (i % 8)
		wantVerify(t, "a changed byte", p, 3, "m", string(b), 0, api.ErrSign)
	}
}

// P3.4: values and nodes at other places
func TestVerifyLooksAtThePlaces(t *testing.T) {
	p := mustPublic(t, counting(), 2)
	s := mustSign(t, counting(), 2, 1, "m")
	for from := 2; from+2*size <= len(s); from += size {
		swapped := s[:from] + s[from+size:from+2*size] + s[from:from+size] + s[from+2*size:]
		wantVerify(t, "two neighbours swapped", p, 2, "m", swapped, 0, api.ErrSign)
	}
	for index := range 4 {
		if index != 1 {
			wantVerify(t, "another index", p, 2, "m", string(wire.Int(index))+s[2:], 0, api.ErrSign)
		}
	}
}

// P3.5: any seeds and messages
func TestVerifyAcceptsWhatSignReturns(t *testing.T) {
	for i := range 40 {
		a, b := sample(i), sample(-1-i)
		seed := string(a[:]) + string(b[:])
		message := strings.Repeat(string(b[:i%size]), i)
		height := i % 4
		index := int(a[0]) % (1 << height)
		p := mustPublic(t, seed, height)
		s := mustSign(t, seed, height, index, message)
		wantVerify(t, "a signature", p, height, message, s, index, api.OK)
		if s != mustSign(t, seed, height, index, message) {
			t.Error("two signatures of the same are not equal")
		}
	}
}

// P3.5: no other length is accepted, shorter or longer
func TestVerifyRefusesOtherLengths(t *testing.T) {
	for height := range 3 {
		index := 1<<height - 1
		p := mustPublic(t, counting(), height)
		s := mustSign(t, counting(), height, index, "m")
		used := len(wire.Int(index))
		for n := range len(s) {
			want := api.ErrForm
			if n < used {
				want = api.ErrMore
			}
			wantVerify(t, "a prefix", p, height, "m", s[:n], 0, want)
		}
		for n := range 3 * size {
			wantVerify(t, "more bytes", p, height, "m", s+strings.Repeat("\x00", n+1), 0, api.ErrForm)
		}
	}
}

// P3.6: in particular of digests that differ little, and of those that differ only in one direction
func TestDigitsDifferInBothDirections(t *testing.T) {
	var l []api.Digest
	for i := range 40 {
		d := sample(i)
		l = append(l, d)
		d[i%size] ^= 1 << (i % 8)
		l = append(l, d)
		d[i%size] |= 0xf0
		single := api.Digest{}
		single[i%size] = byte(i + 1)
		l = append(l, d, single)
	}
	for _, a := range l {
		for _, b := range l {
			if a == b {
				continue
			}
			less, greater := false, false
			y := sign.Digits(b)
			for i, x := range sign.Digits(a) {
				less, greater = less || x < y[i], greater || x > y[i]
			}
			if !less || !greater {
				t.Fatalf("the digits of %x and %x differ in one direction only", a, b)
			}
		}
	}
}

// P3.6: advancing a value of a signature makes no signature of another message
func TestAdvancedValuesAreNoSignature(t *testing.T) {
	p := mustPublic(t, counting(), 0)
	s := mustSign(t, counting(), 0, 0, "m")
	digits := sign.Digits(sign.Digest(p, 0, "m"))
	for chain, digit := range digits {
		if digit == sign.Top {
			continue
		}
		from := 1 + chain*size
		value := refOf(api.TagChain, refInts(0, chain, digit), s[from:from+size])
		advanced := s[:from] + value + s[from+size:]
		for _, message := range []string{"m", "n", ""} {
			wantVerify(t, "an advanced value", p, 0, message, advanced, 0, api.ErrSign)
		}
	}
}
