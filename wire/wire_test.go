package wire_test

import (
	"bytes"
	"math"
	"runtime"
	"slices"
	"strings"
	"testing"

	"diorama/api"
	"diorama/wire"
)

// codec gives the five kinds of encodings one form, so that what holds for all of them is tested for all of them.
type codec struct {
	name   string
	decode func(b []byte) (value any, used int, e api.Errno)
	encode func(value any) []byte
	empty  func(value any) bool
}

func codecs() []codec {
	return []codec{
		{"Int", func(b []byte) (any, int, api.Errno) { v, n, e := wire.GetInt(b); return v, n, e },
			func(v any) []byte { return wire.Int(v.(int)) },
			func(v any) bool { return v.(int) == 0 }},
		{"Bytes", func(b []byte) (any, int, api.Errno) { v, n, e := wire.GetBytes(b); return v, n, e },
			func(v any) []byte { return wire.Bytes(v.(string)) },
			func(v any) bool { return v.(string) == "" }},
		{"Ints", func(b []byte) (any, int, api.Errno) { v, n, e := wire.GetInts(b); return v, n, e },
			func(v any) []byte { return wire.Ints(v.([]int)) },
			func(v any) bool { return len(v.([]int)) == 0 }},
		{"Strings", func(b []byte) (any, int, api.Errno) { v, n, e := wire.GetStrings(b); return v, n, e },
			func(v any) []byte { return wire.Strings(v.([]string)) },
			func(v any) bool { return len(v.([]string)) == 0 }},
		{"Digests", func(b []byte) (any, int, api.Errno) { v, n, e := wire.GetDigests(b); return v, n, e },
			func(v any) []byte { return wire.Digests(v.([]api.Digest)) },
			func(v any) bool { return len(v.([]api.Digest)) == 0 }},
	}
}

// same compares two values of a codec, nil and empty lists being the same.
func same(a, b any) bool {
	switch a := a.(type) {
	case int:
		return a == b.(int)
	case string:
		return a == b.(string)
	case []int:
		return slices.Equal(a, b.([]int))
	case []string:
		return slices.Equal(a, b.([]string))
	case []api.Digest:
		return slices.Equal(a, b.([]api.Digest))
	}
	return false
}

// edgeInts are the integers around every change of length, in ascending order.
func edgeInts() []int {
	l := []int{math.MinInt, math.MinInt + 1, math.MaxInt - 1, math.MaxInt}
	for k := 0; k < 63; k++ {
		for d := -2; d <= 2; d++ {
			l = append(l, 1<<k+d, -1<<k+d)
		}
	}
	slices.Sort(l)
	return slices.Compact(l)
}

// values are samples for each codec, in the order of codecs.
func values() [][]any {
	var ints []any
	for _, n := range edgeInts() {
		ints = append(ints, n)
	}
	full := api.Digest{}
	for i := range full {
		full[i] = byte(255 - i)
	}
	return [][]any{
		ints,
		{"", "a", "ab", "\x00", "\xff\x80\x00", strings.Repeat("x", 255), strings.Repeat("y", 256), strings.Repeat("z", 70000)},
		{[]int(nil), []int{}, []int{0}, []int{1, -1}, []int{0, 0, 0}, edgeInts(), make([]int, 300)},
		{[]string(nil), []string{}, []string{""}, []string{"", "a"}, []string{"\x80", strings.Repeat("q", 300), ""}, make([]string, 257)},
		{[]api.Digest(nil), []api.Digest{}, []api.Digest{{}}, []api.Digest{{}, full}, make([]api.Digest, 256)},
	}
}

// plainInt encodes n digit by digit, as P1.1 describes it.
func plainInt(n int) []byte {
	m := n
	if n < 0 {
		m = -1 - n
	}
	var digits []byte
	for ; m > 0; m /= 256 {
		digits = append([]byte{byte(m % 256)}, digits...)
	}
	if n >= 0 {
		return append([]byte{byte(128 + len(digits))}, digits...)
	}
	for i := range digits {
		digits[i] = 255 - digits[i]
	}
	return append([]byte{byte(127 - len(digits))}, digits...)
}

type intCase struct {
	n int
	b []byte
}

func intCases() []intCase {
	return []intCase{
		{0, []byte{128}},
		{1, []byte{129, 1}},
		{255, []byte{129, 255}},
		{256, []byte{130, 1, 0}},
		{-1, []byte{127}},
		{-2, []byte{126, 254}},
		{-256, []byte{126, 0}},
		{-257, []byte{125, 254, 255}},
		{math.MaxInt, []byte{136, 127, 255, 255, 255, 255, 255, 255, 255}},
		{math.MinInt, []byte{119, 128, 0, 0, 0, 0, 0, 0, 0}},
		{1 << 20, []byte{131, 16, 0, 0}},
		{-1 << 20, []byte{124, 240, 0, 0}},
	}
}

// P1.1
func TestIntEncodes(t *testing.T) {
	for _, c := range intCases() {
		if got := wire.Int(c.n); !bytes.Equal(got, c.b) {
			t.Errorf("Int(%d) = %v, want %v", c.n, got, c.b)
		}
	}
	for _, n := range edgeInts() {
		if got := wire.Int(n); !bytes.Equal(got, plainInt(n)) {
			t.Errorf("Int(%d) = %v, want %v", n, got, plainInt(n))
		}
	}
}

// P1.2
func TestGetIntDecodes(t *testing.T) {
	for _, c := range intCases() {
		for _, tail := range [][]byte{nil, {0}, {200, 7}} {
			n, used, e := wire.GetInt(append(slices.Clone(c.b), tail...))
			if n != c.n || used != len(c.b) || e != api.OK {
				t.Errorf("GetInt(%v + %v) = %d, %d, %v", c.b, tail, n, used, e)
			}
		}
	}
}

type errorCase struct {
	why string
	b   []byte
	e   api.Errno
}

// checkErrors checks the error of each case, and that the other results are zero.
func checkErrors(t *testing.T, name string, cases []errorCase) {
	t.Helper()
	i := slices.IndexFunc(codecs(), func(c codec) bool { return c.name == name })
	c := codecs()[i]
	for _, x := range cases {
		v, used, e := c.decode(x.b)
		if e != x.e || used != 0 || !c.empty(v) {
			t.Errorf("Get%s, %s: %v gives %v, %d, error %d, want error %d", name, x.why, x.b, v, used, e, x.e)
		}
	}
}

// lengthErrors are the errors that the length at the beginning of a list or string can have.
func lengthErrors() []errorCase {
	return []errorCase{
		{"no bytes", nil, api.ErrMore},
		{"empty", []byte{}, api.ErrMore},
		{"a first byte below all", []byte{118, 0, 0, 0, 0, 0, 0, 0, 0, 0}, api.ErrForm},
		{"a first byte above all", []byte{137, 1, 1, 1, 1, 1, 1, 1, 1, 1}, api.ErrForm},
		{"a length cut off", []byte{130, 1}, api.ErrMore},
		{"a length with a leading zero", []byte{129, 0}, api.ErrForm},
		{"a length that is too great", []byte{136, 128, 0, 0, 0, 0, 0, 0, 0}, api.ErrForm},
		{"the length -1", []byte{127}, api.ErrForm},
		{"the length -1 before elements", []byte{127, 128, 128, 128}, api.ErrForm},
		{"the length -2", []byte{126, 254, 97}, api.ErrForm},
		{"the least length", []byte{119, 128, 0, 0, 0, 0, 0, 0, 0}, api.ErrForm},
		{"the greatest length", []byte{136, 127, 255, 255, 255, 255, 255, 255, 255, 128}, api.ErrMore},
		{"a length that wraps around in digests", append([]byte{136, 16, 0, 0, 0, 0, 0, 0, 1}, make([]byte, 16)...), api.ErrMore},
	}
}

// P1.2
func TestGetIntErrors(t *testing.T) {
	cases := []errorCase{
		{"no bytes", nil, api.ErrMore},
		{"empty", []byte{}, api.ErrMore},
		{"form before length", []byte{137}, api.ErrForm},
		{"form before length, negative", []byte{118}, api.ErrForm},
		{"prefix of 1", []byte{129}, api.ErrMore},
		{"prefix of 256", []byte{130, 1}, api.ErrMore},
		{"prefix of -2", []byte{126}, api.ErrMore},
		{"prefix of -257", []byte{125, 254}, api.ErrMore},
		{"length before digits", []byte{130, 0}, api.ErrMore},
		{"length before digits, negative", []byte{125, 255}, api.ErrMore},
		{"length before size", []byte{136, 255, 255, 255, 255, 255, 255, 255}, api.ErrMore},
		{"length before size, negative", []byte{119, 0, 0, 0, 0, 0, 0, 0}, api.ErrMore},
		{"leading zero", []byte{129, 0}, api.ErrForm},
		{"leading zero before a digit", []byte{130, 0, 255}, api.ErrForm},
		{"leading zero in 8 digits", []byte{136, 0, 255, 255, 255, 255, 255, 255, 255}, api.ErrForm},
		{"leading zero, negative", []byte{126, 255}, api.ErrForm},
		{"leading zero before a digit, negative", []byte{125, 255, 0}, api.ErrForm},
		{"leading zero in 8 digits, negative", []byte{119, 255, 0, 0, 0, 0, 0, 0, 0}, api.ErrForm},
		{"one more than the greatest", []byte{136, 128, 0, 0, 0, 0, 0, 0, 0}, api.ErrForm},
		{"one less than the least", []byte{119, 127, 255, 255, 255, 255, 255, 255, 255}, api.ErrForm},
		{"all digits", []byte{136, 255, 255, 255, 255, 255, 255, 255, 255}, api.ErrForm},
		{"all digits, negative", []byte{119, 0, 0, 0, 0, 0, 0, 0, 0}, api.ErrForm},
	}
	for first := range 256 {
		if first < 119 || first > 136 {
			cases = append(cases,
				errorCase{"first byte alone", []byte{byte(first)}, api.ErrForm},
				errorCase{"first byte", append([]byte{byte(first)}, bytes.Repeat([]byte{1}, 200)...), api.ErrForm})
		}
	}
	checkErrors(t, "Int", cases)
}

type valueCase struct {
	value any
	b     []byte
}

// checkValues checks encoding and decoding of each case, alone and with bytes after it.
func checkValues(t *testing.T, name string, cases []valueCase) {
	t.Helper()
	i := slices.IndexFunc(codecs(), func(c codec) bool { return c.name == name })
	c := codecs()[i]
	for _, x := range cases {
		if got := c.encode(x.value); !bytes.Equal(got, x.b) {
			t.Errorf("%s(%v) = %v, want %v", name, x.value, got, x.b)
		}
		for _, tail := range [][]byte{nil, {0}, {255, 128, 129}} {
			v, used, e := c.decode(append(slices.Clone(x.b), tail...))
			if e != api.OK || used != len(x.b) || !same(v, x.value) {
				t.Errorf("Get%s(%v + %v) = %v, %d, %v", name, x.b, tail, v, used, e)
			}
		}
	}
}

// P1.3
func TestBytes(t *testing.T) {
	long := strings.Repeat("k", 256)
	checkValues(t, "Bytes", []valueCase{
		{"", []byte{128}},
		{"ab", []byte{129, 2, 97, 98}},
		{"\x00\xff\x80", []byte{129, 3, 0, 255, 128}},
		{long, append([]byte{130, 1, 0}, long...)},
	})
	checkErrors(t, "Bytes", append(lengthErrors(),
		errorCase{"no bytes after the length", []byte{129, 1}, api.ErrMore},
		errorCase{"a byte too few", []byte{129, 3, 97, 98}, api.ErrMore}))
}

// P1.4
func TestInts(t *testing.T) {
	checkValues(t, "Ints", []valueCase{
		{[]int(nil), []byte{128}},
		{[]int{}, []byte{128}},
		{[]int{1, -1}, []byte{129, 2, 129, 1, 127}},
		{[]int{-257, 256, 0}, []byte{129, 3, 125, 254, 255, 130, 1, 0, 128}},
		{make([]int, 256), append([]byte{130, 1, 0}, bytes.Repeat([]byte{128}, 256)...)},
	})
	checkErrors(t, "Ints", append(lengthErrors(),
		errorCase{"no element", []byte{129, 1}, api.ErrMore},
		errorCase{"fewer bytes than elements before a bad element", []byte{129, 3, 137, 137}, api.ErrMore},
		errorCase{"a bad first element", []byte{129, 2, 118, 129}, api.ErrForm},
		errorCase{"a bad last element", []byte{129, 2, 128, 118}, api.ErrForm},
		errorCase{"an element with a leading zero", []byte{129, 2, 129, 0}, api.ErrForm},
		errorCase{"an element cut off before a bad one", []byte{129, 2, 130, 137}, api.ErrMore},
		errorCase{"the last element missing", []byte{129, 2, 129, 1}, api.ErrMore}))
}

// P1.5
func TestStrings(t *testing.T) {
	checkValues(t, "Strings", []valueCase{
		{[]string(nil), []byte{128}},
		{[]string{}, []byte{128}},
		{[]string{""}, []byte{129, 1, 128}},
		{[]string{"", "a"}, []byte{129, 2, 128, 129, 1, 97}},
		{[]string{"\x81", ""}, []byte{129, 2, 129, 1, 129, 128}},
		{make([]string, 256), append([]byte{130, 1, 0}, bytes.Repeat([]byte{128}, 256)...)},
	})
	checkErrors(t, "Strings", append(lengthErrors(),
		errorCase{"no element", []byte{129, 1}, api.ErrMore},
		errorCase{"fewer bytes than elements before a bad element", []byte{129, 3, 127, 127}, api.ErrMore},
		errorCase{"an element of negative length", []byte{129, 2, 128, 127}, api.ErrForm},
		errorCase{"an element with a bad length", []byte{129, 2, 118, 128}, api.ErrForm},
		errorCase{"an element cut off before a bad one", []byte{129, 2, 129, 9, 127}, api.ErrMore},
		errorCase{"the last element cut off", []byte{129, 2, 128, 129, 2, 97}, api.ErrMore},
		errorCase{"the last element missing", []byte{129, 2, 129, 1, 97}, api.ErrMore}))
}

// P1.8
func TestDigests(t *testing.T) {
	d := api.Digest{1, 2, 3, 15: 9}
	zeros := make([]byte, api.DigestSize)
	checkValues(t, "Digests", []valueCase{
		{[]api.Digest(nil), []byte{128}},
		{[]api.Digest{}, []byte{128}},
		{[]api.Digest{d}, []byte{129, 1, 1, 2, 3, 0, 0, 0, 0, 0, 0, 0, 0, 0, 0, 0, 0, 9}},
		{[]api.Digest{{}, d}, slices.Concat([]byte{129, 2}, zeros, d[:])},
		{[]api.Digest{d, {}, d}, slices.Concat([]byte{129, 3}, d[:], zeros, d[:])},
	})
	two := slices.Concat([]byte{129, 2}, zeros, d[:])
	checkErrors(t, "Digests", append(lengthErrors(),
		errorCase{"no element", []byte{129, 1}, api.ErrMore},
		errorCase{"fewer bytes than elements", []byte{129, 2, 1}, api.ErrMore},
		errorCase{"a byte a digest", []byte{129, 2, 1, 2}, api.ErrMore},
		errorCase{"one digest of two", two[:18], api.ErrMore},
		errorCase{"a byte too few", two[:33], api.ErrMore}))
}

// P1.6
func TestEncodingsDecode(t *testing.T) {
	for i, c := range codecs() {
		for j, want := range values()[i] {
			b := c.encode(want)
			for _, tail := range [][]byte{nil, {0}, {127}, b} {
				v, used, e := c.decode(slices.Concat(b, tail))
				if e != api.OK || used != len(b) || !same(v, want) {
					t.Errorf("%s %d with %d bytes after it: %d of %d bytes, error %d", c.name, j, len(tail), used, len(b), e)
				}
			}
		}
	}
}

// P1.6
func TestProperPrefixesNeedMore(t *testing.T) {
	for i, c := range codecs() {
		for j, value := range values()[i] {
			b := c.encode(value)
			for n := 0; n < len(b); n += 1 + n/500 {
				v, used, e := c.decode(b[:n])
				if e != api.ErrMore || used != 0 || !c.empty(v) {
					t.Errorf("%s %d, %d of %d bytes: used %d, error %d", c.name, j, n, len(b), used, e)
				}
			}
		}
	}
}

// checkCanonical checks that what is decoded at the beginning of b is the one encoding of its value.
func checkCanonical(t *testing.T, b []byte) {
	t.Helper()
	for _, c := range codecs() {
		v, used, e := c.decode(b)
		switch {
		case e == api.OK && (used < 1 || used > len(b) || !bytes.Equal(c.encode(v), b[:used])):
			t.Errorf("Get%s(%v) = %v, %d, which has the encoding %v", c.name, b, v, used, c.encode(v))
		case e != api.OK && (used != 0 || !c.empty(v)):
			t.Errorf("Get%s(%v) = %v, %d with the error %d", c.name, b, v, used, e)
		case e != api.OK && e != api.ErrMore && e != api.ErrForm:
			t.Errorf("Get%s(%v): error %d", c.name, b, e)
		}
	}
}

// P1.6, and P1: no bytes make a decoder panic
func TestDecodedBytesAreTheEncoding(t *testing.T) {
	for first := range 256 {
		checkCanonical(t, []byte{byte(first)})
		for second := range 256 {
			checkCanonical(t, []byte{byte(first), byte(second)})
			checkCanonical(t, []byte{byte(first), byte(second), 129, 0, 128, 255, 127, 97, 126, 3})
			checkCanonical(t, []byte{129, byte(first % 8), byte(second), 128, 129, 1, 127, 126, 0, 130, 1, 0})
		}
	}
	state := uint32(1)
	next := func(n int) int {
		state = state*1664525 + 1013904223
		return int(state>>8) % n
	}
	for range 20000 {
		b := make([]byte, next(40))
		for i := range b {
			b[i] = byte(next(256))
			if next(3) > 0 {
				b[i] = byte(124 + next(9))
			}
		}
		checkCanonical(t, b)
	}
}

// P1.7
func TestIntKeepsTheOrder(t *testing.T) {
	l := edgeInts()
	for _, m := range l {
		b := wire.Int(m)
		if len(b) < 1 || len(b) > 9 {
			t.Errorf("Int(%d) has %d bytes", m, len(b))
		}
		for _, n := range l {
			if got := bytes.Compare(b, wire.Int(n)); (got < 0) != (m < n) || (got > 0) != (m > n) {
				t.Fatalf("Int(%d) and Int(%d) compare as %d", m, n, got)
			}
		}
	}
	for n := -70000; n < 70000; n++ {
		if bytes.Compare(wire.Int(n), wire.Int(n+1)) >= 0 {
			t.Fatalf("Int(%d) does not precede Int(%d)", n, n+1)
		}
	}
}

// P1.3, P1.4, P1.5, P1.8: results are new memory, and arguments stay as they are
func TestResultsAreNewMemory(t *testing.T) {
	for i, c := range codecs() {
		for j, want := range values()[i] {
			b := c.encode(want)
			kept := slices.Clone(b)
			v, _, _ := c.decode(b)
			if !bytes.Equal(b, kept) {
				t.Errorf("%s %d: decoding changes its argument", c.name, j)
			}
			for k := range b {
				b[k] ^= 255
			}
			if !same(v, want) {
				t.Errorf("%s %d: the value changes with the bytes it came from", c.name, j)
			}
			if again := c.encode(want); !bytes.Equal(again, kept) {
				t.Errorf("%s %d: the encoding changes with an earlier one", c.name, j)
			}
		}
	}
}

func TestEncodersDoNotKeepTheirArguments(t *testing.T) {
	ints, words, digests := []int{1, 2}, []string{"a", "b"}, []api.Digest{{1}, {2}}
	a, b, c := wire.Ints(ints), wire.Strings(words), wire.Digests(digests)
	if !slices.Equal(ints, []int{1, 2}) || !slices.Equal(words, []string{"a", "b"}) || !slices.Equal(digests, []api.Digest{{1}, {2}}) {
		t.Error("encoding changes its argument")
	}
	copyA, copyB, copyC := slices.Clone(a), slices.Clone(b), slices.Clone(c)
	ints[0], words[0], digests[0] = 9, "z", api.Digest{9}
	if !bytes.Equal(a, copyA) || !bytes.Equal(b, copyB) || !bytes.Equal(c, copyC) {
		t.Error("an encoding changes with the list it came from")
	}
}

// Decoding allocates no more than a small multiple of its input, whatever lengths the input claims.
func TestDecodingAllocatesInProportion(t *testing.T) {
	inputs := [][]byte{
		{136, 127, 255, 255, 255, 255, 255, 255, 255, 128},
		append([]byte{132, 255, 255, 255, 255}, make([]byte, 100)...),
		append([]byte{136, 16, 0, 0, 0, 0, 0, 0, 1}, make([]byte, 16)...),
		append(wire.Int(1<<16), bytes.Repeat([]byte{128}, 1<<16)...),
		append(wire.Int(1<<16), bytes.Repeat([]byte{0}, 1<<16)...),
	}
	for i, b := range inputs {
		for _, c := range codecs() {
			var before, after runtime.MemStats
			runtime.ReadMemStats(&before)
			c.decode(b)
			runtime.ReadMemStats(&after)
			if used, most := after.TotalAlloc-before.TotalAlloc, uint64(200*len(b)+1<<16); used > most {
				t.Errorf("Get%s of input %d of %d bytes allocates %d bytes", c.name, i, len(b), used)
			}
		}
	}
}
