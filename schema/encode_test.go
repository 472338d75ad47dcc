package schema_test

import (
	"bytes"
	"crypto/sha256"
	"encoding/hex"
	"math"
	"testing"

	"diorama/api"
	"diorama/hash"
	"diorama/schema"
	"diorama/wire"
)

// The digests of the empty schema and of whole(), as another program computed them.
const (
	emptyDigest = "21df763cc7d317c7fcf693891f6f7bac"
	wholeDigest = "0d4f4053472a4f6f7ea51996fb0d3f83"
)

// P9.5: byte by byte
func TestNamedEncodings(t *testing.T) {
	x := api.Schema{
		Version: 3,
		Kinds: []api.Kind{{Name: "a", Lo: 0, Hi: 9, Fields: []api.Field{
			{Name: "id", Lo: 5},
			{Name: "p", Of: "o", Up: "up", Kind: 3, Lo: -1, Hi: -2, Words: []string{"v", ""}, Weights: []int{256, 0, 1}},
		}}, {}},
		Lives: []api.Life{{Name: "l", States: []string{"s", "t"}, Moves: [][2]int{{0, 1}, {2, 3}}}},
		Rules: []api.Rule{{Name: "r", Kind: "a", A: "x", B: "", N: -1}, {}},
	}
	want := []byte{
		129, 3, // Version
		129, 2, // kinds
		129, 1, 'a', 129, 2, 128, 129, 9, // Name, Lo and Hi
		129, 2, // fields
		129, 3, 129, 2, 'i', 'd', 128, 128, 129, 3, 128, 129, 5, 128, 128, 128,
		129, 3, 129, 1, 'p', 129, 1, 'o', 129, 2, 'u', 'p', 129, 3, 129, 3, 127, 126, 254, 129, 2, 129, 1, 'v', 128, 129, 3, 130, 1, 0, 128, 129, 1,
		128, 129, 2, 128, 128, 128, // the second kind
		129, 1, // life cycles
		129, 1, 'l', 129, 2, 129, 1, 's', 129, 1, 't', 129, 4, 128, 129, 1, 129, 2, 129, 3,
		129, 2, // rules
		129, 4, 129, 1, 'r', 129, 1, 'a', 129, 1, 'x', 128, 127,
		129, 4, 128, 128, 128, 128, 128,
	}
	if b := schema.Encode(x); !bytes.Equal(b, want) {
		t.Errorf("Encode is %v, want %v", b, want)
	}
	if b := schema.Encode(api.Schema{}); !bytes.Equal(b, []byte{128, 128, 128, 128}) {
		t.Errorf("Encode of the empty schema is %v", b)
	}
	if b := schema.Encode(api.Schema{Version: math.MinInt}); !bytes.Equal(b, []byte{119, 128, 0, 0, 0, 0, 0, 0, 0, 128, 128, 128}) {
		t.Errorf("Encode of the least version is %v", b)
	}
}

// decoder reads an encoding with package wire.
type decoder struct {
	t *testing.T
	b []byte
}

// get reads a value with one of wire's functions.
func get[T any](d *decoder, read func(b []byte) (T, int, api.Errno)) T {
	d.t.Helper()
	x, used, e := read(d.b)
	if e != api.OK {
		d.t.Fatalf("%v is not an encoding: %d", d.b, e)
	}
	d.b = d.b[used:]
	return x
}

func (d *decoder) field() api.Field {
	s, n := get(d, wire.GetStrings), get(d, wire.GetInts)
	if len(s) != 3 || len(n) != 3 {
		d.t.Fatalf("a field has %v and %v", s, n)
	}
	return api.Field{Name: s[0], Of: s[1], Up: s[2], Kind: n[0], Lo: n[1], Hi: n[2], Words: get(d, wire.GetStrings), Weights: get(d, wire.GetInts)}
}

func (d *decoder) kind() api.Kind {
	name, n := get(d, wire.GetBytes), get(d, wire.GetInts)
	if len(n) != 2 {
		d.t.Fatalf("a kind has %v", n)
	}
	k := api.Kind{Name: name, Lo: n[0], Hi: n[1]}
	for range get(d, wire.GetInt) {
		k.Fields = append(k.Fields, d.field())
	}
	return k
}

func (d *decoder) life() api.Life {
	l := api.Life{Name: get(d, wire.GetBytes), States: get(d, wire.GetStrings)}
	n := get(d, wire.GetInts)
	for i := 0; i < len(n); i += 2 {
		l.Moves = append(l.Moves, [2]int{n[i], n[i+1]})
	}
	return l
}

func (d *decoder) rule() api.Rule {
	s := get(d, wire.GetStrings)
	if len(s) != 4 {
		d.t.Fatalf("a rule has %v", s)
	}
	return api.Rule{Name: s[0], Kind: s[1], A: s[2], B: s[3], N: get(d, wire.GetInt)}
}

// decoded returns the schema of an encoding.
func decoded(t *testing.T, b []byte) api.Schema {
	t.Helper()
	d := &decoder{t, b}
	x := api.Schema{Version: get(d, wire.GetInt)}
	for range get(d, wire.GetInt) {
		x.Kinds = append(x.Kinds, d.kind())
	}
	for range get(d, wire.GetInt) {
		x.Lives = append(x.Lives, d.life())
	}
	for range get(d, wire.GetInt) {
		x.Rules = append(x.Rules, d.rule())
	}
	if len(d.b) > 0 {
		t.Fatalf("%v stands behind an encoding", d.b)
	}
	return x
}

// P9.5, P9.9: what is encoded can be decoded, also of schemas that are not valid
func TestEncodings(t *testing.T) {
	all := append(randomSchemas(1000), strangeSchemas()...)
	for _, x := range append(all, changed(whole())...) {
		if y := decoded(t, schema.Encode(x)); !equal(x, y) {
			t.Fatalf("%+v is encoded as %+v", x, y)
		}
	}
}

// P9.5
func TestDigest(t *testing.T) {
	all := append(randomSchemas(200), strangeSchemas()...)
	for _, x := range append(all, sized(8192), sized(8200)) {
		b := schema.Encode(x)
		if d := schema.Digest(x); d != hash.Of(api.TagSchema, string(b)) {
			t.Fatalf("Digest is %x", d)
		}
		sum := sha256.Sum256(append(append([]byte{9}, wire.Int(len(b))...), b...))
		if d := schema.Digest(x); !bytes.Equal(d[:], sum[:16]) {
			t.Fatalf("Digest is %x, want %x", d, sum[:16])
		}
	}
	d := schema.Digest(api.Schema{})
	if s := hex.EncodeToString(d[:]); s != emptyDigest {
		t.Errorf("Digest of the empty schema is %s, want %s", s, emptyDigest)
	}
	d = schema.Digest(whole())
	if s := hex.EncodeToString(d[:]); s != wholeDigest {
		t.Errorf("Digest is %s, want %s", s, wholeDigest)
	}
}

// separated checks that two schemas are not equal, by each way to tell.
func separated(t *testing.T, x, y api.Schema) {
	t.Helper()
	if schema.Same(x, y) || schema.Same(y, x) {
		t.Errorf("Same(%+v, %+v)", x, y)
	}
	if bytes.Equal(schema.Encode(x), schema.Encode(y)) || schema.Digest(x) == schema.Digest(y) {
		t.Errorf("%+v and %+v have one encoding", x, y)
	}
	if s := schema.Print(x); s != "" && s == schema.Print(y) {
		t.Errorf("%+v and %+v have one source", x, y)
	}
}

// united checks that two schemas are equal, by each way to tell.
func united(t *testing.T, x, y api.Schema) {
	t.Helper()
	if !schema.Same(x, y) || !schema.Same(y, x) {
		t.Errorf("not Same(%+v, %+v)", x, y)
	}
	if !bytes.Equal(schema.Encode(x), schema.Encode(y)) || schema.Digest(x) != schema.Digest(y) || schema.Print(x) != schema.Print(y) {
		t.Errorf("%+v and %+v are not equal", x, y)
	}
}

// P9.4, P9.9: schemas that differ in one place
func TestOneDifference(t *testing.T) {
	whole := whole()
	all := changed(whole)
	if len(all) < 200 {
		t.Fatalf("only %d changes", len(all))
	}
	for i, x := range all {
		separated(t, whole, x)
		united(t, x, copied(x))
		for _, y := range all[:i] {
			if schema.Same(x, y) != equal(x, y) || schema.Same(x, y) != bytes.Equal(schema.Encode(x), schema.Encode(y)) {
				t.Fatalf("Same(%+v, %+v) is %t", x, y, schema.Same(x, y))
			}
		}
	}
}

// P9.4, P9.9: what stands at the border of two places
func TestBorders(t *testing.T) {
	f := api.Field{Name: "f"}
	pairs := [][2]api.Schema{
		{{Kinds: []api.Kind{{Name: "a", Fields: []api.Field{f}}, {Name: "b"}}}, {Kinds: []api.Kind{{Name: "a"}, {Name: "b", Fields: []api.Field{f}}}}},
		{{Kinds: []api.Kind{{Name: "a"}, {Name: "b"}}}, {Kinds: []api.Kind{{Name: "b"}, {Name: "a"}}}},
		{{Kinds: []api.Kind{{Name: "a"}}}, {Lives: []api.Life{{Name: "a"}}}},
		{{Kinds: make([]api.Kind, 1)}, {Lives: make([]api.Life, 1)}}, {{Lives: make([]api.Life, 1)}, {Rules: make([]api.Rule, 1)}}, {{Rules: make([]api.Rule, 1)}, {}},
		{{Lives: []api.Life{{Name: "l", States: []string{"ab", "c"}}}}, {Lives: []api.Life{{Name: "l", States: []string{"a", "bc"}}}}},
		{{Lives: []api.Life{{States: []string{"", ""}}}}, {Lives: []api.Life{{States: []string{""}}}}},
		{{Lives: []api.Life{{Moves: [][2]int{{0, 1}}}}}, {Lives: []api.Life{{Moves: [][2]int{{1, 0}}}}}},
		{{Lives: []api.Life{{Moves: [][2]int{{0, 0}}}, {}}}, {Lives: []api.Life{{}, {Moves: [][2]int{{0, 0}}}}}},
		{{Rules: []api.Rule{{Name: "r", Kind: "a", A: "x"}}}, {Rules: []api.Rule{{Name: "r", Kind: "a", B: "x"}}}},
		{{Rules: []api.Rule{{Name: "r", Kind: "a", A: "x"}, {Name: "s", Kind: "a", A: "x"}}}, {Rules: []api.Rule{{Name: "s", Kind: "a", A: "x"}, {Name: "r", Kind: "a", A: "x"}}}},
		{{Version: 1}, {Version: 1<<32 + 1}}, {{Version: math.MinInt}, {Version: math.MaxInt}}, {{Version: 0}, {Version: math.MinInt}},
	}
	fields := [][2]api.Field{
		{{Of: "a"}, {Up: "a"}}, {{Name: "ab", Of: "c"}, {Name: "a", Of: "bc"}}, {{Lo: 1}, {Hi: 1}}, {{Kind: 1}, {Lo: 1}}, {{Name: "a", Up: "bc"}, {Name: "a", Up: "b"}},
		{{Words: []string{"a"}}, {Weights: []int{0}}}, {{Words: []string{""}}, {}}, {{Weights: []int{0}}, {}}, {{Weights: []int{0, 1}}, {Weights: []int{1, 0}}}, {{Words: []string{"a", "b"}}, {Words: []string{"b", "a"}}}, {{Words: []string{"ä"}}, {Words: []string{"\xe4"}}}, {{Words: []string{"\xff"}}, {Words: []string{"\xfe"}}},
	}
	for _, c := range fields {
		pairs = append(pairs, [2]api.Schema{withField(c[0]), withField(c[1])})
	}
	for _, c := range pairs {
		separated(t, c[0], c[1])
		united(t, c[0], c[0])
		united(t, c[1], c[1])
	}
}

// P9.4, P9.9: nil and empty lists
func TestEmptyLists(t *testing.T) {
	united(t, api.Schema{}, api.Schema{Kinds: []api.Kind{}, Lives: []api.Life{}, Rules: []api.Rule{}})
	x := api.Schema{
		Kinds: []api.Kind{{Name: "a"}, {Name: "b", Fields: []api.Field{{Name: "f"}}}},
		Lives: []api.Life{{Name: "l"}, {Name: "m", States: []string{"s"}}},
	}
	y := api.Schema{
		Kinds: []api.Kind{{Name: "a", Fields: []api.Field{}}, {Name: "b", Fields: []api.Field{{Name: "f", Words: []string{}, Weights: []int{}}}}},
		Lives: []api.Life{{Name: "l", States: []string{}, Moves: [][2]int{}}, {Name: "m", States: []string{"s"}, Moves: [][2]int{}}},
		Rules: []api.Rule{},
	}
	united(t, x, y)
	united(t, withField(api.Field{Name: "f", Words: []string{}, Weights: []int{}}), withField(api.Field{Name: "f"}))
}

// P9.9: of pairs of schemas, most of them not equal
func TestPairs(t *testing.T) {
	all := append(randomSchemas(150), strangeSchemas()...)
	for _, x := range all {
		for _, y := range all {
			if equal(x, y) {
				united(t, x, y)
			} else {
				separated(t, x, y)
			}
		}
	}
}

// A change of an encoding does not show in another one.
func TestOwnBytes(t *testing.T) {
	a, b := schema.Encode(whole()), schema.Encode(whole())
	clear(a)
	if !bytes.Equal(b, schema.Encode(whole())) || bytes.Equal(a, b) {
		t.Error("two encodings share memory")
	}
}
