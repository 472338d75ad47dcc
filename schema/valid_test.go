package schema_test

import (
	"math"
	"regexp"
	"slices"
	"strings"
	"testing"

	"diorama/api"
	"diorama/schema"
)

var nameForm = regexp.MustCompile(`^[a-z][a-z0-9]{0,11}$`)

// refName returns whether a text is a name, by a regular expression.
func refName(s string) bool { return nameForm.MatchString(s) }

// refBounds returns whether lo and hi are in a range, and in order.
func refBounds(lo, hi, least, most int) bool { return least <= lo && lo <= hi && hi <= most }

// refWords returns whether a Pick can have these words and weights.
func refWords(words []string, weights []int) bool {
	sum := 0
	for _, w := range weights {
		if w < 0 || w > 1048576 {
			return false
		}
		sum += w
	}
	for _, w := range words {
		if !refName(w) {
			return false
		}
	}
	return len(words) >= 1 && len(words) <= 12 && len(words) == len(weights) && sum > 0
}

// refField returns whether a field is valid, by the chapter's table, row by row.
func refField(f api.Field) bool {
	none := len(f.Words) == 0 && len(f.Weights) == 0
	zero := f.Lo == 0 && f.Hi == 0
	if !refName(f.Name) {
		return false
	}
	switch f.Kind {
	case api.Key:
		return f.Of == "" && f.Up == "" && refBounds(f.Lo, f.Lo, -1048576, 1048576) && f.Hi == 0 && none
	case api.Ref:
		return refName(f.Of) && f.Up == "" && refBounds(f.Lo, f.Hi, 0, 65536) && none
	case api.Num:
		return f.Of == "" && f.Up == "" && refBounds(f.Lo, f.Hi, -1048576, 1048576) && none
	case api.Pick:
		return f.Of == "" && f.Up == "" && zero && refWords(f.Words, f.Weights)
	case api.Day:
		return (f.Of == "" || refName(f.Of)) && f.Up == "" && refBounds(f.Lo, f.Hi, -1048576, 1048576) && none
	case api.Step:
		return refName(f.Of) && f.Up == "" && refBounds(f.Lo, f.Hi, 0, 32) && none
	case api.Sum:
		return refName(f.Of) && f.Up == "" && zero && none
	case api.Share:
		return refName(f.Of) && refName(f.Up) && refBounds(f.Lo, f.Hi, 0, 1048576) && none
	case api.Copy:
		return refName(f.Of) && refName(f.Up) && zero && none
	}
	return false
}

// withField returns a schema with this field alone.
func withField(f api.Field) api.Schema {
	return api.Schema{Kinds: []api.Kind{{Name: "a", Fields: []api.Field{f}}}}
}

// expect checks what Valid says of a schema, and that only valid ones have a source.
func expect(t *testing.T, x api.Schema, valid bool) {
	t.Helper()
	want := api.OK
	if !valid {
		want = api.ErrArg
	}
	if e := schema.Valid(x); e != want {
		t.Errorf("Valid(%+v) is %d, want %d", x, e, want)
	}
	if s := schema.Print(x); (s != "") != valid {
		t.Errorf("Print(%+v) = %q", x, s)
	}
}

// P9.1: each kind of fields with all that others have and do not have
func TestFields(t *testing.T) {
	numbers := []int{0, 1, -1, 31, 32, 33, 65535, 65536, 65537, 1048576, 1048577, -1048576, -1048577, math.MaxInt, math.MinInt}
	lists := []struct {
		words   []string
		weights []int
	}{{nil, nil}, {[]string{"w"}, []int{1}}, {[]string{"w"}, nil}, {nil, []int{1}}}
	for kind := -2; kind < api.Fields+3; kind++ {
		for _, of := range []string{"", "a", "-"} {
			for _, up := range []string{"", "a", "-"} {
				for _, lo := range numbers {
					for _, hi := range numbers {
						for _, l := range lists {
							f := api.Field{Name: "f", Of: of, Up: up, Kind: kind, Lo: lo, Hi: hi, Words: l.words, Weights: l.weights}
							expect(t, withField(f), refField(f))
						}
					}
				}
			}
		}
	}
	for _, kind := range []int{1 << 32, math.MaxInt, math.MinInt} {
		expect(t, withField(api.Field{Name: "f", Kind: kind}), false)
	}
}

// P9.1: the words and weights of a Pick
func TestWords(t *testing.T) {
	pick := func(words []string, weights []int) {
		t.Helper()
		f := api.Field{Name: "f", Kind: api.Pick, Words: words, Weights: weights}
		expect(t, withField(f), refWords(words, weights))
	}
	for n := range 15 {
		for m := range 15 {
			pick(slices.Repeat([]string{"w"}, n), slices.Repeat([]int{1}, m))
			pick(slices.Repeat([]string{"w"}, n), make([]int, m))
		}
	}
	for _, weight := range []int{0, 1, -1, 1048576, 1048577, math.MaxInt, math.MinInt} {
		for _, other := range []int{0, 1, -1, 1048576, 1048577, math.MaxInt, math.MinInt} {
			pick([]string{"w"}, []int{weight})
			pick([]string{"w", "v"}, []int{weight, other})
			pick([]string{"w", "v", "w"}, []int{0, weight, other})
		}
	}
	for _, word := range someTexts() {
		pick([]string{word}, []int{1})
		pick([]string{"w", "v", word}, []int{0, 1, 0})
	}
	expect(t, withField(api.Field{Name: "f", Kind: api.Pick, Words: make([]string, 1000), Weights: make([]int, 1000)}), false)
}

// someTexts are texts that are names and texts that are not.
func someTexts() []string {
	l := []string{"", "a", "z", "a9", "abcdefghijkl", "abcdefghijklm", "a" + strings.Repeat("0", 11), "a" + strings.Repeat("0", 12), strings.Repeat("a", 8193), "9", "9a", "-", "--", "-a", "a-", "A", "aB", "a b", " a", "a ", "a\n", "\na", "a\x00", "\x00", "ä", "aä", "\xff", "a_b", "kind", "schema"}
	for b := range 256 {
		l = append(l, string([]byte{byte(b)}), string([]byte{'a', byte(b)}), string([]byte{'a', byte(b), 'z'}))
	}
	return l
}

// P9.1: names, wherever one stands
func TestNames(t *testing.T) {
	for _, s := range someTexts() {
		name, orNothing := refName(s), refName(s) || s == ""
		expect(t, api.Schema{Kinds: []api.Kind{{Name: s}}}, name)
		expect(t, api.Schema{Kinds: []api.Kind{{Name: "a"}, {Name: s}}}, name)
		expect(t, withField(api.Field{Name: s}), name)
		expect(t, withField(api.Field{Name: "f", Kind: api.Ref, Of: s}), name)
		expect(t, withField(api.Field{Name: "f", Kind: api.Day, Of: s}), orNothing)
		expect(t, withField(api.Field{Name: "f", Kind: api.Step, Of: s}), name)
		expect(t, withField(api.Field{Name: "f", Kind: api.Sum, Of: s}), name)
		expect(t, withField(api.Field{Name: "f", Kind: api.Num, Of: s}), s == "")
		expect(t, withField(api.Field{Name: "f", Kind: api.Num, Up: s}), s == "")
		expect(t, withField(api.Field{Name: "f", Kind: api.Share, Up: s, Of: "a"}), name)
		expect(t, withField(api.Field{Name: "f", Kind: api.Share, Up: "a", Of: s}), name)
		expect(t, withField(api.Field{Name: "f", Kind: api.Copy, Up: s, Of: "a"}), name)
		expect(t, withField(api.Field{Name: "f", Kind: api.Copy, Up: "a", Of: s}), name)
		expect(t, api.Schema{Lives: []api.Life{{Name: s, States: []string{"s"}}}}, name)
		expect(t, api.Schema{Lives: []api.Life{{Name: "l", States: []string{s}}}}, name)
		expect(t, api.Schema{Lives: []api.Life{{Name: "l", States: []string{"s", "t", s}}}}, name)
		expect(t, api.Schema{Rules: []api.Rule{{Name: s, Kind: "a", A: "x"}}}, name)
		expect(t, api.Schema{Rules: []api.Rule{{Name: "r", Kind: s, A: "x"}}}, name)
		expect(t, api.Schema{Rules: []api.Rule{{Name: "r", Kind: "a", A: s}}}, name)
		expect(t, api.Schema{Rules: []api.Rule{{Name: "r", Kind: "a", B: s}}}, name)
		expect(t, api.Schema{Rules: []api.Rule{{Name: "r", Kind: "a", A: s, B: "x"}}}, orNothing)
		expect(t, api.Schema{Rules: []api.Rule{{Name: "r", Kind: "a", A: "x", B: s}}}, orNothing)
	}
}

// P9.1: numbers outside of fields
func TestNumbers(t *testing.T) {
	numbers := []int{0, 1, -1, 2, 3, 11, 12, 65535, 65536, 65537, 1048575, 1048576, 1048577, -1048576, -1048577, 1 << 32, -1 << 32, math.MaxInt, math.MinInt}
	for _, n := range numbers {
		expect(t, api.Schema{Version: n}, n >= 0 && n <= 1048576)
		expect(t, api.Schema{Rules: []api.Rule{{Name: "r", Kind: "a", A: "x", N: n}}}, n >= -1048576 && n <= 1048576)
		for _, m := range numbers {
			expect(t, api.Schema{Kinds: []api.Kind{{Name: "a", Lo: n, Hi: m}}}, refBounds(n, m, 0, 65536))
			for states := range 13 {
				l := api.Life{Name: "l", States: slices.Repeat([]string{"s"}, states), Moves: [][2]int{{0, 0}, {n, m}}}
				expect(t, api.Schema{Lives: []api.Life{l}}, n >= 0 && m >= 0 && n < states && m < states)
			}
		}
	}
}

// P9.1: how many elements lists have
func TestLengths(t *testing.T) {
	for _, n := range []int{0, 1, 5, 6, 7, 9, 10, 11, 12, 13, 15, 16, 17, 31, 32, 33, 1000} {
		states := slices.Repeat([]string{"s"}, n)
		expect(t, api.Schema{Kinds: slices.Repeat([]api.Kind{{Name: "a"}}, n)}, n <= 6)
		expect(t, api.Schema{Kinds: []api.Kind{{Name: "a", Fields: slices.Repeat([]api.Field{{Name: "f"}}, n)}}}, n <= 10)
		expect(t, api.Schema{Lives: slices.Repeat([]api.Life{{Name: "l", States: []string{"s"}}}, n)}, n <= 6)
		expect(t, api.Schema{Lives: []api.Life{{Name: "l", States: states}}}, n >= 1 && n <= 12)
		expect(t, api.Schema{Lives: []api.Life{{Name: "l", States: []string{"s"}, Moves: make([][2]int, n)}}}, n <= 32)
		expect(t, api.Schema{Rules: slices.Repeat([]api.Rule{{Name: "r", Kind: "a", A: "x"}}, n)}, n <= 16)
	}
}

// P9.1: what is not valid is found in each element of each list
func TestEachElement(t *testing.T) {
	expect(t, api.Schema{}, true)
	expect(t, whole(), true)
	for _, x := range strangeSchemas() {
		expect(t, x, false)
	}
	for _, x := range changed(whole()) {
		expect(t, x, refSchema(x))
	}
}

// refSchema returns whether a schema, whose source is not too long, is valid.
func refSchema(x api.Schema) bool {
	valid := x.Version >= 0 && x.Version <= 1048576 && len(x.Kinds) <= 6 && len(x.Lives) <= 6 && len(x.Rules) <= 16
	for _, k := range x.Kinds {
		valid = valid && refName(k.Name) && refBounds(k.Lo, k.Hi, 0, 65536) && len(k.Fields) <= 10
		for _, f := range k.Fields {
			valid = valid && refField(f)
		}
	}
	for _, l := range x.Lives {
		valid = valid && refName(l.Name) && len(l.States) >= 1 && len(l.States) <= 12 && len(l.Moves) <= 32
		for _, s := range l.States {
			valid = valid && refName(s)
		}
		for _, m := range l.Moves {
			valid = valid && min(m[0], m[1]) >= 0 && max(m[0], m[1]) < len(l.States)
		}
	}
	for _, r := range x.Rules {
		valid = valid && refName(r.Name) && refName(r.Kind) && (refName(r.A) || r.A == "") && (refName(r.B) || r.B == "") && r.A+r.B != "" && r.N >= -1048576 && r.N <= 1048576
	}
	return valid
}

// P9.1, P9.2: the length of the source, which counts only if all else is valid
func TestLongSources(t *testing.T) {
	for _, n := range []int{8000, 8190, 8191, 8192} {
		x := sized(n)
		if e := schema.Valid(x); e != api.OK {
			t.Errorf("Valid of a schema with %d bytes is %d", n, e)
		}
		if s := schema.Print(x); len(s) != n {
			t.Errorf("a source of %d bytes has %d bytes", n, len(s))
		}
	}
	for _, n := range []int{8193, 8194, 8200, 8232} {
		x := sized(n)
		if e := schema.Valid(x); e != api.ErrLimit {
			t.Errorf("Valid of a schema with %d bytes is %d", n, e)
		}
		if s := schema.Print(x); s != "" {
			t.Errorf("a source of %d bytes is printed", n)
		}
		x.Rules = []api.Rule{{Name: "r", Kind: "a"}}
		if e := schema.Valid(x); e != api.ErrArg {
			t.Errorf("Valid of a long schema with a wrong rule is %d", e)
		}
	}
}
