package typing_test

import (
	"math"
	"strings"
	"testing"

	"diorama/api"
	"diorama/typing"
)

// P10.2
func TestNames(t *testing.T) {
	x := parsed(t, "schema 0 kind a 0 0 key id 0 num n 0 0 day n - 0 0 num m 0 0 kind b 0 0 kind a 0 0 key x 0 kind ab 0 0 life l 1 s rule r a n - 0")
	for name, want := range map[string]int{"a": 0, "b": 1, "ab": 3, "id": -1, "n": -1, "l": -1, "r": -1, "": -1, "A": -1, "a ": -1, "abc": -1, "\x00": -1, "\xff": -1, strings.Repeat("a", 1<<16): -1} {
		if got := typing.Kind(x, name); got != want {
			t.Errorf("Kind of %.20q is %d, want %d", name, got, want)
		}
	}
	for name, want := range map[string]int{"id": 0, "n": 1, "m": 3, "a": -1, "x": -1, "r": -1, "": -1, "N": -1, "i": -1, "idd": -1} {
		if got := typing.Field(x.Kinds[0], name); got != want {
			t.Errorf("Field of %q is %d, want %d", name, got, want)
		}
	}
	for _, name := range []string{"", "a", "id"} {
		if a, b := typing.Kind(api.Schema{}, name), typing.Field(api.Kind{Name: "a"}, name); a != -1 || b != -1 {
			t.Errorf("%q leads to %d and %d, where there is nothing", name, a, b)
		}
	}
}

// P10.2, P1: names that are not valid lead to what has them, too
func TestStrangeNames(t *testing.T) {
	names := []string{"-", "\xff", "\x00", " a", "", "A", strings.Repeat("z", 100), ""}
	x, k := api.Schema{}, api.Kind{}
	for _, name := range names {
		x.Kinds = append(x.Kinds, api.Kind{Name: name})
		k.Fields = append(k.Fields, api.Field{Name: name, Kind: -1})
	}
	for i, name := range names[:7] {
		if a, b := typing.Kind(x, name), typing.Field(k, name); a != i || b != i {
			t.Errorf("%q leads to %d and %d, want %d", name, a, b, i)
		}
	}
}

// P10.3
func TestUp(t *testing.T) {
	x := parsed(t, `schema 0
	kind a 0 0 key id 0 ref s a 0 0 ref l b 0 0 sum t b num n 0 0
	kind b 0 0 key id 0 share x r t 0 0 ref r a 0 0 share h r t 0 0 share i r z 0 0 copy c r n copy d r z copy e id n copy f f n copy g h n
	kind c 0 0 key id 0 ref r b 0 0 ref q a 0 0 copy c r c copy d q n num n 0 0 pick p 1 w 1 day d - 0 0 step s z 0 0
	kind d 0 0 key id 0 ref z z 0 0 copy c z n share h z t 0 0 num r 0 0 ref r a 0 0 copy d r n ref b c 0 0 copy e b n`)
	for kind, fields := range [][]int{
		{-1, -1, -1, -1, -1},
		{-1, -1, 0, 0, 0, 0, 0, -1, -1, -1},
		{-1, 1, 0, 1, 0, -1, -1, -1, -1},
		{-1, -1, -1, -1, -1, 0, -1, 2, 2},
	} {
		for field, want := range fields {
			if got := typing.Up(x, kind, field); got != want {
				t.Errorf("Up of %d.%d is %d, want %d", kind, field, got, want)
			}
		}
	}
}

// P10.4
func TestSharesOf(t *testing.T) {
	x := parsed(t, `schema 0
	kind a 0 0 key id 0 sum one b sum none b sum two b sum own a sum no z sum far c ref odd b 0 0 sum wrong c sum lost b
	kind b 0 0 key id 0 share lost q lost 0 0 ref r a 0 0 ref q a 0 0 share x q one 0 0 share y r two 0 0 share z q two 0 0 sum far c share o q odd 0 0
	kind c 0 0 key id 0 ref r a 0 0 ref q b 0 0 share f r far 0 0 share g q far 0 0 share w q wrong 0 0`)
	want := map[[2]int][2]int{{0, 1}: {1, 4}, {0, 6}: {2, 3}, {1, 7}: {2, 4}}
	for kind := range 4 {
		for field := range 12 {
			w, ok := want[[2]int{kind, field}]
			if !ok {
				w = [2]int{-1, -1}
			}
			if a, b := typing.Shares(x, kind, field); a != w[0] || b != w[1] {
				t.Errorf("Shares of %d.%d are %d and %d, want %v", kind, field, a, b, w)
			}
		}
	}
}

// P10.3, P10.4, P1: indices of nothing
func TestNoField(t *testing.T) {
	for _, x := range []api.Schema{{}, {Kinds: make([]api.Kind, 2)}, parsed(t, soundText)} {
		for _, kind := range []int{-1, -2, math.MinInt, 0, 1, 3, 1 << 32, math.MaxInt} {
			for _, field := range []int{-1, -9, math.MinInt, 10, 1 << 32, 1<<32 + 1, math.MaxInt} {
				nothing(t, x, kind, field)
				nothing(t, x, field, kind)
			}
		}
	}
}

// nothing checks that a field leads nowhere.
func nothing(t *testing.T, x api.Schema, kind, field int) {
	t.Helper()
	if up := typing.Up(x, kind, field); up != -1 {
		t.Errorf("Up of %d.%d is %d", kind, field, up)
	}
	if a, b := typing.Shares(x, kind, field); a != -1 || b != -1 {
		t.Errorf("Shares of %d.%d are %d and %d", kind, field, a, b)
	}
}

// P10.3, P10.4, P1: of schemas that are not valid
func TestStrangeSchemas(t *testing.T) {
	key, ref := api.Field{}, api.Field{Kind: api.Ref}
	share, sum := api.Field{Kind: api.Share}, api.Field{Name: "s", Kind: api.Sum, Of: "b"}
	for _, kind := range []int{-1, api.Fields, math.MinInt, math.MaxInt} {
		odd := api.Field{Kind: kind}
		x := api.Schema{Kinds: []api.Kind{{Fields: []api.Field{odd}}, {Fields: []api.Field{ref, odd}}}}
		nothing(t, x, 0, 0)
		nothing(t, x, 1, 1)
	}
	x := api.Schema{Kinds: []api.Kind{{Fields: []api.Field{key, sum}}, {Name: "b", Fields: []api.Field{ref, share}}}}
	if up := typing.Up(x, 1, 1); up != 0 { // by empty names
		t.Errorf("Up is %d", up)
	}
	nothing(t, x, 0, 1)
	x.Kinds[1].Fields[1].Of = "s"
	if a, b := typing.Shares(x, 0, 1); a != 1 || b != 1 {
		t.Errorf("Shares are %d and %d", a, b)
	}
	nothing(t, api.Schema{Kinds: []api.Kind{{Fields: []api.Field{key, share, ref}}}}, 0, 1)
}
