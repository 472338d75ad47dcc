package schema_test

import (
	"encoding/json"
	"fmt"
	"math"
	"math/rand"
	"reflect"
	"strings"

	"diorama/api"
)

// whole is a schema with each kind of fields, a life cycle and rules.
func whole() api.Schema {
	return api.Schema{
		Version: 3,
		Kinds: []api.Kind{
			{Name: "person", Lo: 1, Hi: 9, Fields: []api.Field{
				{Name: "id", Kind: api.Key, Lo: -100},
				{Name: "size", Kind: api.Num, Lo: -5, Hi: 5},
				{Name: "tag", Kind: api.Pick, Words: []string{"red", "blue"}, Weights: []int{3, 0}},
				{Name: "born", Kind: api.Day, Hi: 400},
				{Name: "left", Kind: api.Day, Of: "born", Lo: 1, Hi: 30},
				{Name: "state", Kind: api.Step, Of: "life", Hi: 3},
				{Name: "total", Kind: api.Sum, Of: "order"},
			}},
			{Name: "none"},
			{Name: "order", Hi: 20, Fields: []api.Field{
				{Name: "id", Kind: api.Key},
				{Name: "of", Kind: api.Ref, Of: "person", Hi: 4},
				{Name: "part", Kind: api.Share, Up: "of", Of: "total", Lo: 1, Hi: 9},
				{Name: "same", Kind: api.Copy, Up: "of", Of: "size"},
			}},
		},
		Lives: []api.Life{
			{Name: "life", States: []string{"new", "open", "done"}, Moves: [][2]int{{0, 1}, {1, 2}, {2, 2}}},
			{Name: "still", States: []string{"s"}},
		},
		Rules: []api.Rule{
			{Name: "r1", Kind: "person", A: "size", N: 4},
			{Name: "r2", Kind: "person", B: "size", N: -2},
			{Name: "r3", Kind: "order", A: "id", B: "part"},
		},
	}
}

// wholeSource is the source of whole().
const wholeSource = `schema 3
kind person 1 9
key id -100
num size -5 5
pick tag 2 red 3 blue 0
day born - 0 400
day left born 1 30
step state life 0 3
sum total order
kind none 0 0
kind order 0 20
key id 0
ref of person 0 4
share part of total 1 9
copy same of size
life life 3 new open done
move 0 1
move 1 2
move 2 2
life still 1 s
rule r1 person size - 4
rule r2 person - size -2
rule r3 order id part 0
`

// someNames are names, among them the words of the language.
var someNames = []string{"a", "b", "z9", "a0", "abcdefghijkl", "schema", "kind", "key", "ref", "num", "pick", "day", "step", "sum", "share", "copy", "life", "move", "rule"}

// random makes schemas that are valid but for the length of their sources.
type random struct{ *rand.Rand }

func newRandom() random { return random{rand.New(rand.NewSource(9))} }

func (r random) name() string { return someNames[r.Intn(len(someNames))] }

func (r random) nameOrNothing() string {
	if r.Intn(3) == 0 {
		return ""
	}
	return r.name()
}

// between returns a number from least to most, often one of both.
func (r random) between(least, most int) int {
	switch r.Intn(4) {
	case 0:
		return least
	case 1:
		return most
	}
	return least + r.Intn(most-least+1)
}

func (r random) bounds(least, most int) (lo, hi int) {
	lo = r.between(least, most)
	return lo, r.between(lo, most)
}

func (r random) field() api.Field {
	f := api.Field{Name: r.name(), Kind: r.Intn(api.Fields)}
	switch f.Kind {
	case api.Key:
		f.Lo = r.between(-1<<20, 1<<20)
	case api.Ref:
		f.Of = r.name()
		f.Lo, f.Hi = r.bounds(0, 65536)
	case api.Num:
		f.Lo, f.Hi = r.bounds(-1<<20, 1<<20)
	case api.Pick:
		for range 1 + r.Intn(12) {
			f.Words = append(f.Words, r.name())
			f.Weights = append(f.Weights, r.between(0, 1<<20))
		}
		f.Weights[r.Intn(len(f.Weights))] = r.between(1, 1<<20)
	case api.Day:
		f.Of = r.nameOrNothing()
		f.Lo, f.Hi = r.bounds(-1<<20, 1<<20)
	case api.Step:
		f.Of = r.name()
		f.Lo, f.Hi = r.bounds(0, 32)
	case api.Sum:
		f.Of = r.name()
	case api.Share:
		f.Up, f.Of = r.name(), r.name()
		f.Lo, f.Hi = r.bounds(0, 1<<20)
	case api.Copy:
		f.Up, f.Of = r.name(), r.name()
	}
	return f
}

func (r random) life() api.Life {
	l := api.Life{Name: r.name()}
	for range 1 + r.Intn(12) {
		l.States = append(l.States, r.name())
	}
	for range r.Intn(5) {
		l.Moves = append(l.Moves, [2]int{r.Intn(len(l.States)), r.Intn(len(l.States))})
	}
	return l
}

func (r random) rule() api.Rule {
	u := api.Rule{Name: r.name(), Kind: r.name(), A: r.nameOrNothing(), B: r.nameOrNothing(), N: r.between(-1<<20, 1<<20)}
	if u.A == "" && u.B == "" {
		u.B = r.name()
	}
	return u
}

func (r random) schema() api.Schema {
	x := api.Schema{Version: r.between(0, 1<<20)}
	for range r.Intn(4) {
		k := api.Kind{Name: r.name()}
		k.Lo, k.Hi = r.bounds(0, 65536)
		for range r.Intn(6) {
			k.Fields = append(k.Fields, r.field())
		}
		x.Kinds = append(x.Kinds, k)
	}
	for range r.Intn(3) {
		x.Lives = append(x.Lives, r.life())
	}
	for range r.Intn(4) {
		x.Rules = append(x.Rules, r.rule())
	}
	return x
}

// randomSchemas are valid schemas.
func randomSchemas(many int) []api.Schema {
	r := newRandom()
	l := []api.Schema{{}, whole()}
	for len(l) < many {
		l = append(l, r.schema())
	}
	return l
}

// strangeSchemas are schemas that are not valid.
func strangeSchemas() []api.Schema {
	l := []api.Schema{
		{Version: -1}, {Version: math.MaxInt}, {Version: math.MinInt},
		{Kinds: make([]api.Kind, 1)}, {Kinds: make([]api.Kind, 1000)}, {Lives: make([]api.Life, 1)}, {Lives: make([]api.Life, 1000)}, {Rules: make([]api.Rule, 1)}, {Rules: make([]api.Rule, 1000)},
		{Kinds: []api.Kind{{Name: "\x00\xff\n", Lo: math.MinInt, Hi: math.MaxInt, Fields: make([]api.Field, 1000)}}},
		{Kinds: []api.Kind{{Name: "a", Fields: []api.Field{{Name: "p", Kind: api.Pick, Words: make([]string, 2000)}}}}},
		{Lives: []api.Life{{Name: strings.Repeat("n", 1000), Moves: [][2]int{{0, 0}}}}},
		{Lives: []api.Life{{Name: "l", States: []string{"s"}, Moves: [][2]int{{math.MinInt, math.MaxInt}}}}},
		{Rules: []api.Rule{{Name: "r", Kind: "-", A: "-", B: "-", N: math.MinInt}}},
	}
	for _, kind := range []int{-1, api.Fields, api.Fields + 1, math.MaxInt, math.MinInt} {
		f := api.Field{Name: "f", Kind: kind, Lo: math.MaxInt, Hi: math.MinInt, Words: []string{"", "w"}, Weights: []int{-1}}
		l = append(l, api.Schema{Kinds: []api.Kind{{Name: "a", Fields: []api.Field{f}}}})
	}
	for kind := range api.Fields {
		f := api.Field{Name: "f", Kind: kind, Of: " ", Up: "\xe4", Lo: math.MaxInt, Hi: math.MinInt, Weights: make([]int, 100)}
		l = append(l, api.Schema{Kinds: []api.Kind{{Name: "a", Fields: []api.Field{f}}}})
	}
	return l
}

// sized returns a schema that is valid but for the length of its source, which has n bytes (a little more than 8000).
func sized(n int) api.Schema {
	long := strings.Repeat("w", 12)
	x := api.Schema{}
	size := len("schema 0\n")
	for range 3 {
		k := api.Kind{Name: "k"}
		size += len("kind k 0 0\n")
		for range 10 {
			f := api.Field{Name: long, Kind: api.Pick}
			for range 12 {
				f.Words, f.Weights = append(f.Words, long), append(f.Weights, 1<<20)
			}
			size += len("pick ") + 12 + len(" 12") + 12*len(" wwwwwwwwwwww 1048576") + 1
			k.Fields = append(k.Fields, f)
		}
		x.Kinds = append(x.Kinds, k)
	}
	for i := range x.Kinds[0].Fields {
		words := x.Kinds[0].Fields[i].Words
		for j := range words {
			less := min(11, size-n)
			words[j] = words[j][less:]
			size -= less
		}
	}
	return x
}

// copied returns a schema with memory of its own; its strings must be texts.
func copied(x api.Schema) api.Schema {
	b, err := json.Marshal(x)
	if err != nil {
		panic(err)
	}
	var y api.Schema
	if err := json.Unmarshal(b, &y); err != nil {
		panic(err)
	}
	return y
}

// changed returns schemas that differ from another one in one number, one name, or the length of one list.
func changed(x api.Schema) []api.Schema {
	l := []api.Schema{}
	for i := 0; ; i++ {
		y, left := copied(x), i
		change(reflect.ValueOf(&y).Elem(), &left)
		if left >= 0 {
			return l
		}
		l = append(l, y)
	}
}

// change makes the change of a value with the index left, and counts left down by the number of changes that there are.
func change(v reflect.Value, left *int) {
	with := func(makeIt func()) {
		if *left == 0 {
			makeIt()
		}
		*left--
	}
	switch v.Kind() {
	case reflect.Struct:
		for i := range v.NumField() {
			change(v.Field(i), left)
		}
	case reflect.Slice:
		for i := range v.Len() {
			change(v.Index(i), left)
		}
		with(func() { v.Set(reflect.Append(v, reflect.Zero(v.Type().Elem()))) })
		if v.Len() > 0 {
			with(func() { v.SetLen(v.Len() - 1) })
		}
	case reflect.Array:
		for i := range v.Len() {
			change(v.Index(i), left)
		}
	case reflect.Int:
		with(func() { v.SetInt(v.Int() + 1) })
		with(func() { v.SetInt(v.Int() - 1) })
	case reflect.String:
		with(func() { v.SetString(v.String() + "a") })
		if v.Len() > 0 {
			with(func() { v.SetString(v.String()[1:]) })
		}
	default:
		panic(fmt.Sprint("no change of ", v.Kind()))
	}
}

// bare returns a schema whose empty lists are all nil, so that equal ones are deeply equal.
func bare(x api.Schema) api.Schema {
	y := api.Schema{Version: x.Version}
	for _, k := range x.Kinds {
		fields := []api.Field(nil)
		for _, f := range k.Fields {
			f.Words = append([]string(nil), f.Words...)
			f.Weights = append([]int(nil), f.Weights...)
			fields = append(fields, f)
		}
		k.Fields = fields
		y.Kinds = append(y.Kinds, k)
	}
	for _, l := range x.Lives {
		l.States = append([]string(nil), l.States...)
		l.Moves = append([][2]int(nil), l.Moves...)
		y.Lives = append(y.Lives, l)
	}
	y.Rules = append(y.Rules, x.Rules...)
	return y
}

// equal returns whether two schemas are equal, without the package's help.
func equal(x, y api.Schema) bool { return reflect.DeepEqual(bare(x), bare(y)) }
