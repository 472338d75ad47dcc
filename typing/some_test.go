package typing_test

import (
	"math/rand"
	"slices"
	"strconv"
	"strings"
	"testing"

	"diorama/api"
	"diorama/schema"
	"diorama/typing"
)

// parsed returns the schema of a text, in which tabs stand for blanks.
func parsed(t *testing.T, text string) api.Schema {
	t.Helper()
	text = strings.ReplaceAll(text, "\t", " ")
	x, at, e := schema.Parse(text)
	if e != api.OK {
		t.Fatalf("%q goes wrong at %d: %d", text, at, e)
	}
	return x
}

// soundText is the source of a schema without problems, which has all kinds of fields.
const soundText = `schema 3
kind a 0 5
key id 7
num n -2 9
pick p 2 w 1 v 0
day d - 0 9
day e d 0 9
day f e -1 1
step s l 0 3
sum t b
sum u c
kind b 0 5
key id 0
ref r a 0 5
share h r t 0 9
copy c r p
copy m r n
day d - 0 9
kind c 0 5
key id 0
ref q a 0 5
ref r b 1 5
share h q u 0 9
copy c r c
copy s q s
copy f q f
num n 0 3
life l 2 x y
move 0 1
life o 1 x
rule r a d n 4
rule s a - n -4
rule t c n - 0
rule u b d - 1
`

// Problems of the life cycles, kinds, fields and rules with these indices.
func atLife(i int, e api.Errno) typing.Problem {
	return typing.Problem{Kind: -1, Field: i, Rule: -1, Code: e}
}

func atKind(i int, e api.Errno) typing.Problem {
	return typing.Problem{Kind: i, Field: -1, Rule: -1, Code: e}
}

func atField(kind, i int, e api.Errno) typing.Problem {
	return typing.Problem{Kind: kind, Field: i, Rule: -1, Code: e}
}

func atRule(i int, e api.Errno) typing.Problem {
	return typing.Problem{Kind: -1, Field: -1, Rule: i, Code: e}
}

// atAll is what is wrong with a schema that is not valid.
func atAll(e api.Errno) typing.Problem {
	return typing.Problem{Kind: -1, Field: -1, Rule: -1, Code: e}
}

// copied returns a schema with memory of its own.
func copied(x api.Schema) api.Schema {
	x.Kinds, x.Lives, x.Rules = slices.Clone(x.Kinds), slices.Clone(x.Lives), slices.Clone(x.Rules)
	for i := range x.Kinds {
		fields := slices.Clone(x.Kinds[i].Fields)
		for j := range fields {
			fields[j].Words, fields[j].Weights = slices.Clone(fields[j].Words), slices.Clone(fields[j].Weights)
		}
		x.Kinds[i].Fields = fields
	}
	for i := range x.Lives {
		x.Lives[i].States, x.Lives[i].Moves = slices.Clone(x.Lives[i].States), slices.Clone(x.Lives[i].Moves)
	}
	return x
}

// random makes schemas.
type random struct{ *rand.Rand }

func newRandom() random { return random{rand.New(rand.NewSource(10))} }

// name returns one of a few names, so that many are equal.
func (r random) name() string { return "abcdef"[r.Intn(6):][:1] }

// names returns names that all differ.
func (r random) names(many int) []string {
	var l []string
	for _, i := range r.Perm(3 * many)[:many] {
		l = append(l, "abcdefghij"[i%10:][:1]+strings.Repeat("x", i/10))
	}
	return l
}

// one returns an element of a list.
func one[T any](r random, l []T) T { return l[r.Intn(len(l))] }

// shaped returns a field as valid as it can be: what its kind does not have is taken away, what it has to have is added.
func (r random) shaped(f api.Field) api.Field {
	some := func(name string) string {
		if name == "" {
			return r.name()
		}
		return name
	}
	g := api.Field{Name: f.Name, Kind: f.Kind, Hi: 1 + r.Intn(9)}
	switch f.Kind {
	case api.Key:
		g.Hi = 0
	case api.Ref, api.Step:
		g.Of = some(f.Of)
	case api.Pick:
		g.Hi, g.Words, g.Weights = 0, []string{"w", r.name()}, []int{1, r.Intn(3)}
	case api.Day:
		g.Of = f.Of
	case api.Sum:
		g.Of, g.Hi = some(f.Of), 0
	case api.Share:
		g.Of, g.Up = some(f.Of), some(f.Up)
	case api.Copy:
		g.Of, g.Up, g.Hi = some(f.Of), some(f.Up), 0
	}
	return g
}

// wild returns a valid schema whose names are any ones.
func (r random) wild() api.Schema {
	x := api.Schema{Version: r.Intn(9)}
	for range r.Intn(5) {
		k := api.Kind{Name: r.name(), Hi: 9}
		for j := range r.Intn(7) {
			f := api.Field{Name: r.name(), Kind: r.Intn(api.Fields), Of: r.name()}
			if j == 0 && r.Intn(6) > 0 {
				f.Kind = api.Key
			}
			if r.Intn(2) == 0 {
				f.Of = ""
			}
			k.Fields = append(k.Fields, r.shaped(f))
		}
		x.Kinds = append(x.Kinds, k)
	}
	for range r.Intn(4) {
		x.Lives = append(x.Lives, api.Life{Name: r.name(), States: []string{r.name()}})
	}
	for range r.Intn(5) {
		x.Rules = append(x.Rules, r.rule())
	}
	return x
}

func (r random) rule() api.Rule {
	u := api.Rule{Name: r.name(), Kind: r.name(), A: r.name(), B: r.name(), N: r.Intn(9)}
	switch r.Intn(5) {
	case 0:
		u.A = ""
	case 1:
		u.B = ""
	case 2:
		u.B = u.A
	}
	return u
}

// sound returns a valid schema without problems.
func (r random) sound() api.Schema {
	x := api.Schema{}
	for _, name := range r.names(1 + r.Intn(3)) {
		x.Lives = append(x.Lives, api.Life{Name: name, States: []string{"w", r.name()}, Moves: [][2]int{{0, 1}}})
	}
	for _, name := range r.names(1 + r.Intn(6)) {
		x.Kinds = append(x.Kinds, api.Kind{Name: name, Hi: 9})
	}
	for kind := range x.Kinds {
		names := r.names(10)
		add := func(f api.Field) {
			if n := len(x.Kinds[kind].Fields); n < 8 { // two places are left for Sums, whose names are longer
				f.Name = names[n]
				x.Kinds[kind].Fields = append(x.Kinds[kind].Fields, r.shaped(f))
			}
		}
		add(api.Field{Kind: api.Key})
		for range r.Intn(3) {
			r.plain(x, kind, add)
		}
		for range min(kind, r.Intn(3)) {
			r.upward(x, kind, add)
		}
		r.plain(x, kind, add)
	}
	for i, name := range r.names(r.Intn(5)) {
		r.ruled(&x, name, i)
	}
	return x
}

// plain adds a Num, a Pick, a Step, or a Day and perhaps one behind it.
func (r random) plain(x api.Schema, kind int, add func(f api.Field)) {
	sort := one(r, []int{api.Num, api.Pick, api.Day, api.Step})
	f := api.Field{Kind: sort}
	if sort == api.Step {
		f.Of = one(r, x.Lives).Name
	}
	add(f)
	if last := x.Kinds[kind].Fields[len(x.Kinds[kind].Fields)-1]; last.Kind == api.Day && r.Intn(2) == 0 {
		add(api.Field{Kind: api.Day, Of: last.Name})
	}
}

// upward adds a Ref to an earlier kind, perhaps a Share of a new Sum there, and perhaps Copies.
func (r random) upward(x api.Schema, kind int, add func(f api.Field)) {
	up := &x.Kinds[r.Intn(kind)]
	add(api.Field{Kind: api.Ref, Of: up.Name})
	last := x.Kinds[kind].Fields[len(x.Kinds[kind].Fields)-1]
	if last.Kind != api.Ref || last.Of != up.Name {
		return
	}
	if sum := "sum" + strconv.Itoa(len(up.Fields)); len(x.Kinds[kind].Fields) < 8 && len(up.Fields) < 10 && r.Intn(3) > 0 {
		up.Fields = append(up.Fields, api.Field{Name: sum, Kind: api.Sum, Of: x.Kinds[kind].Name})
		add(api.Field{Kind: api.Share, Up: last.Name, Of: sum})
	}
	for range r.Intn(3) {
		if of := one(r, up.Fields); slices.Contains([]int{api.Num, api.Pick, api.Day, api.Step, api.Copy}, of.Kind) {
			add(api.Field{Kind: api.Copy, Up: last.Name, Of: of.Name})
		}
	}
}

// ruled adds a rule over the Nums and Days of a kind, if it has any.
func (r random) ruled(x *api.Schema, name string, n int) {
	k := one(r, x.Kinds)
	fields := []string{""}
	for _, f := range k.Fields {
		if f.Kind == api.Num || f.Kind == api.Day {
			fields = append(fields, f.Name)
		}
	}
	if a, b := one(r, fields), one(r, fields); a != b {
		x.Rules = append(x.Rules, api.Rule{Name: name, Kind: k.Name, A: a, B: b, N: n})
	}
}

// places returns where the names of a schema stand (those of words and states left out).
func places(x api.Schema) []*string {
	var l []*string
	for i := range x.Kinds {
		l = append(l, &x.Kinds[i].Name)
		for j := range x.Kinds[i].Fields {
			f := &x.Kinds[i].Fields[j]
			l = append(l, &f.Name, &f.Of, &f.Up)
		}
	}
	for i := range x.Lives {
		l = append(l, &x.Lives[i].Name)
	}
	for i := range x.Rules {
		u := &x.Rules[i]
		l = append(l, &u.Name, &u.Kind, &u.A, &u.B)
	}
	return slices.DeleteFunc(l, func(p *string) bool { return *p == "" })
}

// changed returns a schema with one change: mostly a valid one, and often with a problem.
func (r random) changed(x api.Schema) api.Schema {
	x = copied(x)
	kind := &x.Kinds[r.Intn(len(x.Kinds))]
	n := len(kind.Fields)
	switch change := r.Intn(10); {
	case change < 3:
		l := places(x)
		*one(r, l) = *one(r, l)
	case change == 3 && n > 0:
		i := r.Intn(n)
		kind.Fields[i].Kind = r.Intn(api.Fields)
		kind.Fields[i] = r.shaped(kind.Fields[i])
	case change == 4 && n > 0:
		i, j := r.Intn(n), r.Intn(n)
		kind.Fields[i], kind.Fields[j] = kind.Fields[j], kind.Fields[i]
	case change == 5 && n > 0:
		i := r.Intn(n)
		kind.Fields = slices.Delete(kind.Fields, i, i+1)
	case change == 6 && n > 0:
		kind.Fields = append(kind.Fields, one(r, kind.Fields))
	case change == 7:
		other := &x.Kinds[r.Intn(len(x.Kinds))]
		*kind, *other = *other, *kind
	case change == 8:
		x.Lives = slices.Delete(append(x.Lives, one(r, x.Lives)), 0, r.Intn(2))
	case r.Intn(9) == 0:
		x.Version = -1
	default:
		x.Rules = append(x.Rules, r.rule(), r.rule())
	}
	return x
}

// someSchemas are schemas without problems, those with a few changes, and any ones. A few are not valid.
func someSchemas(many int) []api.Schema {
	r := newRandom()
	l := []api.Schema{{}}
	for len(l) < many {
		x := r.sound()
		l = append(l, x, r.wild())
		for range 4 {
			x = r.changed(x)
			l = append(l, x)
		}
	}
	return l
}

// validSchemas are those of someSchemas that are valid.
func validSchemas(many int) []api.Schema {
	return slices.DeleteFunc(someSchemas(many), func(x api.Schema) bool { return schema.Valid(x) != api.OK })
}
