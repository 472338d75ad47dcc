package typing_test

import (
	"reflect"
	"slices"
	"testing"

	"diorama/api"
	"diorama/schema"
	"diorama/typing"
)

// P10.1 to P10.4: against the second computation
func TestSecondComputation(t *testing.T) {
	times, sound := map[string]int{}, 0
	for _, x := range someSchemas(20000) {
		got, want := typing.Check(x), secondCheck(x)
		if !slices.Equal(got, want) {
			t.Fatalf("Check of\n%s%+v is %q, want %q", schema.Print(x), x, shown(got), shown(want))
		}
		if len(got) == 0 {
			sound++
		}
		for _, p := range got {
			times[sortOf(x, p)]++
		}
		checkLeads(t, x)
	}
	if sound < 4000 {
		t.Errorf("only %d schemas have no problems", sound)
	}
	for _, sort := range []string{"all arg", "life twice", "kind twice", "kind need", "field twice", "key type", "ref name", "day name", "step name", "sum name", "sum need", "share name", "share type", "copy name", "copy type", "rule twice", "rule name", "rule type", "rule arg"} {
		if times[sort] < 50 {
			t.Errorf("%q is found only %d times", sort, times[sort])
		}
		delete(times, sort)
	}
	if len(times) > 0 {
		t.Errorf("there are other problems: %v", times)
	}
}

// sortOf returns of which sort a problem is.
func sortOf(x api.Schema, p typing.Problem) string {
	code := shown([]typing.Problem{atAll(p.Code)})[len("all"):]
	switch {
	case p == atAll(p.Code):
		return "all" + code
	case p.Rule >= 0:
		return "rule" + code
	case p.Kind < 0:
		return "life" + code
	case p.Field < 0:
		return "kind" + code
	case p.Code == api.ErrTwice:
		return "field" + code
	}
	words := [api.Fields]string{"key", "ref", "num", "pick", "day", "step", "sum", "share", "copy"}
	return words[x.Kinds[p.Kind].Fields[p.Field].Kind] + code
}

// checkLeads checks where names and fields lead, against the second computation.
func checkLeads(t *testing.T, x api.Schema) {
	t.Helper()
	kinds := kindNames(x)
	for _, name := range []string{"a", "b", "c", "ax", "axx", "w", "", "none"} {
		if got := typing.Kind(x, name); got != found(kinds, name) {
			t.Fatalf("%q leads to the kind %d of %+v", name, got, x)
		}
		for _, k := range x.Kinds {
			if got := typing.Field(k, name); got != found(fieldNames(k), name) {
				t.Fatalf("%q leads to the field %d of %+v", name, got, k)
			}
		}
	}
	for kind := -1; kind <= len(x.Kinds); kind++ {
		for field := -1; field < 11; field++ {
			if got, want := typing.Up(x, kind, field), secondUp(x, kind, field); got != want {
				t.Fatalf("Up of %d.%d of %+v is %d, want %d", kind, field, x, got, want)
			}
			a, b := typing.Shares(x, kind, field)
			if c, d := secondShares(x, kind, field); a != c || b != d {
				t.Fatalf("Shares of %d.%d of %+v are %d and %d, want %d and %d", kind, field, x, a, b, c, d)
			}
		}
	}
}

// P10.5: upward fields and totals, and what leads from record to record
func TestUpward(t *testing.T) {
	sums, ups := 0, 0
	for _, x := range validSchemas(20000) {
		if len(typing.Check(x)) > 0 {
			continue
		}
		for i, k := range x.Kinds {
			for j, f := range k.Fields {
				switch f.Kind {
				case api.Ref, api.Share, api.Copy:
					ups++
					if up := typing.Up(x, i, j); up < 0 || up >= i {
						t.Fatalf("%d.%d of %+v leads up to %d", i, j, x, up)
					}
				case api.Sum:
					sums++
					kind, share := typing.Shares(x, i, j)
					if kind <= i || kind >= len(x.Kinds) || x.Kinds[kind].Fields[share].Kind != api.Share || typing.Up(x, kind, share) != i {
						t.Fatalf("%d.%d of %+v has its share at %d.%d", i, j, x, kind, share)
					}
				}
			}
		}
	}
	if sums < 1000 || ups < 1000 {
		t.Errorf("only %d totals and %d upward fields", sums, ups)
	}
}

// renamed returns a schema in which a map has replaced all names.
func renamed(x api.Schema, to func(name string) string) api.Schema {
	x = copied(x)
	for _, p := range places(x) {
		*p = to(*p)
	}
	for _, k := range x.Kinds {
		for _, f := range k.Fields {
			for i, word := range f.Words {
				f.Words[i] = to(word)
			}
		}
	}
	for _, l := range x.Lives {
		for i, state := range l.States {
			l.States[i] = to(state)
		}
	}
	return x
}

// P10.6: names in another order, each one longer, and names that are words of the language of schemas
func TestOtherNames(t *testing.T) {
	words := []string{"key", "ref", "num", "pick", "day", "step", "sum", "share", "copy", "schema", "kind", "life", "rule", "move"}
	r := newRandom()
	for _, x := range validSchemas(5000) {
		used := map[string]string{}
		free := slices.Clone(words)
		for i := range 60 {
			free = append(free, "q"+string([]byte{byte('0' + i/10), byte('0' + i%10)}))
		}
		r.Shuffle(len(free), func(i, j int) { free[i], free[j] = free[j], free[i] })
		y := renamed(x, func(name string) string {
			if used[name] == "" {
				used[name] = free[len(used)]
			}
			return used[name]
		})
		if schema.Same(x, y) && len(x.Kinds) > 0 {
			t.Fatalf("%+v has the same names", x)
		}
		if a, b := typing.Check(x), typing.Check(y); !slices.Equal(a, b) {
			t.Fatalf("%+v has %q, with other names %q", x, shown(a), shown(b))
		}
	}
}

// P10.7: without its rules
func TestWithoutRules(t *testing.T) {
	withRules := 0
	for _, x := range validSchemas(10000) {
		all := typing.Check(x)
		others := slices.DeleteFunc(slices.Clone(all), func(p typing.Problem) bool { return p.Rule >= 0 })
		if len(others) < len(all) {
			withRules++
		}
		x.Rules = nil
		if got := typing.Check(x); !slices.Equal(got, others) {
			t.Fatalf("%+v has %q, with its rules %q", x, shown(got), shown(all))
		}
	}
	if withRules < 500 {
		t.Errorf("only %d schemas have problems of rules", withRules)
	}
}

// P10.7: with a kind that the others do not name, whatever is in it
func TestFurtherKind(t *testing.T) {
	r, further := newRandom(), 0
	for _, x := range validSchemas(10000) {
		if len(x.Kinds) == api.MaxKinds {
			continue
		}
		y := copied(x)
		k := api.Kind{Name: "new"}
		for range r.Intn(4) {
			f := r.shaped(api.Field{Name: r.name(), Kind: r.Intn(api.Fields), Of: one(r, []string{"a", "b", "new", "sum1"}), Up: r.name()})
			k.Fields = append(k.Fields, f)
		}
		y.Kinds = append(y.Kinds, k)
		all := typing.Check(y)
		own := func(p typing.Problem) bool { return p.Kind == len(x.Kinds) }
		if slices.ContainsFunc(all, own) {
			further++
		}
		if a, b := typing.Check(x), slices.DeleteFunc(slices.Clone(all), own); !slices.Equal(a, b) {
			t.Fatalf("%+v has %q, with a further kind %q", x, shown(a), shown(b))
		}
	}
	if further < 500 {
		t.Errorf("only %d further kinds have problems", further)
	}
}

// P10.8: other numbers
func TestOtherNumbers(t *testing.T) {
	r := newRandom()
	for _, x := range validSchemas(5000) {
		y := copied(x)
		y.Version = r.Intn(1<<20 + 1)
		for i := range y.Kinds {
			y.Kinds[i].Lo, y.Kinds[i].Hi = r.Intn(99), 99+r.Intn(65536-98)
			for j := range y.Kinds[i].Fields {
				r.renumber(&y.Kinds[i].Fields[j])
			}
		}
		for i := range y.Rules {
			y.Rules[i].N = r.Intn(1<<21+1) - 1<<20
		}
		if e := schema.Valid(y); e != api.OK {
			t.Fatalf("%+v is not valid: %d", y, e)
		}
		if a, b := typing.Check(x), typing.Check(y); !slices.Equal(a, b) {
			t.Fatalf("%+v has %q, with other numbers %q", x, shown(a), shown(b))
		}
	}
}

// renumber gives a field other numbers.
func (r random) renumber(f *api.Field) {
	switch f.Kind {
	case api.Key:
		f.Lo = r.Intn(1<<21+1) - 1<<20
	case api.Num, api.Day:
		f.Lo, f.Hi = -r.Intn(1<<20+1), r.Intn(1<<20+1)
	case api.Ref, api.Step, api.Share:
		f.Lo, f.Hi = r.Intn(9), 9+r.Intn(24)
	case api.Pick:
		for i := range f.Weights {
			f.Weights[i] = 1 + r.Intn(1<<20)
		}
	}
}

// Arguments stay as they are.
func TestArgumentsStay(t *testing.T) {
	for _, x := range someSchemas(500) {
		y := copied(x)
		typing.Check(x)
		checkLeads(t, x)
		if !reflect.DeepEqual(x, y) {
			t.Fatalf("%+v became %+v", y, x)
		}
	}
}

// A change of a result does not show in another one.
func TestOwnMemory(t *testing.T) {
	x := parsed(t, "schema 0 kind a 0 0 kind b 0 0")
	for _, x := range []api.Schema{x, {Version: -1}} {
		a := typing.Check(x)
		b := slices.Clone(a)
		clear(a[:cap(a)])
		if c := typing.Check(x); !slices.Equal(b, c) {
			t.Errorf("Check is %v, before %v", c, b)
		}
	}
}
