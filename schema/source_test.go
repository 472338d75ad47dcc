package schema_test

import (
	"fmt"
	"reflect"
	"slices"
	"strings"
	"testing"

	"diorama/api"
	"diorama/schema"
)

// refDash is what a source has for a name that may be empty.
func refDash(s string) string {
	if s == "" {
		return "-"
	}
	return s
}

// refLine is the line of a field.
func refLine(f api.Field) string {
	switch f.Kind {
	case api.Key:
		return fmt.Sprintf("\nkey %s %d", f.Name, f.Lo)
	case api.Ref:
		return fmt.Sprintf("\nref %s %s %d %d", f.Name, f.Of, f.Lo, f.Hi)
	case api.Num:
		return fmt.Sprintf("\nnum %s %d %d", f.Name, f.Lo, f.Hi)
	case api.Day:
		return fmt.Sprintf("\nday %s %s %d %d", f.Name, refDash(f.Of), f.Lo, f.Hi)
	case api.Step:
		return fmt.Sprintf("\nstep %s %s %d %d", f.Name, f.Of, f.Lo, f.Hi)
	case api.Sum:
		return fmt.Sprintf("\nsum %s %s", f.Name, f.Of)
	case api.Share:
		return fmt.Sprintf("\nshare %s %s %s %d %d", f.Name, f.Up, f.Of, f.Lo, f.Hi)
	case api.Copy:
		return fmt.Sprintf("\ncopy %s %s %s", f.Name, f.Up, f.Of)
	}
	s := fmt.Sprintf("\npick %s %d", f.Name, len(f.Words))
	for i, w := range f.Words {
		s += fmt.Sprintf(" %s %d", w, f.Weights[i])
	}
	return s
}

// refSource is the source of a valid schema, with a new line before each part.
func refSource(x api.Schema) string {
	s := fmt.Sprintf("schema %d", x.Version)
	for _, k := range x.Kinds {
		s += fmt.Sprintf("\nkind %s %d %d", k.Name, k.Lo, k.Hi)
		for _, f := range k.Fields {
			s += refLine(f)
		}
	}
	for _, l := range x.Lives {
		s += fmt.Sprintf("\nlife %s %d %s", l.Name, len(l.States), strings.Join(l.States, " "))
		for _, m := range l.Moves {
			s += fmt.Sprintf("\nmove %d %d", m[0], m[1])
		}
	}
	for _, r := range x.Rules {
		s += fmt.Sprintf("\nrule %s %s %s %s %d", r.Name, r.Kind, refDash(r.A), refDash(r.B), r.N)
	}
	return s + "\n"
}

// mustParse returns the schema of a text.
func mustParse(t *testing.T, s string) api.Schema {
	t.Helper()
	x, at, e := schema.Parse(s)
	if at != 0 || e != api.OK {
		t.Fatalf("Parse(%q) has the error %d at %d", s, e, at)
	}
	return x
}

// P9.2, P9.3: sources and what they say
func TestSources(t *testing.T) {
	example := withField(api.Field{Name: "id", Lo: 5})
	example.Version, example.Kinds[0].Hi = 1, 9
	for _, c := range []struct {
		x api.Schema
		s string
	}{
		{api.Schema{}, "schema 0\n"},
		{api.Schema{Version: 1048576}, "schema 1048576\n"},
		{example, "schema 1\nkind a 0 9\nkey id 5\n"},
		{whole(), wholeSource},
		{withField(api.Field{Name: "d", Kind: api.Day, Lo: -1048576, Hi: -1}), "schema 0\nkind a 0 0\nday d - -1048576 -1\n"},
		{withField(api.Field{Name: "ref", Kind: api.Ref, Of: "kind", Hi: 65536}), "schema 0\nkind a 0 0\nref ref kind 0 65536\n"},
		{withField(api.Field{Name: "s", Kind: api.Share, Up: "up", Of: "of"}), "schema 0\nkind a 0 0\nshare s up of 0 0\n"},
		{withField(api.Field{Name: "c", Kind: api.Copy, Up: "up", Of: "of"}), "schema 0\nkind a 0 0\ncopy c up of\n"},
		{api.Schema{Lives: []api.Life{{Name: "l", States: []string{"move"}}}, Rules: []api.Rule{{Name: "rule", Kind: "rule", A: "a", B: "b", N: -1}}}, "schema 0\nlife l 1 move\nrule rule rule a b -1\n"},
	} {
		if s := schema.Print(c.x); s != c.s {
			t.Errorf("Print is %q, want %q", s, c.s)
		}
		if x := mustParse(t, c.s); !equal(x, c.x) {
			t.Errorf("Parse(%q) is %+v, want %+v", c.s, x, c.x)
		}
	}
}

// P9.2: against a second way to print; a schema that is not valid has no source
func TestPrint(t *testing.T) {
	for _, x := range randomSchemas(2000) {
		if s := schema.Print(x); s != refSource(x) {
			t.Fatalf("Print is %q, want %q", s, refSource(x))
		}
	}
	for _, x := range strangeSchemas() {
		if s := schema.Print(x); s != "" {
			t.Errorf("Print is %q", s)
		}
	}
}

// P9.6
func TestAgain(t *testing.T) {
	for _, x := range append(randomSchemas(2000), sized(8192), sized(8191)) {
		y := mustParse(t, schema.Print(x))
		if !equal(x, y) || !schema.Same(x, y) {
			t.Fatalf("the source of %+v is read as %+v", x, y)
		}
		z := mustParse(t, schema.Print(y))
		if !equal(y, z) || schema.Print(y) != schema.Print(z) {
			t.Fatalf("the source of %+v is read as %+v", y, z)
		}
	}
}

// P9.6: texts that are not sources, but are read
func TestOtherTexts(t *testing.T) {
	for _, c := range []struct{ text, source string }{
		{"schema 000000001", "schema 1\n"},
		{"schema -0", "schema 0\n"},
		{"schema -000000000", "schema 0\n"},
		{"\n\n schema\n1\n", "schema 1\n"},
		{"schema 0 kind a 00 007 num n -0 01 num m -05 -00", "schema 0\nkind a 0 7\nnum n 0 1\nnum m -5 0\n"},
		{"schema 0 kind a 0 0 pick p 000000002 v 01 w -0", "schema 0\nkind a 0 0\npick p 2 v 1 w 0\n"},
		{"schema 0 life l 00000012 a b c d e f g h i j k l move 011 -0", "schema 0\nlife l 12 a b c d e f g h i j k l\nmove 11 0\n"},
		{"schema 0 rule r a - - x 0", ""},
		{"schema 0 rule r a - x -0", "schema 0\nrule r a - x 0\n"},
	} {
		x, _, e := schema.Parse(c.text)
		if s := schema.Print(x); s != c.source && c.source != "" || e == api.OK != (c.source != "") {
			t.Errorf("Parse(%q) has the error %d and the source %q, want %q", c.text, e, s, c.source)
		}
	}
}

// spaced puts more blanks and line ends ahead of, between and behind the tokens of a text.
func spaced(r random, text string) string {
	gap := func(least int) string {
		b := make([]byte, least+r.Intn(4))
		for i := range b {
			b[i] = " \n"[r.Intn(2)]
		}
		return string(b)
	}
	s := gap(0)
	for i, token := range strings.Fields(text) {
		if i > 0 {
			s += gap(1)
		}
		s += token
	}
	return s + gap(0)
}

// P9.7: of texts with schemas, with schemas that are not valid, and with a wrong end
func TestBlanks(t *testing.T) {
	r := newRandom()
	for _, x := range randomSchemas(500) {
		for _, text := range []string{refSource(x), refSource(x) + "rule r a - - 1", refSource(x) + "rule r a", refSource(x) + "life"} {
			more := spaced(r, text)
			if len(text) > 8192 || len(more) > 8192 {
				continue
			}
			a, at, e := schema.Parse(text)
			b, moreAt, f := schema.Parse(more)
			if e != f || !equal(a, b) || !slices.Equal(strings.Fields(text[:at]), strings.Fields(more[:moreAt])) {
				t.Fatalf("Parse(%q) is %+v, %d and %d, Parse(%q) is %+v, %d and %d", text, a, at, e, more, b, moreAt, f)
			}
		}
	}
}

// P9.3, P9.7: as many blanks as there may be, and one more
func TestTooManyBlanks(t *testing.T) {
	for _, source := range []string{wholeSource, refSource(sized(8190)), refSource(sized(8192))} {
		room := strings.Repeat(" ", 8192-len(source))
		want := mustParse(t, source)
		first := strings.IndexByte(source, ' ')
		for _, text := range []string{source + room, room + source, source[:first] + room + source[first:]} {
			if x := mustParse(t, text); !equal(x, want) {
				t.Errorf("%d bytes are read as %+v", len(text), x)
			}
			for _, more := range []string{text + " ", "\n" + text, text[:first] + text[first:] + "\n"} {
				if x, at, e := schema.Parse(more); !equal(x, api.Schema{}) || at != 8192 || e != api.ErrLimit {
					t.Errorf("%d bytes have the error %d at %d", len(more), e, at)
				}
			}
		}
	}
}

// Results share no memory: a change of one does not show in another one.
func TestOwnMemory(t *testing.T) {
	x, y := mustParse(t, wholeSource), mustParse(t, wholeSource)
	for i := range x.Kinds {
		for j := range x.Kinds[i].Fields {
			f := &x.Kinds[i].Fields[j]
			for k := range f.Words {
				f.Words[k], f.Weights[k] = "", -1
			}
			*f = api.Field{}
		}
		x.Kinds[i] = api.Kind{}
	}
	for i := range x.Lives {
		clear(x.Lives[i].States)
		clear(x.Lives[i].Moves)
		x.Lives[i] = api.Life{}
	}
	clear(x.Rules)
	if !equal(y, whole()) || !equal(mustParse(t, wholeSource), whole()) {
		t.Error("two results share memory")
	}
}

// Arguments stay as they are.
func TestArgumentsStay(t *testing.T) {
	for _, x := range append(randomSchemas(50), changed(whole())...) {
		y := copied(x)
		schema.Valid(x)
		schema.Print(x)
		schema.Same(x, x)
		schema.Encode(x)
		schema.Digest(x)
		if !reflect.DeepEqual(x, y) {
			t.Fatalf("%+v became %+v", y, x)
		}
	}
}
