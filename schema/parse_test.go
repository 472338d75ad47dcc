package schema_test

import (
	"regexp"
	"sort"
	"strconv"
	"strings"
	"testing"

	"diorama/api"
	"diorama/schema"
)

// grammar has two regular expressions of tokens, each with a blank behind it: one of whole sentences, one of their beginnings.
type grammar struct{ whole, begin string }

// oneOf is a token of a form.
func oneOf(form string) grammar {
	return grammar{"(?:" + form + ") ", "(?:(?:" + form + ") )?"}
}

// oneAfterAnother is a sequence.
func oneAfterAnother(parts ...grammar) grammar {
	g := parts[len(parts)-1]
	for i := len(parts) - 2; i >= 0; i-- {
		g = grammar{parts[i].whole + g.whole, "(?:" + parts[i].begin + "|" + parts[i].whole + g.begin + ")"}
	}
	return g
}

// either is a choice.
func either(parts ...grammar) grammar {
	var whole, begin []string
	for _, p := range parts {
		whole, begin = append(whole, p.whole), append(begin, p.begin)
	}
	return grammar{"(?:" + strings.Join(whole, "|") + ")", "(?:" + strings.Join(begin, "|") + ")"}
}

// anyTimes is a part that is repeated.
func anyTimes(p grammar) grammar {
	return grammar{"(?:" + p.whole + ")*", "(?:" + p.whole + ")*(?:" + p.begin + ")"}
}

// counted is a number from 1 to 12, and a part as many times.
func counted(p grammar) grammar {
	var all []grammar
	for n := 1; n <= 12; n++ {
		digits := strconv.Itoa(n)
		count := "0{0," + strconv.Itoa(9-len(digits)) + "}" + digits + " "
		whole := count + "(?:" + p.whole + "){" + digits + "}"
		begin := "(?:" + count + "(?:" + p.whole + "){0," + strconv.Itoa(n-1) + "}" + p.begin + ")?"
		all = append(all, grammar{whole, begin})
	}
	return either(all...)
}

// refGrammar is the chapter's grammar.
func refGrammar() (whole, begin *regexp.Regexp) {
	num, name := oneOf("-?[0-9]{1,9}"), oneOf("[a-z][a-z0-9]{0,11}")
	names := oneOf("[a-z][a-z0-9]{0,11}|-")
	word, seq := oneOf, oneAfterAnother
	field := either(
		seq(word("key"), name, num),
		seq(word("ref"), name, name, num, num),
		seq(word("num"), name, num, num),
		seq(word("pick"), name, counted(seq(name, num))),
		seq(word("day"), name, names, num, num),
		seq(word("step"), name, name, num, num),
		seq(word("sum"), name, name),
		seq(word("share"), name, name, name, num, num),
		seq(word("copy"), name, name, name),
	)
	kind := seq(word("kind"), name, num, num, anyTimes(field))
	life := seq(word("life"), name, counted(name), anyTimes(seq(word("move"), num, num)))
	rule := seq(word("rule"), name, name, names, names, num)
	source := seq(word("schema"), num, anyTimes(kind), anyTimes(life), anyTimes(rule))
	return regexp.MustCompile("^(?:" + source.whole + ")$"), regexp.MustCompile("^(?:" + source.begin + ")$")
}

var wholeForm, beginForm = refGrammar()

// refForm returns where a text goes wrong, and whether it does not.
func refForm(s string) (int, bool) {
	starts, tokens, stop := []int{}, []string{}, len(s)
	for i := 0; i < len(s); {
		if s[i] == ' ' || s[i] == '\n' {
			i++
			continue
		}
		end := i
		for end < len(s) && 33 <= s[end] && s[end] <= 126 {
			end++
		}
		if end == i {
			stop = i
			break
		}
		starts, tokens = append(starts, i), append(tokens, s[i:end]+" ")
		i = end
	}
	begins := func(k int) bool { return beginForm.MatchString(strings.Join(tokens[:k], "")) }
	if wrong := sort.Search(len(tokens), func(i int) bool { return !begins(i + 1) }); wrong < len(tokens) {
		return starts[wrong], false
	}
	if stop < len(s) || !wholeForm.MatchString(strings.Join(tokens, "")) {
		return stop, false
	}
	return 0, true
}

// checkForm checks Parse of a text of at most 8192 bytes against the regular expressions.
func checkForm(t *testing.T, s string) {
	t.Helper()
	x, at, e := schema.Parse(s)
	wantAt, right := refForm(s)
	switch {
	case at != wantAt, right != (e != api.ErrForm), e != api.OK && e != api.ErrForm && e != api.ErrLimit:
		t.Fatalf("Parse(%q) has the error %d at %d, want %d", s, e, at, wantAt)
	case e != api.OK && !equal(x, api.Schema{}):
		t.Fatalf("Parse(%q) has the error %d and %+v", s, e, x)
	case e == api.OK && (!refSchema(x) || !equalTokens(refSource(x), s)):
		t.Fatalf("Parse(%q) is %+v", s, x)
	}
}

// equalTokens returns whether two texts have the same tokens, but for the ways to write numbers.
func equalTokens(a, b string) bool {
	l, m := strings.Fields(a), strings.Fields(b)
	for i := range min(len(l), len(m)) {
		n, err := strconv.Atoi(l[i])
		k, err2 := strconv.Atoi(m[i])
		if l[i] != m[i] && (err != nil || err2 != nil || n != k) {
			return false
		}
	}
	return len(l) == len(m)
}

// P9.3: what a text says, and where it goes wrong
func TestNamedTexts(t *testing.T) {
	head := "schema 1 kind a 0 9 "
	for _, c := range []struct {
		s  string
		at int
		e  api.Errno
	}{
		{"schema 1 kind a 0 9 key id 5", 0, api.OK},
		{"schema 1 kind 2", 14, api.ErrForm},
		{"schema 1 kind a 0", 17, api.ErrForm},
		{"schema 1 kind a 0 \n ", 20, api.ErrForm},
		{"", 0, api.ErrForm}, {" ", 1, api.ErrForm}, {"\n\n", 2, api.ErrForm},
		{"schema", 6, api.ErrForm}, {"Schema 1", 0, api.ErrForm}, {"schema1", 0, api.ErrForm}, {" schemas 1", 1, api.ErrForm}, {"schem", 0, api.ErrForm}, {"\"schema\" 1", 0, api.ErrForm},
		{"schema\t1", 6, api.ErrForm}, {"sch\tema 1", 0, api.ErrForm}, {"\tschema 1", 0, api.ErrForm}, {"schema 1\r\n", 8, api.ErrForm}, {"schema 1 \x7f", 9, api.ErrForm}, {"schema 1\x00", 8, api.ErrForm}, {"schema 1 ä", 9, api.ErrForm}, {"schema \xff x", 7, api.ErrForm}, {"schema x \xff", 7, api.ErrForm},
		{"schema -", 7, api.ErrForm}, {"schema --1", 7, api.ErrForm}, {"schema +1", 7, api.ErrForm}, {"schema 1-", 7, api.ErrForm}, {"schema 1.0", 7, api.ErrForm}, {"schema 0x1", 7, api.ErrForm}, {"schema 1_0", 7, api.ErrForm}, {"schema 1234567890", 7, api.ErrForm}, {"schema -1234567890", 7, api.ErrForm}, {"schema 0000000000", 7, api.ErrForm}, {"schema 99999999999999999999999", 7, api.ErrForm},
		{"schema 123456789", 0, api.ErrLimit}, {"schema -123456789", 0, api.ErrLimit}, {"schema -1", 0, api.ErrLimit}, {"schema 1048577", 0, api.ErrLimit}, {"schema 1048576", 0, api.OK}, {"schema -0", 0, api.OK},
		{"schema 1 schema 1", 9, api.ErrForm}, {"schema 1 key id 5", 9, api.ErrForm}, {"schema 1 move 0 0", 9, api.ErrForm}, {"schema 1 rules", 9, api.ErrForm}, {"schema 1 life l 1 s kind a 0 9", 20, api.ErrForm}, {"schema 1 rule r a x - 0 kind a 0 9", 24, api.ErrForm}, {"schema 1 rule r a x - 0 move 0 0", 24, api.ErrForm},
		{head + "key - 5", 24, api.ErrForm}, {head + "key id -", 27, api.ErrForm}, {head + "key id 5 key id 5", 0, api.OK}, {head + "num n 1", 27, api.ErrForm}, {head + "num n - 1 2", 26, api.ErrForm}, {head + "ref r a b 1", 28, api.ErrForm},
		{head + "pick p -1 w 1", 27, api.ErrForm}, {head + "pick p -12 w 1", 27, api.ErrForm}, {head + "pick p 12 w 1", 33, api.ErrForm}, {head + "pick p 1 w 1 v 1", 33, api.ErrForm}, {head + "pick p 1 1 w", 29, api.ErrForm}, {head + "pick p 1 - 1", 29, api.ErrForm}, {head + "pick p 0000000001 w 1", 27, api.ErrForm}, {head + "pick p 000000001 w 1", 0, api.OK}, {head + "pick p 123456789 w 1", 27, api.ErrForm}, {head + "pick p 1 w -1", 0, api.ErrLimit}, {head + "pick p 2 w 1048576 w 0", 0, api.OK}, {head + "pick p 2 w 1048577 w 0", 0, api.ErrLimit},
		{head + "day d - 1 0", 0, api.ErrLimit}, {head + "day d -- 0 1", 26, api.ErrForm}, {head + "day - - 0 1", 24, api.ErrForm}, {head + "step s - 0 1", 27, api.ErrForm}, {head + "step s l 0 32", 0, api.OK}, {head + "sum s -", 26, api.ErrForm}, {head + "share s - o 0 1", 28, api.ErrForm}, {head + "share s u - 0 1", 30, api.ErrForm}, {head + "copy c - o", 27, api.ErrForm}, {head + "copy c u -", 29, api.ErrForm}, {head + "copy c u", 28, api.ErrForm},
		{"schema 1 life l 13 s", 16, api.ErrForm}, {"schema 1 life l 2 s", 19, api.ErrForm}, {"schema 1 life l 2 s t u", 22, api.ErrForm}, {"schema 1 life l 1 -", 18, api.ErrForm}, {"schema 1 life - 1 s", 14, api.ErrForm}, {"schema 1 life l 2 move move move 1 1", 0, api.OK}, {"schema 1 life l 1 s move 0", 26, api.ErrForm}, {"schema 1 life l 1 s move -1 0", 0, api.ErrLimit}, {"schema 1 life l 1 s move s s", 25, api.ErrForm},
		{"schema 1 rule - a x - 1", 14, api.ErrForm}, {"schema 1 rule r - x - 1", 16, api.ErrForm}, {"schema 1 rule r a - x -1", 0, api.OK}, {"schema 1 rule r a x x 1048577", 0, api.ErrLimit}, {"schema 1 rule r a - -", 21, api.ErrForm}, {"schema 1 rule r a 1 - 1", 18, api.ErrForm},
		{"schema 1 kind kind 0 0 key key 0 kind schema 0 0 kind life 0 0 life life 1 life rule rule rule rule rule 0", 0, api.OK},
		{"schema 1" + strings.Repeat(" kind a 0 0", 6), 0, api.OK}, {"schema 1" + strings.Repeat(" kind a 0 0", 7), 0, api.ErrLimit}, {head + strings.Repeat("key k 0 ", 10), 0, api.OK}, {head + strings.Repeat("key k 0 ", 11), 0, api.ErrLimit}, {"schema 1" + strings.Repeat(" life l 1 s", 6), 0, api.OK}, {"schema 1" + strings.Repeat(" life l 1 s", 7), 0, api.ErrLimit}, {"schema 1 life l 1 s" + strings.Repeat(" move 0 0", 32), 0, api.OK}, {"schema 1 life l 1 s" + strings.Repeat(" move 0 0", 33), 0, api.ErrLimit}, {"schema 1" + strings.Repeat(" rule r a x - 1", 16), 0, api.OK}, {"schema 1" + strings.Repeat(" rule r a x - 1", 17), 0, api.ErrLimit}, {"schema 1" + strings.Repeat(" rule r a x - 1", 17) + " rule", 8 + 17*15 + 5, api.ErrForm},
	} {
		_, at, e := schema.Parse(c.s)
		if at != c.at || e != c.e {
			t.Errorf("Parse(%q) has the error %d at %d, want %d at %d", c.s, e, at, c.e, c.at)
		}
		checkForm(t, c.s)
	}
}

// P9.3: the greatest length, ahead of everything else; a source has a line end more than its text may have
func TestLongTexts(t *testing.T) {
	rest := " " + strings.Repeat("x", 8185)
	for _, c := range []struct {
		s  string
		at int
		e  api.Errno
	}{
		{strings.Repeat(" ", 8192), 8192, api.ErrForm}, {strings.Repeat(" ", 8193), 8192, api.ErrLimit}, {strings.Repeat("x", 8192), 0, api.ErrForm}, {strings.Repeat("x", 8193), 8192, api.ErrLimit}, {strings.Repeat("\t", 100000), 8192, api.ErrLimit},
		{"schema" + rest, 7, api.ErrForm}, {"schema" + rest + "x", 8192, api.ErrLimit}, {"schema 1" + strings.Repeat("\n", 8184), 0, api.OK}, {"schema 1" + strings.Repeat("\n", 8185), 8192, api.ErrLimit}, {"schema -1" + strings.Repeat("\n", 8184), 8192, api.ErrLimit},
		{refSource(sized(8192)), 0, api.OK}, {strings.TrimSpace(refSource(sized(8192))), 0, api.OK}, {refSource(sized(8193)), 8192, api.ErrLimit}, {strings.TrimSpace(refSource(sized(8193))), 0, api.ErrLimit}, {strings.TrimSpace(refSource(sized(8194))), 8192, api.ErrLimit}, {strings.TrimSpace(refSource(sized(8190))) + " 1", 8190, api.ErrForm},
	} {
		x, at, e := schema.Parse(c.s)
		if at != c.at || e != c.e || e != api.OK && !equal(x, api.Schema{}) {
			t.Errorf("Parse of %d bytes that begin with %q has the error %d at %d, want %d at %d", len(c.s), c.s[:9], e, at, c.e, c.at)
		}
	}
}

// someTokens are tokens that may stand in the place of others.
var someTokens = append([]string{"0", "1", "2", "12", "13", "-1", "-0", "001", "123456789", "-123456789", "1234567890", "-", "--", "A", "abcdefghijklm", "a-", "1a", "kind\tkey", "kind\x00", "\x7f", "!", "~"}, someNames...)

// P9.3, P9.8: each token of a text left out, doubled, cut, or replaced, against the regular expressions
func TestOtherTokens(t *testing.T) {
	tokens := strings.Fields(wholeSource)
	checkForm(t, wholeSource)
	for i, token := range tokens {
		before, after := strings.Join(tokens[:i], " "), " "+strings.Join(tokens[i+1:], "\n ")
		checkForm(t, before)
		checkForm(t, before+after)
		checkForm(t, before+" "+token+" "+token+after)
		checkForm(t, before+" "+token[1:]+after)
		for _, other := range someTokens {
			checkForm(t, before+" "+other+after)
		}
	}
}

// P9.3, P9.8: each byte of a text left out, and others put before it
func TestOtherBytes(t *testing.T) {
	text := "schema 3\nkind order 0 20\nref of person 0 4\npick tag 2 red 3 blue 0\nday d - -9 1\nlife life 2 new done\nmove 0 1\nrule r2 person - size -2\n"
	checkForm(t, text)
	for i := range len(text) {
		checkForm(t, text[:i])
		checkForm(t, text[:i]+text[i+1:])
		for b := range 256 {
			checkForm(t, text[:i]+string([]byte{byte(b)})+text[i:])
		}
	}
}

// P9.3, P9.8: other schemas, with random changes of tokens and bytes
func TestRandomTexts(t *testing.T) {
	r := newRandom()
	for _, x := range randomSchemas(600) {
		tokens := strings.Fields(refSource(x))
		if len(tokens) > 100 {
			tokens = tokens[:100]
		}
		for range 1 + r.Intn(2) {
			tokens[r.Intn(len(tokens))] = someTokens[r.Intn(len(someTokens))]
		}
		text := spaced(r, strings.Join(tokens, " "))
		checkForm(t, text)
		at := r.Intn(len(text) + 1)
		checkForm(t, text[:at]+string([]byte{byte(r.Intn(256))})+text[at:])
	}
}

// P9.8
func TestBeginnings(t *testing.T) {
	check := func(text string) {
		t.Helper()
		_, at, e := schema.Parse(text)
		if e != api.ErrForm {
			return
		}
		_, again, e := schema.Parse(text[:at])
		if e != api.OK && e != api.ErrLimit && (e != api.ErrForm || again != at) {
			t.Fatalf("Parse(%q) goes wrong at %d, but what is before it has the error %d at %d", text, at, e, again)
		}
	}
	for i := range len(wholeSource) {
		check(wholeSource[:i])
		for _, token := range someTokens {
			check(wholeSource[:i] + token + wholeSource[i:])
			check(wholeSource[:i] + " " + token + " " + wholeSource[i:])
		}
	}
}
