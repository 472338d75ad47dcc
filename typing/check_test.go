package typing_test

import (
	"fmt"
	"math"
	"slices"
	"strings"
	"testing"

	"diorama/api"
	"diorama/typing"
)

// shown returns problems as a text: "life 1 twice, kind 0 need, 0.1 name, rule 2 arg", or "all limit".
func shown(l []typing.Problem) string {
	codes := map[api.Errno]string{api.ErrArg: "arg", api.ErrLimit: "limit", api.ErrTwice: "twice", api.ErrNeed: "need", api.ErrName: "name", api.ErrType: "type"}
	var texts []string
	for _, p := range l {
		where := fmt.Sprintf("%+v", p)
		switch p {
		case atAll(p.Code):
			where = "all"
		case atLife(p.Field, p.Code):
			where = fmt.Sprintf("life %d", p.Field)
		case atKind(p.Kind, p.Code):
			where = fmt.Sprintf("kind %d", p.Kind)
		case atRule(p.Rule, p.Code):
			where = fmt.Sprintf("rule %d", p.Rule)
		case atField(p.Kind, p.Field, p.Code):
			where = fmt.Sprintf("%d.%d", p.Kind, p.Field)
		}
		texts = append(texts, where+" "+codes[p.Code])
	}
	return strings.Join(texts, ", ")
}

// problems checks what Check says of a schema.
func problems(t *testing.T, x api.Schema, want string) {
	t.Helper()
	if got := shown(typing.Check(x)); got != want {
		t.Errorf("Check(%+v) is %q, want %q", x, got, want)
	}
}

// expected is the text of a schema, behind "schema 0 ", and its problems.
type expected struct{ text, want string }

func checkAll(t *testing.T, all []expected) {
	t.Helper()
	for _, c := range all {
		if got := shown(typing.Check(parsed(t, "schema 0 "+c.text))); got != c.want {
			t.Errorf("the problems of %q are %q, want %q", c.text, got, c.want)
		}
	}
}

// Beginnings of schemas: one kind; two, of which the second one has a reference to the first one; and these with a total and its share.
const (
	oneKind   = "kind a 0 5 key id 0 "
	twoKinds  = oneKind + "num n 0 9 kind b 0 5 key id 0 ref r a 0 5 "
	withTotal = oneKind + "num n 0 9 sum s b kind b 0 5 key id 0 ref r a 0 5 share h r s 0 5 "
)

// P10.1: schemas without problems
func TestNoProblems(t *testing.T) {
	problems(t, api.Schema{}, "")
	problems(t, api.Schema{Kinds: []api.Kind{}, Lives: []api.Life{}, Rules: []api.Rule{}}, "")
	problems(t, parsed(t, soundText), "")
	checkAll(t, []expected{
		{"", ""},
		{"life l 1 x life m 1 x", ""},
		{oneKind, ""},
		{"kind x 0 0 key x 0 num y 0 0 kind y 0 0 key x 0 ref y x 0 0 life x 1 x life y 1 y rule x x y - 0 rule y x - y 0", ""},
		{twoKinds, ""},
		{twoKinds + "copy c r n num n 0 0 rule a a n - 0 rule b b - n 0", ""},
		{withTotal, ""},
	})
}

// P10.1: the chapter's examples
func TestExamples(t *testing.T) {
	checkAll(t, []expected{
		{"kind a 0 9 key k 0 kind b 0 9 key k 0 ref r a 0 9 copy c r k", "1.2 type"},
		{"kind a 0 9 key k 0 num n 0 9 kind b 0 9 key k 0 ref r a 0 9 copy c r n", ""},
		{"kind b 0 9 key k 0 ref r a 0 9 copy c r n kind a 0 9 key k 0 num n 0 9", "0.1 name, 0.2 name"},
	})
}

// P10.1, P1: a schema that is not valid has this problem alone, whatever else is wrong
func TestNotValid(t *testing.T) {
	wrong := parsed(t, "schema 0 kind a 0 0 kind a 0 0 sum s z life l 1 x life l 1 x rule r z a - 0 rule r z a - 0")
	problems(t, wrong, "life 1 twice, kind 0 need, kind 1 twice, 1.0 name, rule 0 name, rule 1 twice")
	for _, change := range []func(x *api.Schema){
		func(x *api.Schema) { x.Version = -1 },
		func(x *api.Schema) { x.Version = math.MaxInt },
		func(x *api.Schema) { x.Kinds[0].Name = "" },
		func(x *api.Schema) { x.Kinds[0].Hi = -1 },
		func(x *api.Schema) { x.Kinds[1].Fields[0].Kind = -1 },
		func(x *api.Schema) { x.Kinds[1].Fields[0].Kind = api.Fields },
		func(x *api.Schema) { x.Kinds[1].Fields[0].Kind = math.MinInt },
		func(x *api.Schema) { x.Kinds[1].Fields[0].Of = "" },
		func(x *api.Schema) { x.Kinds[1].Fields[0].Up = "r" },
		func(x *api.Schema) { x.Kinds = slices.Repeat(x.Kinds, 4) },
		func(x *api.Schema) { x.Lives[0].States = nil },
		func(x *api.Schema) { x.Lives[0].Moves = [][2]int{{0, 1}} },
		func(x *api.Schema) { x.Rules[0].A = "" },
		func(x *api.Schema) { x.Rules = slices.Repeat(x.Rules, 9) },
	} {
		x := copied(wrong)
		change(&x)
		problems(t, x, "all arg")
	}
	words := slices.Repeat([]string{strings.Repeat("w", 12)}, 12)
	f := api.Field{Name: "p", Kind: api.Pick, Words: words, Weights: slices.Repeat([]int{1 << 20}, 12)}
	k := api.Kind{Name: "k", Fields: slices.Repeat([]api.Field{f}, 10)}
	wrong.Kinds = append(wrong.Kinds, k, k, k, k)
	problems(t, wrong, "all limit")
}

// P10.1: life cycles
func TestLives(t *testing.T) {
	checkAll(t, []expected{
		{"life l 1 x life l 1 x", "life 1 twice"},
		{"life l 1 x life m 1 x life l 2 x y life m 1 x life l 1 x life n 1 l", "life 2 twice, life 3 twice, life 4 twice"},
	})
}

// P10.1: kinds
func TestKinds(t *testing.T) {
	checkAll(t, []expected{
		{"kind a 0 0", "kind 0 need"},
		{"kind a 0 0 num n 0 0", "kind 0 need"},
		{"kind a 0 0 num n 0 0 key k 0", "kind 0 need, 0.1 type"},
		{oneKind + oneKind, "kind 1 twice"},
		{"kind a 0 0 kind a 0 0 kind a 0 0 num n 0 0", "kind 0 need, kind 1 twice, kind 2 twice"},
		{oneKind + "kind b 0 0 key k 0 " + oneKind + "kind b 0 0 key k 0", "kind 2 twice, kind 3 twice"},
		{oneKind + "kind a 0 0 num n 0 0 key n 0 ref r a 0 0 ref s z 0 0", "kind 1 twice, 1.1 twice, 1.3 name"},
	})
}

// P10.1: a name of a field that an earlier one has; this counts ahead of what is wrong by the kind of the field
func TestFieldsTwice(t *testing.T) {
	for _, f := range []string{"key id 0 ", "ref id z 0 0 ", "num id 0 0 ", "pick id 1 w 1 ", "day id - 0 0 ", "day id z 0 0 ", "step id z 0 0 ", "sum id z ", "share id z z 0 0 ", "copy id z z "} {
		checkAll(t, []expected{
			{oneKind + f, "0.1 twice"},
			{oneKind + "num n 0 0 " + f + f, "0.2 twice, 0.3 twice"},
			{twoKinds + f + "num m 0 0 num r 0 0", "1.2 twice, 1.4 twice"},
		})
	}
}

// P10.1
func TestKeys(t *testing.T) {
	checkAll(t, []expected{
		{oneKind + "key k 0", "0.1 type"},
		{oneKind + "num n 0 0 key k 0 key l 0 kind b 0 0 key k 0 key l 0", "0.2 type, 0.3 type, 1.1 type"},
	})
}

// P10.1
func TestRefs(t *testing.T) {
	checkAll(t, []expected{
		{oneKind + "ref r z 0 0", "0.1 name"},
		{oneKind + "ref r a 0 0", "0.1 name"},
		{oneKind + "ref r b 0 0 kind b 0 0 key id 0", "0.1 name"},
		{twoKinds + "ref s n 0 0 ref t id 0 0 ref u b 0 0 ref v r 0 0", "1.2 name, 1.3 name, 1.4 name, 1.5 name"},
		{twoKinds + "ref s l 0 0 life l 1 x rule l a n - 0", "1.2 name"},
		{oneKind + "kind a 0 0 key id 0 ref r a 0 0", "kind 1 twice"}, // it leads to the first one
		{oneKind + "kind b 0 0 key id 0 ref r b 0 0 kind b 0 0 key id 0 ref r b 0 0", "1.1 name, kind 2 twice"},
	})
}

// P10.1
func TestDays(t *testing.T) {
	checkAll(t, []expected{
		{oneKind + "day d - 0 0 day e d 0 0 day f e 0 0 day g d 0 0", ""},
		{oneKind + "day d z 0 0", "0.1 name"},
		{oneKind + "day d d 0 0", "0.1 name"},
		{oneKind + "day d e 0 0 day e - 0 0", "0.1 name"},
		{oneKind + "num n 0 0 day d n 0 0 day e id 0 0", "0.2 name, 0.3 name"},
		{oneKind + "num n 0 0 day n - 0 0 day e n 0 0", "0.2 twice, 0.3 name"}, // it leads to the Num
		{oneKind + "day n - 0 0 num n 0 0 day e n 0 0", "0.2 twice"},
		{oneKind + "day d - 0 0 kind b 0 0 key id 0 day e d 0 0", "1.1 name"},
		{oneKind + "day d z 0 0 day e d 0 0", "0.1 name"}, // only the first one leads nowhere
		{twoKinds + "day e a 0 0 day f l 0 0 life l 1 x", "1.2 name, 1.3 name"},
	})
}

// P10.1
func TestSteps(t *testing.T) {
	checkAll(t, []expected{
		{oneKind + "step s l 0 0 life l 1 x", ""},
		{oneKind + "step s l 0 0", "0.1 name"},
		{oneKind + "step s a 0 0 step u id 0 0 step v x 0 0 life l 1 x", "0.1 name, 0.2 name, 0.3 name"},
		{oneKind + "step s m 0 0 step u l 0 0 life l 1 x life m 1 x life l 1 x", "life 2 twice"},
	})
}

// P10.1
func TestSums(t *testing.T) {
	checkAll(t, []expected{
		// over no later kind, even if there is a share, or there are several
		{oneKind + "sum s z", "0.1 name"},
		{oneKind + "sum s a", "0.1 name"},
		{twoKinds + "sum s a", "1.2 name"},
		{oneKind + "sum s n num n 0 0 sum u l life l 1 x", "0.1 name, 0.3 name"},
		{oneKind + "sum s a kind a 0 5 key id 0 ref r a 0 5 share h r s 0 5", "0.1 name, kind 1 twice, 1.2 type"},
		// without a share
		{oneKind + "sum s b kind b 0 5 key id 0", "0.1 need"},
		{oneKind + "sum s b kind b 0 5 key id 0 ref r a 0 5 share h r u 0 5", "0.1 need, 1.2 type"},
		{oneKind + "sum s b kind b 0 5 key id 0 share h r s 0 5 ref r a 0 5", "0.1 need, 1.1 name"},
		{oneKind + "sum s b kind b 0 5 key id 0 ref r b 0 5 share h r s 0 5", "0.1 need, 1.1 name, 1.2 name"},
		{oneKind + "sum s b kind b 0 5 key id 0 ref r a 0 5 copy h r s", "0.1 need, 1.2 type"},
		// with shares that are those of the same name of another kind
		{oneKind + "sum s c kind b 0 5 key id 0 sum s c kind c 0 5 key id 0 ref q a 0 5 ref r b 0 5 share h r s 0 5", "0.1 need"},
		{oneKind + "sum s c kind b 0 5 key id 0 sum s c kind c 0 5 key id 0 ref q a 0 5 ref r b 0 5 share h r s 0 5 share i q s 0 5", ""},
		// with a share in another kind than that over which it is
		{oneKind + "sum s b kind b 0 5 key id 0 kind c 0 5 key id 0 ref r a 0 5 share h r s 0 5", "0.1 need, 2.2 type"},
		{withTotal + "kind c 0 5 key id 0 ref r a 0 5 share h r s 0 5", "2.2 type"},
		{oneKind + "sum s b kind b 0 5 key id 0 kind b 0 5 key id 0 ref r a 0 5 share h r s 0 5", "0.1 need, kind 2 twice, 2.2 type"},
		// with several
		{withTotal + "share i r s 0 5", "0.2 need"},
		{withTotal + "ref q a 0 5 share i q s 0 5 share j r s 0 5", "0.2 need"},
		{withTotal + "share h r s 0 5", "0.2 need, 1.3 twice"},
		// two of one name have their shares together
		{oneKind + "sum s b sum s b kind b 0 5 key id 0 ref r a 0 5 share h r s 0 5", "0.2 twice"},
		{oneKind + "sum s b sum s c kind b 0 5 key id 0 ref r a 0 5 share h r s 0 5 kind c 0 5 key id 0 ref r a 0 5 share h r s 0 5", "0.2 twice, 2.2 type"},
	})
}

// P10.1
func TestShares(t *testing.T) {
	checkAll(t, []expected{
		// up to no kind, even if there is no total
		{withTotal + "share i z s 0 5", "1.3 name"},
		{withTotal + "share i z z 0 5", "1.3 name"},
		{withTotal + "share i id s 0 5 share j h s 0 5 share k k s 0 5", "1.3 name, 1.4 name, 1.5 name"},
		{withTotal + "share i q s 0 5 ref q a 0 5", "1.3 name"},
		{withTotal + "ref q z 0 5 share i q s 0 5", "1.3 name, 1.4 name"},
		{withTotal + "share i a s 0 5 copy c r n share j c s 0 5", "1.3 name, 1.5 name"},
		{withTotal + "num q 0 0 ref q a 0 5 share i q s 0 5", "1.4 twice, 1.5 name"}, // it leads to the Num
		// of no total, of one over another kind, of one of their own kind
		{withTotal + "share i r z 0 5 share j r n 0 5 share k r id 0 5", "1.3 type, 1.4 type, 1.5 type"},
		{withTotal + "kind c 0 5 key id 0 ref r a 0 5 share i r s 0 5", "2.2 type"},
		{withTotal + "kind c 0 5 key id 0 ref r b 0 5 share i r s 0 5 share j r h 0 5", "2.2 type, 2.3 type"},
		{withTotal + "sum u b share i r u 0 5", "1.3 name, 1.4 type"},
		{oneKind + "ref s b 0 5 kind b 0 5 key id 0 ref r a 0 5 share h r s 0 5", "0.1 name, 1.2 type"},
		{oneKind + "num s 0 0 sum s b kind b 0 5 key id 0 ref r a 0 5 share h r s 0 5", "0.2 twice, 1.2 type"}, // it leads to the Num
	})
}

// P10.1
func TestCopies(t *testing.T) {
	all := oneKind + "num n 0 9 pick p 1 w 1 day d - 0 9 step s l 0 9 sum t b kind b 0 5 key id 0 ref r a 0 5 share h r t 0 5 copy c r n kind c 0 5 key id 0 ref q a 0 5 ref r b 0 5 "
	life := "life l 1 x"
	checkAll(t, []expected{
		{all + "copy d q n copy e q p copy f q d copy g q s copy h r c " + life, ""},
		{all + "copy d q id copy e q t copy f r r copy g r h copy i r id " + life, "2.3 type, 2.4 type, 2.5 type, 2.6 type, 2.7 type"},
		{all + "copy d q z copy e q c copy f r n copy g q a copy h r d " + life, "2.3 type, 2.4 type, 2.5 type, 2.6 type, 2.7 type"},
		{all + "copy d z n copy e id n copy f d n copy g b n copy h c c " + life, "2.3 name, 2.4 name, 2.5 name, 2.6 name, 2.7 name"},
		{all + "copy d u n ref u a 0 0 copy e e e copy f u n " + life, "2.3 name, 2.5 name"},
		{all + "copy d z z ref u z 0 0 copy e u z copy f u n " + life, "2.3 name, 2.4 name, 2.5 name, 2.6 name"},
		{all + "num u 0 0 ref u a 0 0 copy d u n " + life, "2.4 twice, 2.5 name"}, // it leads to the Num
		{all + "ref u a 0 0 num u 0 0 copy d u n " + life, "2.4 twice"},
		{oneKind + "key n 0 num n 0 0 kind b 0 0 key id 0 ref r a 0 0 copy c r n", "0.1 type, 0.2 twice, 1.2 type"}, // it leads to the Key
		{oneKind + "day d z 0 0 kind b 0 0 key id 0 ref r a 0 0 copy c r d copy e r d", "0.1 name"},
	})
}

// P10.1
func TestRules(t *testing.T) {
	fields := oneKind + "num n 0 9 day d - 0 9 pick p 1 w 1 step s l 0 9 sum t b kind b 0 5 key id 0 ref r a 0 5 share h r t 0 5 copy c r n num m 0 0 life l 1 x "
	checkAll(t, []expected{
		{fields + "rule a a n d 0 rule b a d n 0 rule c a n - 0 rule d a - d 0 rule e b m - 0 rule f b - m 0", ""},
		// names of rules
		{fields + "rule a a n d 0 rule a a n d 0 rule b a n d 0 rule a b m - 0", "rule 1 twice, rule 3 twice"},
		{fields + "rule a a n - 0 rule a z n - 0 rule a a z - 0 rule a a p - 0 rule a a n n 0", "rule 1 twice, rule 2 twice, rule 3 twice, rule 4 twice"},
		{fields + "rule a z n - 0 rule a a n - 0", "rule 0 name, rule 1 twice"},
		// names of kinds and fields
		{fields + "rule a z n - 0 rule b n n - 0 rule c l n - 0 rule d z p p 0", "rule 0 name, rule 1 name, rule 2 name, rule 3 name"},
		{fields + "rule a a m - 0 rule b a - m 0 rule c a m n 0 rule d a n m 0 rule e b n - 0 rule f b - d 0", "rule 0 name, rule 1 name, rule 2 name, rule 3 name, rule 4 name, rule 5 name"},
		{fields + "rule a a z z 0 rule b a z p 0 rule c a p z 0 rule d a a - 0 rule e a - l 0", "rule 0 name, rule 1 name, rule 2 name, rule 3 name, rule 4 name"},
		// kinds of fields
		{fields + "rule a a id - 0 rule b a p - 0 rule c a s - 0 rule d a t - 0 rule e b r - 0 rule f b h - 0 rule g b c - 0", "rule 0 type, rule 1 type, rule 2 type, rule 3 type, rule 4 type, rule 5 type, rule 6 type"},
		{fields + "rule a a - id 0 rule b a - p 0 rule c a - s 0 rule d a - t 0 rule e b - r 0 rule f b - h 0 rule g b - c 0", "rule 0 type, rule 1 type, rule 2 type, rule 3 type, rule 4 type, rule 5 type, rule 6 type"},
		{fields + "rule a a n p 0 rule b a p n 0 rule c a p t 0 rule d a p p 0", "rule 0 type, rule 1 type, rule 2 type, rule 3 type"},
		// equal ones
		{fields + "rule a a n n 0 rule b a d d 0 rule c b m m 9", "rule 0 arg, rule 1 arg, rule 2 arg"},
		// a name that leads to the first kind or field
		{fields[:strings.Index(fields, "life")] + "kind a 0 0 key id 0 num m 0 0 life l 1 x rule r a m - 0 rule s a n - 0", "kind 2 twice, rule 0 name"},
		{oneKind + "num n 0 0 pick n 1 w 1 pick p 1 w 1 num p 0 0 rule r a n - 0 rule s a p - 0", "0.2 twice, 0.4 twice, rule 1 type"},
	})
}

// P10.1: the order of problems, of which each thing has one
func TestOrder(t *testing.T) {
	problems(t, parsed(t, `schema 0
		kind a 0 0 num n 0 0 key k 0 ref r z 0 0 sum s a
		kind a 0 0 num n 0 0 num n 0 0 share h r s 0 0 copy c n n
		kind b 0 0
		kind c 0 0 key k 0 day d k 0 0 step e x 0 0 sum u d
		kind d 0 0 key k 0 ref r c 0 0 share h r d 0 0
		life l 1 x life l 1 x life m 1 x life m 1 x
		rule r z n - 0 rule r a n - 0 rule s a k - 0 rule t c d d 0`),
		"life 1 twice, life 3 twice, "+
			"kind 0 need, 0.1 type, 0.2 name, 0.3 name, "+
			"kind 1 twice, 1.1 twice, 1.2 name, 1.3 name, "+
			"kind 2 need, "+
			"3.1 name, 3.2 name, 3.3 need, "+
			"4.2 type, "+
			"rule 0 name, rule 1 twice, rule 2 type, rule 3 arg")
}
