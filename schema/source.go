package schema

import (
	"strconv"
	"strings"

	"diorama/api"
)

// noName stands in a source for an empty name.
const noName = "-"

// mostDigits is the greatest number of digits of a number in a text.
const mostDigits = 9

// Print returns the source of a schema, Parse reads it.
func Print(x api.Schema) string {
	if Valid(x) != api.OK {
		return ""
	}
	return source(x)
}

// source returns the source of a schema that is valid apart from the length of it.
func source(x api.Schema) string {
	b := &strings.Builder{}
	line := func(tokens ...string) { b.WriteString(strings.Join(tokens, " ") + "\n") }
	line("schema", strconv.Itoa(x.Version))
	for _, k := range x.Kinds {
		line("kind", k.Name, strconv.Itoa(k.Lo), strconv.Itoa(k.Hi))
		for _, f := range k.Fields {
			line(fieldTokens(f)...)
		}
	}
	for _, l := range x.Lives {
		line("life", l.Name, strconv.Itoa(len(l.States)), strings.Join(l.States, " "))
		for _, m := range l.Moves {
			line("move", strconv.Itoa(m[0]), strconv.Itoa(m[1]))
		}
	}
	for _, r := range x.Rules {
		line("rule", r.Name, r.Kind, written(r.A), written(r.B), strconv.Itoa(r.N))
	}
	return b.String()
}

// fieldTokens returns the tokens of a field.
func fieldTokens(f api.Field) []string {
	s := shapes[f.Kind]
	tokens := []string{s.word, f.Name}
	if s.up != nothing {
		tokens = append(tokens, written(f.Up))
	}
	if s.of != nothing {
		tokens = append(tokens, written(f.Of))
	}
	for _, n := range []int{f.Lo, f.Hi}[:s.numbers] {
		tokens = append(tokens, strconv.Itoa(n))
	}
	if s.words {
		tokens = append(tokens, strconv.Itoa(len(f.Words)))
	}
	for i, word := range f.Words {
		tokens = append(tokens, word, strconv.Itoa(f.Weights[i]))
	}
	return tokens
}

// written returns the token of a name that may be empty.
func written(name string) string {
	if name == "" {
		return noName
	}
	return name
}

// Parse returns the schema that a text says.
func Parse(s string) (api.Schema, int, api.Errno) {
	if len(s) > api.MaxText {
		return api.Schema{}, api.MaxText, api.ErrLimit
	}
	r := &reader{text: s}
	r.next()
	x := r.schema()
	switch {
	case r.wrong || r.at < len(s):
		return api.Schema{}, r.at, api.ErrForm
	case Valid(x) != api.OK:
		return api.Schema{}, 0, api.ErrLimit
	}
	return x, 0, api.OK
}

// reader reads a text token by token.
// Once something is wrong there is no token any more, so that nothing further is read and at stays where it went wrong.
type reader struct {
	text  string
	at    int    // where the token begins; without a token where the text ends or no token begins
	token string // the next one, empty if there is none
	wrong bool
}

// next goes on behind the token.
func (r *reader) next() {
	r.at += len(r.token)
	for r.at < len(r.text) && (r.text[r.at] == ' ' || r.text[r.at] == '\n') {
		r.at++
	}
	end := r.at
	for end < len(r.text) && r.text[end] >= '!' && r.text[end] <= '~' {
		end++
	}
	r.token = r.text[r.at:end]
}

// starts returns whether the next token is this word, and reads it if so.
func (r *reader) starts(word string) bool {
	if r.token != word {
		return false
	}
	r.next()
	return true
}

// take reads the next token, which must fit.
func (r *reader) take(fits func(token string) bool) string {
	token := r.token
	if token == "" || !fits(token) {
		r.token, r.wrong = "", true
		return ""
	}
	r.next()
	return token
}

func (r *reader) name() string { return r.take(isName) }

// nameFor reads an Of or an Up, if its field has it.
func (r *reader) nameFor(use int) string {
	switch use {
	case nameOnly:
		return r.name()
	case nameOrNothing:
		return r.nameOrNothing()
	}
	return ""
}

func (r *reader) nameOrNothing() string {
	if r.starts(noName) {
		return ""
	}
	return r.name()
}

func (r *reader) number() int { return valueOf(r.take(isNumber)) }

// count reads how many words or states follow.
func (r *reader) count() int {
	isCount := func(token string) bool {
		return isNumber(token) && within(valueOf(token), 1, api.MaxWords)
	}
	return valueOf(r.take(isCount))
}

// isNumber returns whether a token is a number.
func isNumber(token string) bool {
	digits := strings.TrimPrefix(token, "-")
	for i := range len(digits) {
		if !isDigit(digits[i]) {
			return false
		}
	}
	return len(digits) >= 1 && len(digits) <= mostDigits
}

// valueOf returns the value of a number, 0 for no token.
func valueOf(token string) int {
	n, _ := strconv.Atoi(token)
	return n
}

func (r *reader) schema() api.Schema {
	r.take(func(token string) bool { return token == "schema" })
	return api.Schema{
		Version: r.number(),
		Kinds:   list(r.kind),
		Lives:   list(r.life),
		Rules:   list(r.rule),
	}
}

// list reads elements as long as there is one.
func list[T any](read func() (T, bool)) []T {
	var l []T
	for {
		x, ok := read()
		if !ok {
			return l
		}
		l = append(l, x)
	}
}

func (r *reader) kind() (api.Kind, bool) {
	if !r.starts("kind") {
		return api.Kind{}, false
	}
	return api.Kind{Name: r.name(), Lo: r.number(), Hi: r.number(), Fields: list(r.field)}, true
}

func (r *reader) field() (api.Field, bool) {
	for kind, s := range shapes {
		if r.starts(s.word) {
			return r.fieldOf(kind, s), true
		}
	}
	return api.Field{}, false
}

// fieldOf reads a field of a kind, behind its first word.
func (r *reader) fieldOf(kind int, s shape) api.Field {
	f := api.Field{Kind: kind, Name: r.name(), Up: r.nameFor(s.up), Of: r.nameFor(s.of)}
	if s.numbers > 0 {
		f.Lo = r.number()
	}
	if s.numbers > 1 {
		f.Hi = r.number()
	}
	if s.words {
		for range r.count() {
			f.Words = append(f.Words, r.name())
			f.Weights = append(f.Weights, r.number())
		}
	}
	return f
}

func (r *reader) life() (api.Life, bool) {
	if !r.starts("life") {
		return api.Life{}, false
	}
	l := api.Life{Name: r.name()}
	for range r.count() {
		l.States = append(l.States, r.name())
	}
	l.Moves = list(r.move)
	return l, true
}

func (r *reader) move() ([2]int, bool) {
	if !r.starts("move") {
		return [2]int{}, false
	}
	return [2]int{r.number(), r.number()}, true
}

func (r *reader) rule() (api.Rule, bool) {
	if !r.starts("rule") {
		return api.Rule{}, false
	}
	return api.Rule{Name: r.name(), Kind: r.name(), A: r.nameOrNothing(), B: r.nameOrNothing(), N: r.number()}, true
}
