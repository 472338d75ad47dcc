package typing_test

import (
	"diorama/api"
	"diorama/schema"
	"diorama/typing"
)

// A second computation of all results, with maps of names, and with all errors of a thing instead of the first one.

// leading returns to which index each name leads.
func leading[T any](l []T, name func(x T) string) map[string]int {
	m := map[string]int{}
	for i, x := range l {
		if _, ok := m[name(x)]; !ok {
			m[name(x)] = i
		}
	}
	return m
}

func kindNames(x api.Schema) map[string]int {
	return leading(x.Kinds, func(k api.Kind) string { return k.Name })
}

func fieldNames(k api.Kind) map[string]int {
	return leading(k.Fields, func(f api.Field) string { return f.Name })
}

func lifeNames(x api.Schema) map[string]int {
	return leading(x.Lives, func(l api.Life) string { return l.Name })
}

func ruleNames(x api.Schema) map[string]int {
	return leading(x.Rules, func(u api.Rule) string { return u.Name })
}

// found returns to which index a name leads, -1 for none.
func found(m map[string]int, name string) int {
	if i, ok := m[name]; ok {
		return i
	}
	return -1
}

// exists returns whether there is a field with these indices.
func exists(x api.Schema, kind, field int) bool {
	return 0 <= kind && kind < len(x.Kinds) && 0 <= field && field < len(x.Kinds[kind].Fields)
}

// secondUp returns what Up has to return.
func secondUp(x api.Schema, kind, field int) int {
	if !exists(x, kind, field) {
		return -1
	}
	k := x.Kinds[kind]
	f := k.Fields[field]
	if f.Kind == api.Share || f.Kind == api.Copy {
		ref, ok := fieldNames(k)[f.Up]
		if !ok || ref >= field {
			return -1
		}
		f = k.Fields[ref]
	}
	of, ok := kindNames(x)[f.Of]
	if f.Kind != api.Ref || !ok || of >= kind {
		return -1
	}
	return of
}

// secondShares returns what Shares has to return.
func secondShares(x api.Schema, kind, field int) (int, int) {
	if !exists(x, kind, field) || x.Kinds[kind].Fields[field].Kind != api.Sum {
		return -1, -1
	}
	sum, many, atKind, atField := x.Kinds[kind].Fields[field], 0, -1, -1
	for i, k := range x.Kinds {
		for j, f := range k.Fields {
			if i > kind && i == found(kindNames(x), sum.Of) && f.Kind == api.Share && secondUp(x, i, j) == kind && f.Of == sum.Name {
				many, atKind, atField = many+1, i, j
			}
		}
	}
	if many != 1 {
		return -1, -1
	}
	return atKind, atField
}

// errors are those of one thing, in order.
type errors []api.Errno

func (l *errors) add(wrong bool, e api.Errno) {
	if wrong {
		*l = append(*l, e)
	}
}

// secondField returns the errors of a field.
func secondField(x api.Schema, kind, field int) errors {
	k := x.Kinds[kind]
	f := k.Fields[field]
	var l errors
	l.add(fieldNames(k)[f.Name] != field, api.ErrTwice)
	up := secondUp(x, kind, field)
	var there api.Field // that to which Of of a Share or a Copy leads
	there.Kind = -1
	if up >= 0 {
		if i := found(fieldNames(x.Kinds[up]), f.Of); i >= 0 {
			there = x.Kinds[up].Fields[i]
		}
	}
	switch f.Kind {
	case api.Key:
		l.add(field != 0, api.ErrType)
	case api.Ref:
		l.add(up < 0, api.ErrName)
	case api.Day:
		i := found(fieldNames(k), f.Of)
		l.add(f.Of != "" && (i < 0 || i >= field || k.Fields[i].Kind != api.Day), api.ErrName)
	case api.Step:
		l.add(found(lifeNames(x), f.Of) < 0, api.ErrName)
	case api.Sum:
		l.add(found(kindNames(x), f.Of) <= kind, api.ErrName)
		i, _ := secondShares(x, kind, field)
		l.add(i < 0, api.ErrNeed)
	case api.Share:
		l.add(up < 0, api.ErrName)
		l.add(there.Kind != api.Sum || found(kindNames(x), there.Of) != kind, api.ErrType)
	case api.Copy:
		l.add(up < 0, api.ErrName)
		l.add(there.Kind == -1 || there.Kind == api.Key || there.Kind == api.Ref || there.Kind == api.Sum || there.Kind == api.Share, api.ErrType)
	}
	return l
}

// secondRule returns the errors of a rule.
func secondRule(x api.Schema, i int) errors {
	u := x.Rules[i]
	var l errors
	l.add(ruleNames(x)[u.Name] != i, api.ErrTwice)
	kind := found(kindNames(x), u.Kind)
	l.add(kind < 0, api.ErrName)
	if kind >= 0 {
		sorts := []int{}
		for _, name := range []string{u.A, u.B} {
			if name == "" {
				continue
			}
			j := found(fieldNames(x.Kinds[kind]), name)
			l.add(j < 0, api.ErrName)
			if j >= 0 {
				sorts = append(sorts, x.Kinds[kind].Fields[j].Kind)
			}
		}
		for _, sort := range sorts {
			l.add(sort != api.Num && sort != api.Day, api.ErrType)
		}
	}
	l.add(u.A == u.B, api.ErrArg)
	return l
}

// secondCheck returns what Check has to return.
func secondCheck(x api.Schema) []typing.Problem {
	if e := schema.Valid(x); e != api.OK {
		return []typing.Problem{atAll(e)}
	}
	var all []typing.Problem
	add := func(l errors, problem func(e api.Errno) typing.Problem) {
		if len(l) > 0 {
			all = append(all, problem(l[0]))
		}
	}
	for i, life := range x.Lives {
		var l errors
		l.add(lifeNames(x)[life.Name] != i, api.ErrTwice)
		add(l, func(e api.Errno) typing.Problem { return atLife(i, e) })
	}
	for i, k := range x.Kinds {
		var l errors
		l.add(kindNames(x)[k.Name] != i, api.ErrTwice)
		l.add(len(k.Fields) == 0, api.ErrNeed)
		l.add(len(k.Fields) > 0 && k.Fields[0].Kind != api.Key, api.ErrNeed)
		add(l, func(e api.Errno) typing.Problem { return atKind(i, e) })
		for j := range k.Fields {
			add(secondField(x, i, j), func(e api.Errno) typing.Problem { return atField(i, j, e) })
		}
	}
	for i := range x.Rules {
		add(secondRule(x, i), func(e api.Errno) typing.Problem { return atRule(i, e) })
	}
	return all
}
