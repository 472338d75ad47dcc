package typing

import (
	"slices"

	"diorama/api"
)

// none is the index of nothing.
const none = -1

// Kind returns the index of the kind to which a name leads; -1, if there is none.
func Kind(x api.Schema, name string) int {
	return slices.IndexFunc(x.Kinds, func(k api.Kind) bool { return k.Name == name })
}

// Field returns the index of the field of a kind to which a name leads; -1, if there is none.
func Field(k api.Kind, name string) int {
	return slices.IndexFunc(k.Fields, func(f api.Field) bool { return f.Name == name })
}

// life returns the index of the life cycle to which a name leads.
func life(x api.Schema, name string) int {
	return slices.IndexFunc(x.Lives, func(l api.Life) bool { return l.Name == name })
}

// rule returns the index of the first rule with a name.
func rule(x api.Schema, name string) int {
	return slices.IndexFunc(x.Rules, func(r api.Rule) bool { return r.Name == name })
}

// Up returns the index of the kind to which a field leads up; -1, if to none, or there is no such field.
func Up(x api.Schema, kind, field int) int {
	f, ok := fieldAt(x, kind, field)
	if !ok {
		return none
	}
	switch f.Kind {
	case api.Ref:
		if of := Kind(x, f.Of); of < kind {
			return of
		}
	case api.Share, api.Copy:
		return Up(x, kind, earlier(x.Kinds[kind], field, f.Up, api.Ref))
	}
	return none
}

// Shares returns the kind and the index of the share of a Sum, if it has just one; otherwise -1 and -1.
func Shares(x api.Schema, kind, field int) (int, int) {
	sum, ok := fieldAt(x, kind, field)
	if !ok || sum.Kind != api.Sum {
		return none, none
	}
	of := Kind(x, sum.Of)
	if of <= kind {
		return none, none
	}
	var shares []int
	for i, f := range x.Kinds[of].Fields {
		if f.Kind == api.Share && f.Of == sum.Name && Up(x, of, i) == kind {
			shares = append(shares, i)
		}
	}
	if len(shares) != 1 {
		return none, none
	}
	return of, shares[0]
}

// earlier returns the index of the field to which a name leads, if this is ahead of another field and of a sort (api.Ref, api.Day ..); otherwise none.
func earlier(k api.Kind, field int, name string, sort int) int {
	i := Field(k, name)
	if i == none || i >= field || k.Fields[i].Kind != sort {
		return none
	}
	return i
}

// fieldAt returns a field, and whether there is one with these indices.
func fieldAt(x api.Schema, kind, field int) (api.Field, bool) {
	if !isIndex(kind, len(x.Kinds)) || !isIndex(field, len(x.Kinds[kind].Fields)) {
		return api.Field{}, false
	}
	return x.Kinds[kind].Fields[field], true
}

// fieldNamed returns the field of a kind to which a name leads, and whether there is one; in no kind there is none.
func fieldNamed(x api.Schema, kind int, name string) (api.Field, bool) {
	if kind == none {
		return api.Field{}, false
	}
	return fieldAt(x, kind, Field(x.Kinds[kind], name))
}

// isIndex returns whether i is an index of n elements.
func isIndex(i, n int) bool { return i >= 0 && i < n }
