package sign_test

import (
	"go/ast"
	"go/parser"
	"go/token"
	"go/types"
	"path/filepath"
	"slices"
	"strings"
	"testing"
)

// source is a file of Go whose statements are searched for orders of evaluation that Go leaves open.
type source struct {
	fset    *token.FileSet
	file    *ast.File
	info    types.Info
	changed map[types.Object]bool // the variables that a closure changes outside itself
}

// readSource reads a file; if text is nil, from the folder.
func readSource(t *testing.T, name string, text any) source {
	t.Helper()
	s := source{
		fset:    token.NewFileSet(),
		info:    types.Info{Defs: map[*ast.Ident]types.Object{}, Uses: map[*ast.Ident]types.Object{}},
		changed: map[types.Object]bool{},
	}
	var err error
	if s.file, err = parser.ParseFile(s.fset, name, text, parser.SkipObjectResolution); err != nil {
		t.Fatal(err)
	}
	// Only local variables matter; so nothing is imported, and what is missing without that is no error.
	config := types.Config{Error: func(error) {}}
	config.Check("source", s.fset, []*ast.File{s.file}, &s.info)
	each(s.file, func(closure *ast.FuncLit) {
		each(closure, func(x *ast.IncDecStmt) { s.change(closure, x.X) })
		each(closure, func(x *ast.AssignStmt) {
			for _, left := range x.Lhs {
				s.change(closure, left)
			}
		})
	})
	return s
}

// each calls f for all nodes of a type in a node.
func each[T ast.Node](n ast.Node, f func(T)) {
	ast.Inspect(n, func(n ast.Node) bool {
		if x, ok := n.(T); ok {
			f(x)
		}
		return true
	})
}

// change takes note that a closure assigns to an expression.
func (s source) change(closure *ast.FuncLit, e ast.Expr) {
	switch x := e.(type) {
	case *ast.Ident:
		if v := s.info.ObjectOf(x); v != nil && (v.Pos() < closure.Pos() || v.Pos() > closure.End()) {
			s.changed[v] = true
		}
	case *ast.IndexExpr:
		s.change(closure, x.X)
	case *ast.SelectorExpr:
		s.change(closure, x.X)
	case *ast.StarExpr:
		s.change(closure, x.X)
	}
}

// isClosure reports whether an expression is a closure or a variable for one.
func (s source) isClosure(e ast.Expr) bool {
	name, ok := e.(*ast.Ident)
	if !ok {
		_, ok = e.(*ast.FuncLit)
		return ok
	}
	v, ok := s.info.ObjectOf(name).(*types.Var)
	if !ok {
		return false
	}
	_, ok = v.Type().Underlying().(*types.Signature)
	return ok
}

// callsClosure reports whether a call calls a closure, or another function with one.
func (s source) callsClosure(call *ast.CallExpr) bool {
	return s.isClosure(call.Fun) || slices.ContainsFunc(call.Args, s.isClosure)
}

// openOrders returns each variable that a statement reads beside a call of a closure, although closures change it.
func (s source) openOrders() []string {
	var found []string
	look := func(n ast.Node, assigned ...ast.Expr) {
		calls := false
		var read []string
		ast.Inspect(n, func(n ast.Node) bool {
			switch x := n.(type) {
			case *ast.FuncLit:
				return false
			case *ast.CallExpr:
				calls = calls || s.callsClosure(x)
			case *ast.Ident:
				if s.changed[s.info.ObjectOf(x)] && !slices.Contains(assigned, ast.Expr(x)) {
					read = append(read, s.fset.Position(x.Pos()).String()+" "+x.Name)
				}
			}
			return true
		})
		if calls {
			found = append(found, read...)
		}
	}
	each(s.file, func(x *ast.ReturnStmt) { look(x) })
	each(s.file, func(x *ast.ExprStmt) { look(x) })
	each(s.file, func(x *ast.IfStmt) { look(x.Cond) })
	each(s.file, func(x *ast.RangeStmt) { look(x.X) })
	each(s.file, func(x *ast.AssignStmt) {
		if x.Tok == token.ASSIGN || x.Tok == token.DEFINE {
			look(x, x.Lhs...)
		} else {
			look(x)
		}
	})
	return found
}

// P3.1, P3.3, P3.4: a compiler picks one of the orders that Go leaves open; so no other test sees that there are several
func TestNothingDependsOnAnOpenOrder(t *testing.T) {
	names, err := filepath.Glob("*.go")
	if err != nil {
		t.Fatal(err)
	}
	for _, name := range names {
		if strings.HasSuffix(name, "_test.go") {
			continue
		}
		for _, found := range readSource(t, name, nil).openOrders() {
			t.Errorf("%s is read in a statement that calls a function which may change it", found)
		}
	}
}

// the test above finds what it has to, and nothing else
func TestOpenOrdersAreFound(t *testing.T) {
	const head = "package p; func g(func() int) int; func f() (int, []int) { n, l := 0, []int{0}; " +
		"add := func() int { n++; l[0] = n; return n }; "
	for body, want := range map[string]int{
		"return add(), l":                                 1,
		"return n + g(add), nil":                          1,
		"return func() int { n++; return n }(), []int{n}": 1,
		"n += add(); return 0, nil":                       1,
		"l[n] = add(); return 0, nil":                     2,
		"if add() > n { add() }; return 0, nil":           1,
		"for range l[add()] { add() }; return 0, nil":     1,
		"n = add(); return n, l":                          0,
		"m := add() + g(add); return m, l":                0,
		"l = append(l, n); return add(), nil":             0,
	} {
		if found := readSource(t, "p.go", head+body+" }").openOrders(); len(found) != want {
			t.Errorf("%s: found %q, want %d places", body, found, want)
		}
	}
}
