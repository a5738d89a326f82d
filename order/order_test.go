// Package order holds that no answer of the program hangs on an order that Go leaves open: the calls of a statement come from left to right, but whether a variable that it reads as well is read ahead of a call that writes it, or behind, is open.
package order

import (
	"go/ast"
	"go/parser"
	"go/token"
	"path/filepath"
	"strings"
	"testing"
)

type names map[string]bool

// use is what a part of a statement reads, and what its calls write. A name stands for the variable and its parts; with a dot behind it for what it leads to alone.
type use struct {
	reads  names
	writes names
}

// finder goes through one function after the other.
type finder struct {
	changing names // methods that write what they are called of
	shared   names // variables that a function within the function writes
	leading  names // variables that lead elsewhere: pointers, slices, maps
	open     bool
}

// clash: two parts of which neither has to be first.
func (u use) clash(v use) bool {
	for w := range u.writes {
		if v.reads[w] || !strings.HasSuffix(w, ".") && v.reads[w+"."] {
			return true
		}
	}
	return false
}

func (u use) add(v use) {
	for n := range v.reads {
		u.reads[n] = true
	}
	for n := range v.writes {
		u.writes[n] = true
	}
}

func none() use { return use{names{}, names{}} }

// all takes parts together whose order is open.
func (f *finder) all(parts []use) use {
	u := none()
	for _, v := range parts {
		f.open = f.open || u.clash(v) || v.clash(u)
		u.add(v)
	}
	return u
}

// of goes down to the names: values are read, and what is called writes behind its arguments.
func (f *finder) of(n ast.Node) use {
	switch n := n.(type) {
	case *ast.Ident:
		return use{names{n.Name: true}, names{}}
	case *ast.FuncLit:
		return none()
	case *ast.BinaryExpr:
		if n.Op == token.LAND || n.Op == token.LOR {
			u := f.of(n.X)
			u.add(f.of(n.Y))
			return u
		}
	case *ast.UnaryExpr:
		if n.Op == token.AND {
			return f.place(n.X)
		}
	case *ast.KeyValueExpr:
		return f.of(n.Value)
	case *ast.SelectorExpr, *ast.IndexExpr, *ast.StarExpr, *ast.SliceExpr:
		u := f.place(n.(ast.Expr))
		u.reads[root(n)+"."] = true
		return u
	case *ast.CallExpr:
		return f.call(n)
	case *ast.AssignStmt:
		return f.assign(n)
	}
	var parts []use
	for _, part := range within(n) {
		parts = append(parts, f.of(part))
	}
	return f.all(parts)
}

// place is an expression that is not read itself: its address is taken, or it is written, or a part of it is read.
func (f *finder) place(x ast.Expr) use {
	switch x := x.(type) {
	case *ast.Ident:
		return none()
	case *ast.SelectorExpr:
		return f.place(x.X)
	case *ast.ParenExpr:
		return f.place(x.X)
	case *ast.StarExpr:
		return f.of(x.X)
	case *ast.IndexExpr:
		return f.all([]use{f.place(x.X), f.of(x.Index)})
	case *ast.SliceExpr:
		parts := []use{f.place(x.X)}
		for _, i := range []ast.Expr{x.Low, x.High, x.Max} {
			if i != nil {
				parts = append(parts, f.of(i))
			}
		}
		return f.all(parts)
	}
	return f.of(x)
}

func (f *finder) assign(s *ast.AssignStmt) use {
	var parts []use
	for _, l := range s.Lhs {
		if s.Tok == token.ASSIGN || s.Tok == token.DEFINE {
			parts = append(parts, f.place(l))
		} else {
			parts = append(parts, f.of(l))
		}
	}
	for _, r := range s.Rhs {
		parts = append(parts, f.of(r))
	}
	return f.all(parts)
}

func (f *finder) call(c *ast.CallExpr) use {
	var parts []use
	m, isMethod := c.Fun.(*ast.SelectorExpr)
	if isMethod {
		parts = append(parts, f.of(m.X))
	}
	for _, a := range c.Args {
		parts = append(parts, f.of(a))
	}
	u := f.all(parts)
	if builtin(c) {
		return u
	}
	for n := range f.shared {
		u.writes[n] = true
	}
	if isMethod && f.changing[m.Sel.Name] {
		u.writes[f.written(root(m.X))] = true
	}
	for _, a := range c.Args {
		switch a := a.(type) {
		case *ast.Ident:
			if f.leading[a.Name] {
				u.writes[a.Name+"."] = true
			}
		case *ast.UnaryExpr:
			if a.Op == token.AND {
				u.writes[root(a.X)] = true
			}
		}
	}
	delete(u.writes, "")
	return u
}

// written is what a method writes of v: itself, if it leads nowhere else.
func (f *finder) written(v string) string {
	if v != "" && f.leading[v] {
		return v + "."
	}
	return v
}

func builtin(c *ast.CallExpr) bool {
	v, ok := c.Fun.(*ast.Ident)
	return ok && strings.Contains(" append cap len make max min new ", " "+v.Name+" ")
}

// root is the variable that x is a part of.
func root(x ast.Node) string {
	switch x := x.(type) {
	case *ast.Ident:
		return x.Name
	case *ast.SelectorExpr:
		return root(x.X)
	case *ast.IndexExpr:
		return root(x.X)
	case *ast.SliceExpr:
		return root(x.X)
	case *ast.ParenExpr:
		return root(x.X)
	case *ast.StarExpr:
		return root(x.X)
	}
	return ""
}

// within are the expressions of which n is made.
func within(n ast.Node) []ast.Expr {
	var l []ast.Expr
	ast.Inspect(n, func(x ast.Node) bool {
		if e, ok := x.(ast.Expr); ok && x != n {
			l = append(l, e)
			return false
		}
		return true
	})
	return l
}

// targets are what n's own statements write without a call.
func targets(n ast.Node) []ast.Expr {
	var l []ast.Expr
	ast.Inspect(n, func(n ast.Node) bool {
		switch n := n.(type) {
		case *ast.AssignStmt:
			if n.Tok != token.DEFINE {
				l = append(l, n.Lhs...)
			}
		case *ast.IncDecStmt:
			l = append(l, n.X)
		}
		return true
	})
	return l
}

// changing are methods by their names: those that write a part of what they are called of, by themselves or by such a one.
func changing(files []*ast.File) names {
	known := names{}
	types := leadingTypes(files)
	for before := -1; before < len(known); {
		before = len(known)
		for _, file := range files {
			for _, d := range file.Decls {
				if m, ok := d.(*ast.FuncDecl); ok && m.Recv != nil && len(m.Recv.List[0].Names) == 1 && changes(m, known, types) {
					known[m.Name.Name] = true
				}
			}
		}
	}
	return known
}

func changes(m *ast.FuncDecl, known, types names) bool {
	self := m.Recv.List[0].Names[0].Name
	for _, x := range targets(m.Body) {
		if _, whole := x.(*ast.Ident); !whole && root(x) == self {
			return true
		}
	}
	f := finder{changing: known, leading: leading(m, types)}
	found := false
	ast.Inspect(m.Body, func(n ast.Node) bool {
		if c, ok := n.(*ast.CallExpr); ok {
			found = found || f.call(c).writes[f.written(self)]
		}
		return true
	})
	return found
}

// leadingTypes are the names of the package's types that lead elsewhere.
func leadingTypes(files []*ast.File) names {
	all := names{}
	for before := -1; before < len(all); {
		before = len(all)
		for _, file := range files {
			ast.Inspect(file, func(n ast.Node) bool {
				if s, ok := n.(*ast.TypeSpec); ok && leads(s.Type, all) {
					all[s.Name.Name] = true
				}
				return true
			})
		}
	}
	return all
}

func leads(x ast.Expr, types names) bool {
	switch x := x.(type) {
	case *ast.StarExpr, *ast.MapType:
		return true
	case *ast.ArrayType:
		return x.Len == nil
	case *ast.Ident:
		return types[x.Name]
	case *ast.IndexExpr:
		return leads(x.X, types)
	}
	return false
}

// leading are the variables of d that are declared as such, or made so.
func leading(d *ast.FuncDecl, types names) names {
	all := names{}
	ast.Inspect(d, func(n ast.Node) bool {
		switch n := n.(type) {
		case *ast.Field:
			for _, v := range n.Names {
				all[v.Name] = all[v.Name] || leads(n.Type, types)
			}
		case *ast.ValueSpec:
			for _, v := range n.Names {
				all[v.Name] = all[v.Name] || leads(n.Type, types)
			}
		case *ast.AssignStmt:
			for i, l := range n.Lhs {
				if v, ok := l.(*ast.Ident); ok && len(n.Lhs) == len(n.Rhs) {
					all[v.Name] = all[v.Name] || made(n.Rhs[i], types)
				}
			}
		}
		return true
	})
	return all
}

func made(x ast.Expr, types names) bool {
	switch x := x.(type) {
	case *ast.UnaryExpr:
		return x.Op == token.AND
	case *ast.CompositeLit:
		return leads(x.Type, types)
	case *ast.CallExpr:
		v, ok := x.Fun.(*ast.Ident)
		return ok && (v.Name == "new" || v.Name == "append" || v.Name == "make" && leads(x.Args[0], types))
	}
	return false
}

// shared are the variables of d that a function within it writes, and that are not its own.
func shared(d *ast.FuncDecl) names {
	all := names{}
	ast.Inspect(d, func(n ast.Node) bool {
		inner, ok := n.(*ast.FuncLit)
		if !ok {
			return true
		}
		for _, x := range targets(inner.Body) {
			if v, ok := x.(*ast.Ident); ok && v.Name != "_" && !declared(inner, v.Name) {
				all[v.Name] = true
			}
		}
		return true
	})
	return all
}

func declared(inner *ast.FuncLit, name string) bool {
	found := false
	ast.Inspect(inner, func(n ast.Node) bool {
		switch n := n.(type) {
		case *ast.Field:
			for _, v := range n.Names {
				found = found || v.Name == name
			}
		case *ast.ValueSpec:
			for _, v := range n.Names {
				found = found || v.Name == name
			}
		case *ast.AssignStmt:
			for _, l := range n.Lhs {
				found = found || n.Tok == token.DEFINE && root(l) == name
			}
		}
		return true
	})
	return found
}

// units are what d does one behind the other.
func units(d *ast.FuncDecl) []ast.Node {
	var l []ast.Node
	ast.Inspect(d, func(n ast.Node) bool {
		switch n := n.(type) {
		case *ast.ReturnStmt, *ast.AssignStmt, *ast.ExprStmt, *ast.IncDecStmt, *ast.ValueSpec, *ast.SendStmt:
			l = append(l, n)
		case *ast.DeferStmt:
			l = append(l, n.Call)
		case *ast.GoStmt:
			l = append(l, n.Call)
		case *ast.IfStmt:
			l = append(l, n.Cond)
		case *ast.ForStmt:
			if n.Cond != nil {
				l = append(l, n.Cond)
			}
		case *ast.RangeStmt:
			l = append(l, n.X)
		case *ast.SwitchStmt:
			if n.Tag != nil {
				l = append(l, n.Tag)
			}
		case *ast.CaseClause:
			for _, x := range n.List {
				l = append(l, x)
			}
		}
		return true
	})
	return l
}

// open are the places in a package's files that hang on an open order.
func open(files []*ast.File) []token.Pos {
	var found []token.Pos
	methods, types := changing(files), leadingTypes(files)
	for _, file := range files {
		for _, d := range file.Decls {
			d, ok := d.(*ast.FuncDecl)
			if !ok || d.Body == nil {
				continue
			}
			f := finder{changing: methods, shared: shared(d), leading: leading(d, types)}
			for _, n := range units(d) {
				f.open = false
				f.of(n)
				if f.open {
					found = append(found, n.Pos())
				}
			}
		}
	}
	return found
}

// sources are a package's own files.
func sources(t *testing.T, places *token.FileSet, name string) []*ast.File {
	t.Helper()
	paths, err := filepath.Glob("../" + name + "/*.go")
	if err != nil {
		t.Fatal(err)
	}
	var files []*ast.File
	for _, path := range paths {
		if strings.HasSuffix(path, "_test.go") {
			continue
		}
		file, err := parser.ParseFile(places, path, nil, 0)
		if err != nil {
			t.Fatal(err)
		}
		files = append(files, file)
	}
	if len(files) == 0 {
		t.Errorf("package %s has no files", name)
	}
	return files
}

// No layer has such a place.
func TestLayers(t *testing.T) {
	layers := "term bind unify lex read show span weave facts check known guard meet rule model split store index bound wire engine session script"
	for _, name := range strings.Fields(layers) {
		places := token.NewFileSet()
		for _, at := range open(sources(t, places, name)) {
			t.Errorf("%v: the order is open", places.Position(at))
		}
	}
}

const head = `package p
type pat struct { R []pat; n int }
type row []int
type box struct { n int; p *pat }
func (b *box) up() int { b.n++; return b.n }
func (b *box) upAgain() int { return b.up() }
func (b *box) set() int { put(b, 1); return 0 }
func (b *box) see() int { return b.n }
func put(x any, n int) int { return n }
func of(b *box, p pat, l []int, i int) (any, any) {
`

// What the test above finds, and what it lets be.
func TestFinds(t *testing.T) {
	for _, c := range []struct {
		body string
		open bool
	}{
		{"return p, put(&p.R, 1)", true},
		{"return p.R, put(&p.R, 1)", true},
		{"return p.n, put(&p, 1)", true},
		{"return put(&p.R, 1), p", true},
		{"return put(p, put(&p, 1)), 0", true},
		{"return i + put(&i, 1), 0", true},
		{"return 1, i == 1 || put(&i, 1) == 1 && put(i, 1) == i", false},
		{"return i, i == 1 || put(&i, 1) == 1", true},
		{"i += put(&i, 1); return 0, 0", true},
		{"l[i] = put(&i, 1); return 0, 0", true},
		{"x := []int{i, put(&i, 1)}; return x, 0", true},
		{"var x = []int{i, put(&i, 1)}; return x, 0", true},
		{"x := pat{n: i + put(&i, 1)}; return x, 0", true},
		{"if i == put(&i, 1) { return 0, 0 }; return 0, 0", true},
		{"for i < put(&i, 1) { }; return 0, 0", true},
		{"switch i + put(&i, 1) { case 1: return 0, 0 }; return 0, 0", true},
		{"switch { case i < put(&i, 1): return 0, 0 }; return 0, 0", true},
		{"return b.n, b.up()", true},
		{"return b.n, b.upAgain()", true},
		{"return b.n, b.set()", true},
		{"return b.n, put(b, 1)", true},
		{"return *b, put(b, 1)", true},
		{"return b.p.R, b.up()", true},
		{"return l[0], put(l, 1)", true},
		{"m := row{1}; return m[0], put(m, 1)", true},
		{"c := box{}; return c, c.up()", true},
		{"c := box{}; return c.n, c.up()", true},
		{"c := &box{}; return c.n, put(c, 1)", true},
		{"f := func() int { i++; return i }; return i, f()", true},
		{"return 0, func() int { return i + put(&i, 1) }", true},
		{"n := put(&p.R, 1); return p, n", false},
		{"p.n = put(&p.R, 1); return p, 0", false},
		{"i = put(&i, i); return 0, 0", false},
		{"return b.n, b.see()", false},
		{"return b, b.up()", false},
		{"c := &box{}; return c, c.up()", false},
		{"return p.n, put(p, 1)", false},
		{"return b.up(), b.up()", false},
		{"return l, put(l, len(l))", false},
		{"return p, put(&pat{}, 1)", false},
		{"f := func() int { i := 0; i++; return i }; return i, f()", false},
		{"return b.n == 1 && b.up() == 1, 0", false},
	} {
		places := token.NewFileSet()
		file, err := parser.ParseFile(places, "p.go", head+c.body+"\n}\n", 0)
		if err != nil {
			t.Fatal(c.body, err)
		}
		if found := open([]*ast.File{file}); (len(found) > 0) != c.open {
			t.Errorf("%s: %v", c.body, found)
		}
	}
}
