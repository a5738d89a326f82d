package bind

import (
	"fmt"
	"math"
	"slices"
	"strings"
	"testing"

	"almagest/api"
)

func aVar(name string) api.Term { return api.Term{Kind: api.TermVar, Name: name} }

func number(n int) api.Term { return api.Term{Kind: api.TermNum, N: n} }

func named(name string, args ...api.Term) api.Term {
	return api.Term{Kind: api.TermName, Name: name, Args: args}
}

func to(name string, t api.Term) api.Bind { return api.Bind{Name: name, Term: t} }

func list(l ...api.Bind) []api.Bind { return l }

func alike(a, b api.Term) bool {
	return a.Kind == b.Kind && a.Name == b.Name && a.N == b.N && slices.EqualFunc(a.Args, b.Args, alike)
}

func sameBind(a, b api.Bind) bool { return a.Name == b.Name && alike(a.Term, b.Term) }

func same(a, b []api.Bind) bool { return slices.EqualFunc(a, b, sameBind) }

// tower is so many names within each other, core the innermost.
func tower(deep int, core api.Term) api.Term {
	for range deep - 1 {
		core = named("t", core)
	}
	return core
}

// bush has just so many terms (6 to 25), and is 4 deep.
func bush(size int) api.Term {
	left := size - 5
	t := named("b")
	for range 4 {
		k := min(left, 4)
		left -= k
		x := named("c")
		for range k {
			x.Args = append(x.Args, number(k))
		}
		t.Args = append(t.Args, x)
	}
	for i := range left {
		t.Args[0].Args[i] = named("d", number(0))
	}
	return t
}

// many binds so many names, from V00 on, each to its number.
func many(n int) []api.Bind {
	var l []api.Bind
	for i := range n {
		l = append(l, to(fmt.Sprintf("V%02d", i), number(i)))
	}
	return l
}

// wrongTerms may not be.
func wrongTerms() map[string]api.Term {
	ring := []api.Term{named("a")}
	ring[0].Args = ring
	return map[string]api.Term{
		"nothing":           {},
		"a kind above":      {Kind: 4, Name: "a"},
		"a variable with N": {Kind: api.TermVar, Name: "A", N: 1},
		"a low variable":    aVar("a"),
		"a high name":       named("A"),
		"MaxName":           named(strings.Repeat("a", api.MaxName+1)),
		"MaxNum":            number(api.MaxNum + 1),
		"the least number":  number(math.MinInt),
		"MaxArgs":           named("a", make([]api.Term, api.MaxArgs+1)...),
		"within":            named("a", number(1), api.Term{}),
		"MaxDepth":          tower(api.MaxDepth+1, number(1)),
		"MaxSize":           bush(api.MaxSize + 1),
		"very deep":         tower(1<<16-2, number(1)),
		"within itself":     ring[0],
	}
}

// wrongNames are no variable's.
func wrongNames() []string {
	return []string{"", "x", "_X", "0X", "X Y", "X-", "X\x00", "Xé", "X\xff", " X", "X" + strings.Repeat("x", api.MaxName), strings.Repeat("X", 1<<20), "X" + strings.Repeat("\x00", api.MaxName-1)}
}

// wrongLists may not be.
func wrongLists() map[string][]api.Bind {
	l := map[string][]api.Bind{
		"MaxBinds":            many(api.MaxBinds + 1),
		"very many":           make([]api.Bind, 1<<16),
		"falling":             list(to("Y", number(1)), to("X", number(2))),
		"falling at the end":  list(to("A", number(1)), to("C", number(2)), to("B", number(3))),
		"falling, bytes":      list(to("Xa", number(1)), to("XA", number(2))),
		"falling, begun":      list(to("XY", number(1)), to("X", number(2))),
		"twice":               list(to("X", number(1)), to("X", number(1))),
		"itself":              list(to("X", aVar("X"))),
		"itself within":       list(to("X", named("f", number(1), named("g", aVar("X"))))),
		"an earlier one":      list(to("X", number(1)), to("Y", aVar("X"))),
		"a later one":         list(to("X", aVar("Y")), to("Y", number(1))),
		"a later one within":  list(to("X", named("f", aVar("Z"), tower(4, aVar("Y")))), to("Y", number(1))),
		"each other":          list(to("X", aVar("Y")), to("Y", aVar("X"))),
		"a low name at last":  list(to("X", number(1)), to("x", number(1))),
		"a term behind a var": list(to("X", aVar("Z")), to("Y", api.Term{})),
	}
	for what, t := range wrongTerms() {
		l["first: "+what] = list(to("X", t), to("Y", number(1)))
		l["last: "+what] = list(to("X", number(1)), to("Y", t))
	}
	for _, s := range wrongNames() {
		l["name: "+s[:min(len(s), 20)]] = list(to(s, number(1)))
	}
	return l
}

func nothing(t *testing.T, what string, x api.Term, e api.Errno, want api.Errno) {
	t.Helper()
	if e != want || !alike(x, api.Term{}) {
		t.Errorf("%s: %v, %v", what, x, e)
	}
}

func none(t *testing.T, what string, l []api.Bind, e api.Errno, want api.Errno) {
	t.Helper()
	if e != want || len(l) != 0 {
		t.Errorf("%s: %v, %v", what, l, e)
	}
}

func tells(t *testing.T, what string, x api.Term, e api.Errno, want api.Term) {
	t.Helper()
	if e != api.OK || !alike(x, want) {
		t.Errorf("%s: %v, %v, not %v", what, x, e, want)
	}
}

func binds(t *testing.T, what string, l []api.Bind, e api.Errno, want []api.Bind) {
	t.Helper()
	if e != api.OK || !same(l, want) {
		t.Errorf("%s: %v, %v, not %v", what, l, e, want)
	}
}

// P2.1, P2.2: binds that may not be are ErrForm of each call, ahead of all other errors.
func TestWrongLists(t *testing.T) {
	for what, l := range wrongLists() {
		if e := Check(l); e != api.ErrForm {
			t.Errorf("%s: %v", what, e)
		}
		for _, s := range []string{"X", "Q", "", "x"} {
			x, e := Get(l, s)
			nothing(t, what+": Get "+s, x, e, api.ErrForm)
			m, e := Set(l, s, number(1))
			none(t, what+": Set "+s, m, e, api.ErrForm)
		}
		x, e := Apply(l, number(1))
		nothing(t, what+": Apply", x, e, api.ErrForm)
		for _, k := range [][]api.Bind{nil, list(to("X", number(77))), many(api.MaxBinds), l} {
			m, e := Join(l, k)
			none(t, what+": Join ahead", m, e, api.ErrForm)
			m, e = Join(k, l)
			none(t, what+": Join behind", m, e, api.ErrForm)
		}
		m, e := Only(l, nil)
		none(t, what+": Only none", m, e, api.ErrForm)
		m, e = Only(l, []string{"X"})
		none(t, what+": Only X", m, e, api.ErrForm)
	}
}

// P2.1: binds that may be, each limit just met.
func TestCheck(t *testing.T) {
	long := "X" + strings.Repeat("x", api.MaxName-1)
	free := named("f", aVar("A"), aVar("Z"), named("g", aVar("Z")))
	for what, l := range map[string][]api.Bind{
		"nil":                      nil,
		"none":                     {},
		"MaxBinds":                 many(api.MaxBinds),
		"MaxName":                  list(to(long[:len(long)-1], number(1)), to(long, number(2))),
		"MaxDepth":                 list(to("X", tower(api.MaxDepth, aVar("Y")))),
		"MaxSize":                  list(to("X", bush(api.MaxSize))),
		"MaxNum":                   list(to("X", number(-api.MaxNum)), to("Y", number(api.MaxNum))),
		"rising by bytes":          list(to("X", number(1)), to("X0", number(1)), to("XA", number(1)), to("X_", number(1)), to("Xa", number(1)), to("Y", number(1))),
		"free variables":           list(to("X", free), to("Y", free)),
		"names that begin another": list(to("XY", aVar("X")), to("XYZ", aVar("XYY"))),
	} {
		if e := Check(l); e != api.OK {
			t.Errorf("%s: %v", what, e)
		}
	}
}

// P2.1: Get tells what a variable stands for; of others, and of what is no variable's name, there is none.
func TestGet(t *testing.T) {
	long := "X" + strings.Repeat("x", api.MaxName-1)
	l := list(to("A", number(-1)), to("B", named("f", aVar("Q"), named("g", number(2)))), to("X", aVar("Q")), to(long, number(3)))
	for _, b := range l {
		x, e := Get(l, b.Name)
		tells(t, b.Name, x, e, b.Term)
	}
	full := many(api.MaxBinds)
	for _, b := range full {
		x, e := Get(full, b.Name)
		tells(t, b.Name, x, e, b.Term)
	}
	for _, s := range append(wrongNames(), "Q", "AA", "Xx", long[:15], long+"x", "Z", "A\x00", "a") {
		x, e := Get(l, s)
		nothing(t, "Get of "+s[:min(20, len(s))], x, e, api.ErrNone)
		x, e = Get(nil, s)
		nothing(t, "Get of none", x, e, api.ErrNone)
	}
}

// P2.1: each bound variable is its Term, wherever it stands; all else stays.
func TestApply(t *testing.T) {
	l := list(to("X", number(1)), to("XY", named("g", aVar("Q"), number(2))), to("Z", aVar("Q")))
	for i, c := range []struct{ x, want api.Term }{
		{aVar("X"), number(1)},
		{aVar("XY"), named("g", aVar("Q"), number(2))},
		{aVar("Z"), aVar("Q")},
		{aVar("Q"), aVar("Q")},
		{aVar("XYZ"), aVar("XYZ")},
		{number(7), number(7)},
		{named("x"), named("x")},
		{named("f", aVar("X")), named("f", number(1))},
		{named("f", aVar("X"), named("x", aVar("XY"), aVar("X")), aVar("XY"), aVar("Y")), named("f", number(1), named("x", named("g", aVar("Q"), number(2)), number(1)), named("g", aVar("Q"), number(2)), aVar("Y"))},
		{named("f", named("g", aVar("Z"), aVar("Q"))), named("f", named("g", aVar("Q"), aVar("Q")))},
	} {
		x, e := Apply(l, c.x)
		if e != api.OK || !alike(x, c.want) {
			t.Errorf("%d: %v, %v", i, x, e)
		}
		x, e = Apply(nil, c.x)
		tells(t, "without binds", x, e, c.x)
	}
	for what, x := range wrongTerms() {
		y, e := Apply(l, x)
		nothing(t, what, y, e, api.ErrForm)
		y, e = Apply(nil, x)
		nothing(t, what+", without binds", y, e, api.ErrForm)
	}
}

// P2.1: the example of the chapter.
func TestExample(t *testing.T) {
	l, e := Set(nil, "X", number(1))
	binds(t, "Set", l, e, list(to("X", number(1))))
	x, e := Apply(l, named("f", aVar("X")))
	tells(t, "Apply", x, e, named("f", number(1)))
}

// P2.1: what Apply makes must be a term that may be, each limit just met and one beyond.
func TestApplyLimits(t *testing.T) {
	deep := list(to("X", tower(3, number(1))))
	x, e := Apply(deep, tower(3, aVar("X")))
	tells(t, "MaxDepth", x, e, tower(api.MaxDepth, number(1)))
	x, e = Apply(deep, tower(4, aVar("X")))
	nothing(t, "beyond MaxDepth", x, e, api.ErrLimit)
	x, e = Apply(deep, named("f", number(1), tower(3, aVar("X"))))
	nothing(t, "beyond MaxDepth in the last one of Args", x, e, api.ErrLimit)

	four := named("g", number(1), number(2), number(3))
	wide := list(to("X", four))
	five := named("f", aVar("X"), named("h", aVar("X"), aVar("X"), aVar("X"), aVar("X")))
	x, e = Apply(wide, five)
	tells(t, "MaxSize less 2", x, e, named("f", four, named("h", four, four, four, four)))
	five.Args = append(five.Args, number(1), number(2))
	x, e = Apply(wide, five)
	tells(t, "MaxSize", x, e, named("f", four, named("h", four, four, four, four), number(1), number(2)))
	five.Args[3] = named("i", number(2))
	x, e = Apply(wide, five)
	nothing(t, "beyond MaxSize", x, e, api.ErrLimit)

	huge := list(to("X", bush(api.MaxSize)))
	x, e = Apply(huge, aVar("X"))
	tells(t, "MaxSize at once", x, e, bush(api.MaxSize))
	x, e = Apply(huge, named("f", aVar("X")))
	nothing(t, "one beyond MaxSize", x, e, api.ErrLimit)
	all := named("f", aVar("X"), aVar("X"), aVar("X"), aVar("X"))
	x, e = Apply(huge, named("f", all, all, all, all))
	nothing(t, "far beyond MaxSize", x, e, api.ErrLimit)
}

// P2.1: s stands for t, at its place, and in the others' Terms, too.
func TestSet(t *testing.T) {
	l := list(to("B", named("f", aVar("X"), aVar("Q"), aVar("X"))), to("D", aVar("X")), to("F", number(5)))
	fx := named("g", aVar("R"), number(2))
	for i, c := range []struct {
		s    string
		t    api.Term
		want []api.Bind
	}{
		{"X", fx, list(to("B", named("f", fx, aVar("Q"), fx)), to("D", fx), to("F", number(5)), to("X", fx))},
		{"X", aVar("Q"), list(to("B", named("f", aVar("Q"), aVar("Q"), aVar("Q"))), to("D", aVar("Q")), to("F", number(5)), to("X", aVar("Q")))},
		{"Q", aVar("X"), list(to("B", named("f", aVar("X"), aVar("X"), aVar("X"))), to("D", aVar("X")), to("F", number(5)), to("Q", aVar("X")))},
		{"A", number(1), list(to("A", number(1)), l[0], l[1], l[2])},
		{"C", aVar("A"), list(l[0], to("C", aVar("A")), l[1], l[2])},
		{"E", number(1), list(l[0], l[1], to("E", number(1)), l[2])},
		{"FF", aVar("XX"), list(l[0], l[1], l[2], to("FF", aVar("XX")))},
		{"Dx", named("b", aVar("Bx")), list(l[0], l[1], to("Dx", named("b", aVar("Bx"))), l[2])},
	} {
		m, e := Set(l, c.s, c.t)
		if e != api.OK || !same(m, c.want) {
			t.Errorf("%d: %v, %v", i, m, e)
		}
		if Check(m) != api.OK {
			t.Errorf("%d: may not be: %v", i, m)
		}
		x, e := Get(m, c.s)
		tells(t, "Get behind Set", x, e, c.t)
	}
}

// P2.1: what may not be set.
func TestSetWrong(t *testing.T) {
	l := list(to("B", named("f", aVar("X"))), to("D", number(1)))
	full := many(api.MaxBinds)
	for _, s := range append(wrongNames(), "B", "D", "b") {
		m, e := Set(l, s, number(1))
		none(t, "Set of "+s[:min(20, len(s))], m, e, api.ErrForm)
		if s != "B" && s != "D" {
			m, e = Set(full, s, number(1))
			none(t, "Set of "+s[:min(20, len(s))]+", full", m, e, api.ErrForm)
		}
	}
	for what, x := range wrongTerms() {
		m, e := Set(l, "X", x)
		none(t, what, m, e, api.ErrForm)
		m, e = Set(full, "X", x)
		none(t, what+", full", m, e, api.ErrForm)
	}
	for _, x := range []api.Term{aVar("X"), named("f", number(1), aVar("X")), tower(5, aVar("X")), aVar("B"), aVar("D"), named("f", aVar("Q"), named("g", aVar("D"))), tower(api.MaxDepth, aVar("B"))} {
		m, e := Set(l, "X", x)
		none(t, "its own or bound variables", m, e, api.ErrForm)
	}
	m, e := Set(full, "V00", number(0))
	none(t, "bound already, full", m, e, api.ErrForm)
	m, e = Set(full, "X", aVar("X"))
	none(t, "its own, full", m, e, api.ErrForm)
	m, e = Set(full, "X", aVar("V15"))
	none(t, "bound variable, full", m, e, api.ErrForm)
	m, e = Set(list(to("B", tower(api.MaxDepth, aVar("X")))), "X", tower(4, aVar("B")))
	none(t, "bound variable, too deep", m, e, api.ErrForm)
}

// P2.1: limits of Set, each just met and one beyond.
func TestSetLimits(t *testing.T) {
	m, e := Set(many(api.MaxBinds-1), "A", aVar("B"))
	binds(t, "MaxBinds", m, e, append(list(to("A", aVar("B"))), many(api.MaxBinds-1)...))
	m, e = Set(many(api.MaxBinds-1), "W", aVar("B"))
	binds(t, "MaxBinds", m, e, append(many(api.MaxBinds-1), to("W", aVar("B"))))
	m, e = Set(many(api.MaxBinds), "A", aVar("B"))
	none(t, "beyond MaxBinds", m, e, api.ErrLimit)
	m, e = Set(many(api.MaxBinds), "W", number(1))
	none(t, "beyond MaxBinds", m, e, api.ErrLimit)

	l := list(to("A", number(1)), to("B", tower(3, aVar("X"))), to("C", number(1)))
	m, e = Set(l, "X", tower(3, number(1)))
	binds(t, "MaxDepth", m, e, list(l[0], to("B", tower(api.MaxDepth, number(1))), l[2], to("X", tower(3, number(1)))))
	m, e = Set(l, "X", tower(4, number(1)))
	none(t, "beyond MaxDepth", m, e, api.ErrLimit)
	m, e = Set(l, "Y", tower(api.MaxDepth, number(1)))
	binds(t, "MaxDepth beside", m, e, append(slices.Clone(l), to("Y", tower(api.MaxDepth, number(1)))))

	twice := list(to("A", named("f", aVar("X"), aVar("X"))), to("Z", named("f", aVar("X"), aVar("X"), number(1))))
	s := bush(11)
	m, e = Set(twice, "X", s)
	binds(t, "MaxSize", m, e, list(to("A", named("f", s, s)), to("X", s), to("Z", named("f", s, s, number(1)))))
	twice[1].Term.Args[2] = named("g", number(1))
	m, e = Set(twice, "X", s)
	none(t, "beyond MaxSize", m, e, api.ErrLimit)
	m, e = Set(nil, "X", bush(api.MaxSize))
	binds(t, "MaxSize alone", m, e, list(to("X", bush(api.MaxSize))))
}

// P2.2: both together, by rising names, each once.
func TestJoin(t *testing.T) {
	a := list(to("A", number(1)), to("C", named("f", number(2), named("g"))), to("E", named("a")))
	b := list(to("B", number(3)), to("C", named("f", number(2), named("g"))), to("D", number(4)), to("F", number(5)))
	both := list(a[0], b[0], a[1], b[2], a[2], b[3])
	for i, c := range []struct{ a, b, want []api.Bind }{
		{a, b, both},
		{b, a, both},
		{a, a, a},
		{a, nil, a},
		{nil, b, b},
		{nil, nil, nil},
		{[]api.Bind{}, nil, nil},
		{a[:1], a[2:], list(a[0], a[2])},
		{a[2:], a[:1], list(a[0], a[2])},
		{many(api.MaxBinds), many(api.MaxBinds), many(api.MaxBinds)},
		{many(api.MaxBinds)[:9], many(api.MaxBinds)[7:], many(api.MaxBinds)},
		{many(api.MaxBinds - 1), list(to("A", number(1))), append(list(to("A", number(1))), many(api.MaxBinds-1)...)},
		{many(api.MaxBinds - 1), list(to("W", number(1))), append(many(api.MaxBinds-1), to("W", number(1)))},
	} {
		l, e := Join(c.a, c.b)
		if e != api.OK || !same(l, c.want) || Check(l) != api.OK {
			t.Errorf("%d: %v, %v", i, l, e)
		}
	}
}

// P2.2: errors of Join, and their order.
func TestJoinErrors(t *testing.T) {
	full := many(api.MaxBinds)
	other := list(to("A", number(1)), to("V15", number(0)))
	for i, c := range []struct {
		a, b []api.Bind
		e    api.Errno
	}{
		{list(to("X", number(1))), list(to("X", number(2))), api.ErrNone},
		{list(to("X", number(1))), list(to("X", named("a"))), api.ErrNone},
		{list(to("X", named("a"))), list(to("X", named("b"))), api.ErrNone},
		{list(to("X", named("a"))), list(to("X", named("a", number(1)))), api.ErrNone},
		{list(to("X", named("a", number(1), number(2)))), list(to("X", named("a", number(1), number(3)))), api.ErrNone},
		{list(to("A", number(1)), to("X", number(1))), list(to("B", number(1)), to("X", number(2)), to("Y", number(2))), api.ErrNone},
		{full, list(to("A", number(1))), api.ErrLimit},
		{full, list(to("W", number(1))), api.ErrLimit},
		{full[:8], slices.Concat(list(to("A", number(1))), full[8:]), api.ErrLimit},
		{full, other, api.ErrNone},
		{full, list(to("V15", number(0)), to("W", number(0))), api.ErrNone},
		{list(to("X", aVar("Y"))), nil, api.ErrForm},
		{list(to("X", named("f", number(1), aVar("Y")))), list(to("X", number(1))), api.ErrForm},
		{full, list(to("A", aVar("Y")), to("V15", number(0))), api.ErrForm},
		{append(slices.Clone(full[:15]), to("V15", tower(5, aVar("Y")))), other, api.ErrForm},
		{list(to("X", aVar("Y"))), list(to("X", aVar("Y"))), api.ErrForm},
	} {
		l, e := Join(c.a, c.b)
		none(t, fmt.Sprint(i), l, e, c.e)
		l, e = Join(c.b, c.a)
		none(t, fmt.Sprint(i, ", the other way"), l, e, c.e)
	}
}

// P2.2: those stay whose Name is asked for; names of nobody, or asked for twice, change nothing.
func TestOnly(t *testing.T) {
	l := list(to("A", number(1)), to("AB", named("f", aVar("Q"))), to("C", aVar("Q")))
	for i, c := range []struct {
		names []string
		want  []api.Bind
	}{
		{nil, nil},
		{[]string{}, nil},
		{[]string{"A"}, l[:1]},
		{[]string{"AB"}, l[1:2]},
		{[]string{"C", "A"}, list(l[0], l[2])},
		{[]string{"C", "C", "AB", "C"}, l[1:]},
		{[]string{"C", "AB", "A"}, l},
		{[]string{"Q", "B", "ABC"}, nil},
		{wrongNames(), nil},
		{append(wrongNames(), "C", "A\x00", "a"), l[2:]},
	} {
		m, e := Only(l, c.names)
		if e != api.OK || !same(m, c.want) {
			t.Errorf("%d: %v, %v", i, m, e)
		}
	}
	full := many(api.MaxBinds)
	for i, b := range full {
		m, e := Only(full, []string{b.Name})
		binds(t, b.Name, m, e, full[i:i+1])
	}
	var names []string
	for range 1 << 12 {
		for _, b := range full {
			names = append(names, b.Name)
		}
	}
	m, e := Only(full, names)
	binds(t, "all, often", m, e, full)
	m, e = Only(nil, names)
	binds(t, "of none", m, e, nil)
}

// some are terms of all kinds, of variables A, B, C.
func some() []api.Term {
	flat := []api.Term{aVar("A"), aVar("B"), aVar("C"), number(0), named("a")}
	l := slices.Clone(flat)
	for _, a := range flat {
		l = append(l, named("f", a), named("g", named("f", a)))
		for _, b := range flat {
			l = append(l, named("f", a, b))
		}
	}
	return l
}

// put is one variable replaced, told once more.
func put(x api.Term, s string, t api.Term) api.Term {
	if x.Kind == api.TermVar && x.Name == s {
		return t
	}
	y := x
	y.Args = nil
	for _, a := range x.Args {
		y.Args = append(y.Args, put(a, s, t))
	}
	return y
}

func has(x api.Term, s string) bool {
	return x.Kind == api.TermVar && x.Name == s || slices.ContainsFunc(x.Args, func(a api.Term) bool { return has(a, s) })
}

// P2.1, P2.3: Set behind Set is one variable replaced behind the other; Apply twice is once.
func TestFollows(t *testing.T) {
	l := some()
	for _, a := range l {
		for _, b := range l {
			one, e := Set(nil, "B", a)
			if has(a, "B") {
				none(t, "its own", one, e, api.ErrForm)
				continue
			}
			two, e := Set(one, "A", b)
			if has(b, "A") || has(b, "B") {
				none(t, "its own, or bound", two, e, api.ErrForm)
				continue
			}
			binds(t, "both", two, e, list(to("A", b), to("B", put(a, "A", b))))
			for _, x := range l {
				y, e := Apply(two, x)
				if want := put(put(x, "B", a), "A", b); tooDeep(want) {
					nothing(t, "too deep", y, e, api.ErrLimit)
				} else {
					tells(t, "once", y, e, want)
					z, e := Apply(two, y)
					tells(t, "twice", z, e, y)
				}
			}
		}
	}
}

func tooDeep(x api.Term) bool { return deepest(x) > api.MaxDepth }

func deepest(x api.Term) int {
	most := 0
	for _, a := range x.Args {
		most = max(most, deepest(a))
	}
	return most + 1
}

// scribble writes into each list of x, and behind it.
func scribble(x api.Term) {
	for i := range x.Args {
		scribble(x.Args[i])
		x.Args[i] = number(99)
	}
	_ = append(x.Args, number(98))
}

func scribbleAll(l []api.Bind) {
	for i := range l {
		scribble(l[i].Term)
		l[i] = to("Scribble", number(97))
	}
	_ = append(l, to("Behind", number(96)))
}

// roomy has spare room behind each of its lists, in which something stands.
func roomy() ([]api.Bind, func() bool) {
	args := []api.Term{number(1), named("g", number(2)), number(77)}
	l := list(to("A", named("f", args[:2]...)), to("X", number(5)), to("Spare", number(66)))
	untouched := func() bool {
		return same(l, list(to("A", named("f", number(1), named("g", number(2)))), to("X", number(5)), to("Spare", number(66)))) && alike(args[2], number(77))
	}
	return l[:2], untouched
}

// R2: what is handed in stays as it is, and shares nothing with what is told, spare room too.
func TestMemory(t *testing.T) {
	f := named("f", number(1), named("g", number(2)))
	for what, call := range map[string]func(l []api.Bind){
		"Get": func(l []api.Bind) {
			x, _ := Get(l, "A")
			scribble(x)
		},
		"Apply": func(l []api.Bind) {
			h := named("h", aVar("A"), aVar("A"))
			x, _ := Apply(l, h)
			scribble(x.Args[0])
			tells(t, "Apply: both of them", x.Args[1], api.OK, f)
			scribble(x)
			tells(t, "Apply: what was handed in", h, api.OK, named("h", aVar("A"), aVar("A")))
			x, _ = Apply(nil, l[0].Term)
			scribble(x)
		},
		"Set": func(l []api.Bind) {
			x, _ := Set(l, "B", l[0].Term)
			scribble(x[0].Term)
			tells(t, "Set: both of them", x[1].Term, api.OK, f)
			scribbleAll(x)
			x, _ = Set(l, "Z", number(1))
			scribbleAll(x)
			x, _ = Set(list(to("P", named("p", aVar("Q"), aVar("Q"))), to("R", aVar("Q"))), "Q", l[0].Term)
			scribble(x[0].Term.Args[0])
			tells(t, "Set: within one", x[0].Term.Args[1], api.OK, f)
			scribble(x[0].Term)
			tells(t, "Set: its own", x[1].Term, api.OK, f)
			tells(t, "Set: the last", x[2].Term, api.OK, f)
			scribbleAll(x)
		},
		"Join": func(l []api.Bind) {
			for _, k := range [][]api.Bind{nil, l, l[:1], l[1:], list(to("Z", number(1))), list(to("AA", number(1)))} {
				x, _ := Join(l, k)
				y, _ := Join(k, l)
				scribbleAll(x)
				scribbleAll(y)
			}
		},
		"Only": func(l []api.Bind) {
			names := []string{"A", "X"}
			x, _ := Only(l, names)
			y, _ := Only(l, names)
			scribbleAll(x)
			binds(t, "Only: what was told", y, api.OK, list(to("A", f), to("X", number(5))))
			if !slices.Equal(names, []string{"A", "X"}) {
				t.Errorf("Only: %v", names)
			}
		},
	} {
		l, untouched := roomy()
		call(l)
		if !untouched() {
			t.Errorf("%s: what was handed in changed: %v", what, l)
		}
	}
}

// R2: a nil list and an empty one are one.
func TestEmptyArgs(t *testing.T) {
	x := api.Term{Kind: api.TermName, Name: "a", Args: []api.Term{}}
	l, e := Join(list(to("X", x)), list(to("X", named("a"))))
	binds(t, "Join", l, e, list(to("X", named("a"))))
	y, e := Apply([]api.Bind{}, x)
	tells(t, "Apply", y, e, named("a"))
}

// A variable's name of MaxName bytes is bound as any other, and not the one that it differs from at its end.
func TestLongNames(t *testing.T) {
	most := "X" + strings.Repeat("x", api.MaxName-2)
	l := list(to(most+"a", number(1)), to(most+"c", number(3)))
	x, e := Apply(l, named("f", aVar(most+"a"), aVar(most+"b"), aVar(most+"c"), aVar(most)))
	tells(t, "Apply", x, e, named("f", number(1), aVar(most+"b"), number(3), aVar(most)))
	m, e := Set(l, most+"b", number(2))
	binds(t, "Set", m, e, list(l[0], to(most+"b", number(2)), l[1]))
	m, e = Set(l, most, aVar(most+"c"))
	none(t, "Set to a bound one", m, e, api.ErrForm)
	m, e = Only(l, []string{most, most + "b", most + "c"})
	binds(t, "Only", m, e, l[1:])
	if e := Check(list(to(most, aVar(most+"c")), l[1])); e != api.ErrForm {
		t.Errorf("Check: %v", e)
	}
}

// Keys are like just where names are; a text without room is nobody's.
func TestKeys(t *testing.T) {
	l := []string{"", "X", "X\x00", "XX", "Y", strings.Repeat("X", api.MaxName-1), strings.Repeat("X", api.MaxName), strings.Repeat("X", api.MaxName-1) + "\x00"}
	for _, a := range l {
		for _, b := range l {
			if (keyOf(a) == keyOf(b)) != (a == b) {
				t.Errorf("%q, %q", a, b)
			}
		}
	}
	p := placesOf(many(api.MaxBinds))
	if i, there := p.find("V09"); i != 9 || !there {
		t.Errorf("%v, %v", i, there)
	}
	if i, there := p.find(strings.Repeat("V", 300)); i != 0 || there {
		t.Errorf("%v, %v", i, there)
	}
}
