package guard_test

import (
	"fmt"
	"slices"
	"strings"
	"testing"

	"almagest/api"
	"almagest/bind"
	"almagest/guard"
	"almagest/read"
	"almagest/show"
)

func aVar(s string) api.Term { return api.Term{Kind: api.TermVar, Name: s} }

func num(n int) api.Term { return api.Term{Kind: api.TermNum, N: n} }

func named(s string, args ...api.Term) api.Term {
	return api.Term{Kind: api.TermName, Name: s, Args: args}
}

func list[T any](n int, x T) []T { return slices.Repeat([]T{x}, n) }

func one(t *testing.T, text string) api.Term {
	t.Helper()
	x, at, e := read.Term(text)
	if e != api.OK {
		t.Fatalf("%q: %v at %d", text, e, at)
	}
	return x
}

// terms are those of a text with blanks between.
func terms(t *testing.T, text string) []api.Term {
	t.Helper()
	var l []api.Term
	for _, s := range strings.Fields(text) {
		l = append(l, one(t, s))
	}
	return l
}

func guards(t *testing.T, text string) []api.Guard {
	t.Helper()
	if text == "" {
		return nil
	}
	p, at, e := read.Program("h <- a, within 1, where " + text + ".")
	if e != api.OK || len(p.Rules) != 1 {
		t.Fatalf("%q: %v at %d", text, e, at)
	}
	return p.Rules[0].Guards
}

// binds are those of a text as "X=1 Y=f(a)".
func binds(t *testing.T, text string) []api.Bind {
	t.Helper()
	var l []api.Bind
	for _, s := range strings.Fields(text) {
		name, x, _ := strings.Cut(s, "=")
		l = append(l, api.Bind{Name: name, Term: one(t, x)})
	}
	return l
}

func text(x api.Term) string {
	s, e := show.Term(x)
	if e != api.OK {
		return fmt.Sprintf("?%+v", x)
	}
	return s
}

func texts(l []api.Term) string {
	var s []string
	for _, x := range l {
		s = append(s, text(x))
	}
	return strings.Join(s, " ")
}

func bindText(l []api.Bind) string {
	if len(l) == 0 {
		return "-"
	}
	var s []string
	for _, b := range l {
		s = append(s, b.Name+"="+text(b.Term))
	}
	return strings.Join(s, " ")
}

// bindTexts are binds as binds reads them, some behind others with "; " between; "-" is one without binds.
func bindTexts(l [][]api.Bind) string {
	var s []string
	for _, m := range l {
		s = append(s, bindText(m))
	}
	return strings.Join(s, "; ")
}

// numbers are so many atoms m(0), m(1) .. as they rise.
func numbers(n int) []api.Term {
	var l []api.Term
	for i := range n {
		l = append(l, named("m", num(i)))
	}
	return l
}

// many binds so many names, from V00 on, each to its number.
func many(n int) []api.Bind {
	var l []api.Bind
	for i := range n {
		l = append(l, api.Bind{Name: fmt.Sprintf("V%02d", i), Term: num(i)})
	}
	return l
}

// deep is a term so deep, with core in the midst.
func deep(n int, core api.Term) api.Term {
	for range n - 1 {
		core = named("f", core)
	}
	return core
}

// wide is a term of so many (21 to 25) within it, itself counted; core is the last one of them.
func wide(n int, core api.Term) api.Term {
	four := named("g", list(4, num(1))...)
	return named("f", four, four, four, named("g", num(1), num(1), num(1), named("h", append(list(n-22, num(1)), core)...)))
}

// endless is a term within itself.
func endless() api.Term {
	t := named("f", num(0))
	t.Args[0] = t
	return t
}

// notTerms may not be, each for one cause, alone and within others.
func notTerms() []api.Term {
	long := strings.Repeat("a", api.MaxName+1)
	l := []api.Term{endless(), named("f", list(api.MaxArgs+1, num(1))...), deep(api.MaxDepth+1, num(1)), wide(api.MaxSize+1, num(1)), deep(1<<15, num(1))}
	for _, x := range []api.Term{{}, named(""), named("A"), named("1"), named("_"), named("a b"), named("a."), named("\xe4"), named("a\x00"), named("a\xff"), named(long), num(api.MaxNum + 1), num(-api.MaxNum - 1), aVar("x"), aVar(""), aVar("X "), aVar(strings.ToUpper(long)), {Kind: api.TermName + 1, Name: "a"}, {Kind: -1}, {Kind: api.TermName, Name: "a", N: 1}, {Kind: api.TermNum, Name: "a"}, {Kind: api.TermNum, N: 1, Args: list(1, num(1))}, {Kind: api.TermVar, Name: "X", N: 1}, {Kind: api.TermVar, Name: "X", Args: list(1, num(1))}} {
		l = append(l, x, named("f", x), named("f", num(1), x), named("f", named("g", x)))
	}
	return l
}

// kinds are those of comparisons, by their signs.
func kinds() map[string]int {
	return map[string]int{"<": api.GuardLess, "=<": api.GuardMost, "=": api.GuardSame, `\=`: api.GuardOther}
}

// compareOf holds that Compare tells the same again, nothing beside an error, and changes nothing.
func compareOf(t *testing.T, kind int, a, b api.Term) (bool, api.Errno) {
	t.Helper()
	so, e := guard.Compare(kind, a, b)
	so2, e2 := guard.Compare(kind, a, b)
	if so != so2 || e != e2 || so && e != api.OK {
		t.Errorf("%d, %s, %s: %v, %v, then %v, %v", kind, text(a), text(b), so, e, so2, e2)
	}
	return so, e
}

// compares holds all that Compare tells of two terms: which signs are so; < and =< are ErrNone, where there is a "?".
func compares(t *testing.T, a, b api.Term, signs string) {
	t.Helper()
	for sign, kind := range kinds() {
		so, e := compareOf(t, kind, a, b)
		want := api.OK
		if strings.Contains(signs, "?") && strings.Contains(sign, "<") {
			want = api.ErrNone
		}
		if so != slices.Contains(strings.Fields(signs), sign) || e != want {
			t.Errorf("%s %s %s: %v, %v", text(a), sign, text(b), so, e)
		}
	}
}

// P12.1: the chapter's example.
func TestExample(t *testing.T) {
	so, e := guard.Compare(api.GuardLess, num(1), num(2))
	if !so || e != api.OK {
		t.Errorf("%v, %v", so, e)
	}
}

// P12.1: each kind, of numbers, of names, of terms within terms, both ways.
func TestCompare(t *testing.T) {
	for _, c := range []struct{ a, b, signs, turned string }{
		{"1", "2", `< =< \=`, `\=`},
		{"0", "0", "=< =", "=< ="},
		{"7", "7", "=< =", "=< ="},
		{"-1", "1", `< =< \=`, `\=`},
		{"-2", "-1", `< =< \=`, `\=`},
		{"-5", "-5", "=< =", "=< ="},
		{"-1", "0", `< =< \=`, `\=`},
		{"9", "10", `< =< \=`, `\=`},
		{"-1073741824", "1073741824", `< =< \=`, `\=`},
		{"1073741823", "1073741824", `< =< \=`, `\=`},
		{"-1073741824", "-1073741823", `< =< \=`, `\=`},
		{"1073741824", "1073741824", "=< =", "=< ="},
		{"-1073741824", "-1073741824", "=< =", "=< ="},
		{"a", "a", "= ?", "= ?"},
		{"a", "b", `\= ?`, `\= ?`},
		{"a", "aa", `\= ?`, `\= ?`},
		{"a", "a0", `\= ?`, `\= ?`},
		{"a", "aA", `\= ?`, `\= ?`},
		{"a", "1", `\= ?`, `\= ?`},
		{"a", "0", `\= ?`, `\= ?`},
		{"f(1)", "1", `\= ?`, `\= ?`},
		{"f(1)", "2", `\= ?`, `\= ?`},
		{"f(1)", "f", `\= ?`, `\= ?`},
		{"f(1)", "f(1)", "= ?", "= ?"},
		{"f(1)", "f(2)", `\= ?`, `\= ?`},
		{"f(1)", "g(1)", `\= ?`, `\= ?`},
		{"f(1)", "f(a)", `\= ?`, `\= ?`},
		{"f(1)", "f(1,1)", `\= ?`, `\= ?`},
		{"f(1,2)", "f(2,1)", `\= ?`, `\= ?`},
		{"f(a,b)", "f(a,b)", "= ?", "= ?"},
		{"f(1,2,3,4)", "f(1,2,3,4)", "= ?", "= ?"},
		{"f(1,2,3,4)", "f(1,2,3,5)", `\= ?`, `\= ?`},
		{"f(1,2,3,4)", "f(0,2,3,4)", `\= ?`, `\= ?`},
		{"f(g(a),b)", "f(g(a,b))", `\= ?`, `\= ?`},
		{"f(g(a),b)", "f(g,a,b)", `\= ?`, `\= ?`},
		{"f(g(a,b),c)", "f(g(a),b,c)", `\= ?`, `\= ?`},
		{"f(g(h(i(1))))", "f(g(h(i(1))))", "= ?", "= ?"},
		{"f(g(h(i(1))))", "f(g(h(i(2))))", `\= ?`, `\= ?`},
		{"f(g(h(i)))", "f(g(h(1)))", `\= ?`, `\= ?`},
		{"f(g(1),g(2))", "f(g(1),g(2))", "= ?", "= ?"},
		{"f(g(1),g(2))", "f(g(1),g(1))", `\= ?`, `\= ?`},
	} {
		compares(t, one(t, c.a), one(t, c.b), c.signs)
		compares(t, one(t, c.b), one(t, c.a), c.turned)
	}
}

// unlikeNames are names that differ from the first in one byte each, or in how long they are.
func unlikeNames(first string) []string {
	l := []string{first}
	for i := range len(first) {
		b := []byte(first)
		b[i] ^= 1
		l = append(l, string(b))
		b[i] ^= 1 ^ 4
		l = append(l, string(b))
		if i > 0 {
			l = append(l, first[:i])
		}
	}
	return l
}

// P12.1: no two names, and no two numbers, are taken for one.
func TestCompareUnlike(t *testing.T) {
	names := unlikeNames("jkhijkhijkhijkhi")
	for _, a := range names {
		for _, b := range names {
			signs := `\= ?`
			if a == b {
				signs = "= ?"
			}
			compares(t, named(a), named(b), signs)
			compares(t, named("f", named(a)), named("f", named(b)), signs)
		}
	}
	all := []int{0, -1, -api.MaxNum, 1 - api.MaxNum}
	for i := range 31 {
		all = append(all, 1<<i, max(-1<<i-1, -api.MaxNum+i))
	}
	for _, n := range all {
		for _, m := range all {
			signs, within := `< =< \=`, `\= ?`
			if n == m {
				signs, within = "=< =", "= ?"
			}
			if n > m {
				signs = `\=`
			}
			compares(t, num(n), num(m), signs)
			compares(t, named("f", num(n)), named("f", num(m)), within)
		}
	}
}

// P12.1: the greatest terms that may be.
func TestCompareLimits(t *testing.T) {
	long := strings.Repeat("z", api.MaxName)
	for _, x := range []api.Term{deep(api.MaxDepth, num(1)), wide(api.MaxSize, num(1)), named("f", list(api.MaxArgs, num(1))...), named(long), named("f", named(long))} {
		compares(t, x, x, "= ?")
		compares(t, x, num(api.MaxNum), `\= ?`)
		compares(t, num(-api.MaxNum), x, `\= ?`)
	}
	compares(t, deep(api.MaxDepth, num(1)), deep(api.MaxDepth, num(2)), `\= ?`)
	compares(t, wide(api.MaxSize, num(1)), wide(api.MaxSize, num(2)), `\= ?`)
	compares(t, wide(api.MaxSize, num(1)), wide(api.MaxSize-1, num(1)), `\= ?`)
}

// P12.1: a nil list and an empty one are one.
func TestCompareEmpty(t *testing.T) {
	none := []api.Term{}
	a := api.Term{Kind: api.TermName, Name: "a", Args: none}
	compares(t, a, named("a"), "= ?")
	compares(t, named("f", named("a")), named("f", a), "= ?")
	compares(t, api.Term{Kind: api.TermNum, N: 1, Args: none}, num(2), `< =< \=`)
	compares(t, num(2), api.Term{Kind: api.TermNum, N: 2, Args: none}, "=< =")
}

// P12.1: a kind that is none of the four, a term that may not be, and one with a variable, on each side, are ErrForm, ahead of ErrNone.
func TestCompareWrong(t *testing.T) {
	wrong := notTerms()
	for _, x := range []string{"X", "f(X)", "f(1,X)", "f(g(X))", "f(g(h(i(X))))", "f(1,2,3,X)"} {
		wrong = append(wrong, one(t, x))
	}
	wrong = append(wrong, deep(api.MaxDepth, aVar("X")), wide(api.MaxSize, aVar("X")))
	refused := func(kind int, a, b api.Term) {
		t.Helper()
		if so, e := guard.Compare(kind, a, b); so || e != api.ErrForm {
			t.Errorf("%d: %v, %v", kind, so, e)
		}
	}
	for _, kind := range kinds() {
		for _, x := range wrong {
			for _, y := range []api.Term{num(1), num(0), named("a"), x} {
				refused(kind, x, y)
				refused(kind, y, x)
			}
		}
	}
	for _, kind := range []int{api.GuardNone, api.GuardKnown, api.GuardUnknown, api.GuardUnknown + 1, -1, 1 << 40, -1 << 63} {
		for _, x := range []api.Term{num(1), named("a"), named("a", num(1)), {}} {
			refused(kind, x, x)
			refused(kind, num(1), x)
			refused(kind, x, num(2))
		}
	}
}

// holdsOf holds that Holds tells the same again, binds that may be, each once, nothing beside an error, and changes nothing.
func holdsOf(t *testing.T, k []api.Term, l []api.Bind, g []api.Guard) ([][]api.Bind, api.Errno) {
	t.Helper()
	ahead := fmt.Sprintf("%+v %+v %+v", k, l, g)
	m, e := guard.Holds(k, l, g)
	m2, e2 := guard.Holds(k, l, g)
	if bindTexts(m) != bindTexts(m2) || e != e2 {
		t.Errorf("%s: %s, %v, then %s, %v", ahead, bindTexts(m), e, bindTexts(m2), e2)
	}
	if fmt.Sprintf("%+v %+v %+v", k, l, g) != ahead {
		t.Errorf("%s: changed", ahead)
	}
	if e != api.OK && m != nil {
		t.Errorf("%s: %s beside %v", ahead, bindTexts(m), e)
	}
	seen := map[string]int{}
	for i, x := range m {
		s := bindText(x)
		if seen[s] > 0 {
			t.Errorf("%s: %s at %d again", ahead, s, i)
		}
		seen[s]++
		if bind.Check(x) != api.OK {
			t.Errorf("%s: %s may not be", ahead, s)
		}
	}
	return m, e
}

// holds holds what Holds tells of texts.
func holds(t *testing.T, k, l, g, want string) {
	t.Helper()
	m, e := holdsOf(t, terms(t, k), binds(t, l), guards(t, g))
	if bindTexts(m) != want || e != api.OK {
		t.Errorf("%q, %q, %q: %q, %v, not %q", k, l, g, bindTexts(m), e, want)
	}
}
