package unify

import (
	"fmt"
	"slices"
	"strings"
	"testing"

	"almagest/api"
	"almagest/bind"
	"almagest/term"
)

// some are terms of all kinds, of variables A, B, C.
func some() []api.Term {
	flat := []string{"A", "B", "C", "0", "a"}
	var l []api.Term
	for _, a := range flat {
		l = append(l, one(a), one("f("+a+")"), one("g(f("+a+"))"))
		for _, b := range flat {
			l = append(l, one("f("+a+","+b+")"))
		}
	}
	return append(l, one("f(g(A),B)"), one("f(A,g(f(B)))"), one("f(f(A,B),f(B,C))"), one("f(C,f(0,A))"))
}

// grounds are what A, B, C may stand for where Unify is held against other binds.
func grounds() []api.Term {
	var l []api.Term
	for _, s := range []string{"0", "a", "f(0)", "f(a)", "f(0,0)", "f(0,a)", "g(f(0))", "f(f(0),0)", "f(0,f(0,0))"} {
		l = append(l, one(s))
	}
	return l
}

// put is what is bound replaced, told once more, and without limits.
func put(l []api.Bind, t api.Term) api.Term {
	if t.Kind == api.TermVar {
		for _, b := range l {
			if b.Name == t.Name {
				return b.Term
			}
		}
	}
	x := api.Term{Kind: t.Kind, Name: t.Name, N: t.N}
	for _, a := range t.Args {
		x.Args = append(x.Args, put(l, a))
	}
	return x
}

func alike(a, b api.Term) bool {
	return a.Kind == b.Kind && a.Name == b.Name && a.N == b.N && slices.EqualFunc(a.Args, b.Args, alike)
}

// others are all binds of A, B, C to grounds.
func others() [][]api.Bind {
	var all [][]api.Bind
	for _, a := range grounds() {
		for _, b := range grounds() {
			for _, c := range grounds() {
				all = append(all, []api.Bind{{Name: "A", Term: a}, {Name: "B", Term: b}, {Name: "C", Term: c}})
			}
		}
	}
	return all
}

// P3.3: what is unified is alike, and more general than any other: others that make both alike go through it; where there is none, no others do.
func TestFollows(t *testing.T) {
	l, all := some(), others()
	for _, a := range l {
		for _, b := range l {
			m, e := Unify(nil, a, b)
			if e != api.OK && e != api.ErrNone {
				t.Fatalf("%v, %v: %v", a, b, e)
			}
			if e == api.OK && (!alike(put(m, a), put(m, b)) || bind.Check(m) != api.OK) {
				t.Fatalf("%v, %v: not alike by %v", a, b, m)
			}
			for _, s := range all {
				if !alike(put(s, a), put(s, b)) {
					continue
				}
				if e == api.ErrNone || !through(s, m) {
					t.Fatalf("%v, %v: %v does not hold %v", a, b, m, s)
				}
			}
		}
	}
}

// through tells whether s is m, and something behind it.
func through(s []api.Bind, m []api.Bind) bool {
	return !slices.ContainsFunc(m, func(x api.Bind) bool { return !alike(put(s, aVar(x.Name)), put(s, x.Term)) })
}

// P3.1, P3.3: a pair behind a pair, by the binds of the first, is both pairs at once.
func TestBehind(t *testing.T) {
	l := some()
	for i, a := range l {
		for k, b := range l {
			first, e := Unify(nil, a, b)
			for _, c := range l[i%7:] {
				d := l[(i+k)%len(l)]
				both, e2 := Unify(nil, named("p", a, c), named("p", b, d))
				if e != api.OK {
					if e2 != e || len(both) != 0 {
						t.Fatalf("%v, %v; %v, %v: %v, %v", a, b, c, d, both, e2)
					}
					continue
				}
				m, e3 := Unify(first, c, d)
				if e2 != e3 || !same(both, m) {
					t.Fatalf("%v, %v; %v, %v: %v, %v, and %v, %v", a, b, c, d, both, e2, m, e3)
				}
			}
		}
	}
}

// P3.2, P3.3: what is matched is made b, by a's variables alone; of ground terms and binds it is what Unify tells.
func TestMatchFollows(t *testing.T) {
	for _, s := range []string{"", "A=0", "A=f(0)", "A=0 C=f(0)", "D=1"} {
		l := list(s)
		for _, a := range some() {
			for _, x := range some() {
				b := put(list("A=0 B=f(0) C=a"), x)
				m, e := Match(l, a, b)
				u, e2 := Unify(l, a, b)
				if e != e2 || !same(m, u) {
					t.Fatalf("%q, %v, %v: %v, %v, not %v, %v", s, a, b, m, e, u, e2)
				}
				if e == api.OK && (!alike(put(m, a), b) || !same(names(m), needed(l, a))) {
					t.Fatalf("%q, %v, %v: %v", s, a, b, m)
				}
			}
		}
	}
}

func names(l []api.Bind) []string {
	var x []string
	for _, b := range l {
		x = append(x, b.Name)
	}
	return x
}

// needed are l's names and a's variables, rising.
func needed(l []api.Bind, a api.Term) []string {
	x, _ := term.Vars(a)
	x = append(x, names(l)...)
	slices.Sort(x)
	return slices.Compact(x)
}

// stepped is Unify told once more: a list of pairs that wait, the binds as they are put one into the other, limits asked behind each step.
func stepped(l []api.Bind, a api.Term, b api.Term) ([]api.Bind, api.Errno) {
	l = slices.Clone(l)
	wait := [][2]api.Term{{a, b}}
	for len(wait) > 0 {
		x, y := put(l, wait[0][0]), put(l, wait[0][1])
		wait = wait[1:]
		if term.Check(x) != api.OK || term.Check(y) != api.OK {
			return nil, api.ErrLimit
		}
		if alike(x, y) {
			continue
		}
		if y.Kind == api.TermVar && (x.Kind != api.TermVar || x.Name < y.Name) {
			x, y = y, x
		}
		if x.Kind != api.TermVar {
			if x.Kind != y.Kind || x.Name != y.Name || x.N != y.N || len(x.Args) != len(y.Args) {
				return nil, api.ErrNone
			}
			var inner [][2]api.Term
			for i := range x.Args {
				inner = append(inner, [2]api.Term{x.Args[i], y.Args[i]})
			}
			wait = append(inner, wait...)
			continue
		}
		if strings.Contains(fmt.Sprint(y), "{1 "+x.Name+" ") {
			return nil, api.ErrNone
		}
		for i := range l {
			l[i].Term = put([]api.Bind{{Name: x.Name, Term: y}}, l[i].Term)
		}
		l = append(l, api.Bind{Name: x.Name, Term: y})
		if len(l) > api.MaxBinds || slices.ContainsFunc(l, func(b api.Bind) bool { return term.Check(b.Term) != api.OK }) {
			return nil, api.ErrLimit
		}
	}
	slices.SortFunc(l, func(a, b api.Bind) int { return strings.Compare(a.Name, b.Name) })
	return l, api.OK
}

// dice fall the same in each run.
type dice struct{ last uint64 }

func (d *dice) below(n int) int {
	d.last = d.last*6364136223846793005 + 1442695040888963407
	return int(d.last>>33) % n
}

// aTerm makes a term of at most so many levels, of so many variables.
func aTerm(r *dice, deep int, vars int) api.Term {
	k := r.below(10)
	switch {
	case k < 4:
		return aVar(string(rune('A' + r.below(vars))))
	case k < 5 || deep == 1:
		return number(r.below(2))
	}
	t := named("f")
	for range r.below(4) {
		t.Args = append(t.Args, aTerm(r, deep-1, vars))
	}
	return t
}

// P3.1, P3.3: Unify is what is told step by step, also by binds that are there, and beyond limits.
func TestSteps(t *testing.T) {
	r := &dice{1}
	count := map[api.Errno]int{}
	for range 60000 {
		vars := 2 + r.below(20)
		var l []api.Bind
		for range r.below(4) {
			m, e := stepped(l, aTerm(r, 3, vars), aTerm(r, 3, vars))
			if e == api.OK {
				l = m
			}
		}
		a, b := aTerm(r, 4, vars), aTerm(r, 4, vars)
		if term.Check(a) != api.OK || term.Check(b) != api.OK {
			continue
		}
		want, e := stepped(l, a, b)
		count[e]++
		m, e2 := Unify(l, a, b)
		if e2 != e || !same(m, want) {
			t.Fatalf("%v, %v, %v: %v, %v, not %v, %v", l, a, b, m, e2, want, e)
		}
	}
	for _, e := range []api.Errno{api.OK, api.ErrNone, api.ErrLimit} {
		if count[e] < 100 {
			t.Errorf("%v: %d alone", e, count[e])
		}
	}
}

// scribble writes into all lists of l, and behind them.
func scribble(l []api.Bind) {
	for i := range l {
		scribbleTerm(l[i].Term)
		l[i] = api.Bind{Name: "SCRIBBLE"}
	}
	_ = append(l, api.Bind{Name: "SCRIBBLE"})
}

func scribbleTerm(t api.Term) {
	for i := range t.Args {
		scribbleTerm(t.Args[i])
		t.Args[i] = number(99)
	}
	_ = append(t.Args, number(98))
}

// roomy is the same terms with room behind each list, so that it would be seen if somebody wrote there.
func roomy(t api.Term) api.Term {
	args := make([]api.Term, 0, len(t.Args)+2)
	for _, a := range t.Args {
		args = append(args, roomy(a))
	}
	t.Args = args
	return t
}

func roomyBinds(l []api.Bind) []api.Bind {
	m := make([]api.Bind, 0, len(l)+3)
	for _, b := range l {
		m = append(m, api.Bind{Name: b.Name, Term: roomy(b.Term)})
	}
	return m
}

func wholeTerm(t api.Term) string {
	s := fmt.Sprint(t.Kind, t.Name, t.N, len(t.Args))
	for _, a := range t.Args[:cap(t.Args)] {
		s += "(" + wholeTerm(a) + ")"
	}
	return s
}

// whole tells all of a list, the room behind it too.
func whole(l []api.Bind) string {
	s := fmt.Sprint(len(l))
	for _, b := range l[:cap(l)] {
		s += " " + b.Name + "=" + wholeTerm(b.Term)
	}
	return s
}

// R2: what is handed in is neither changed nor kept, and no two lists that are told are one.
func TestMemory(t *testing.T) {
	for name, f := range map[string]call{"Unify": Unify, "Match": Match} {
		for _, c := range []struct{ l, a, b string }{
			{"B=g(1) D=h(g(2))", "f(A,C,g(C))", "f(k(1),k(k(2)),g(k(k(2))))"},
			{"B=g(1) D=h(g(2))", "f(A,A,C)", "f(k(1),k(1),k(1))"},
			{"B=g(1) D=h(g(2))", "f(1)", "f(1)"},
			{"B=g(1) D=h(g(2))", "f(B)", "f(g(1))"},
			{"B=g(1) D=h(g(2))", "f(A,1)", "f(k(1),2)"},
			{"", "f(A,C)", "f(k(1),k(1))"},
		} {
			l, a, b := roomyBinds(list(c.l)), roomy(one(c.a)), roomy(one(c.b))
			was := whole(l) + wholeTerm(a) + wholeTerm(b)
			m, e := f(l, a, b)
			n, e2 := f(l, a, b)
			told := fmt.Sprint(n)
			if e != e2 || !same(m, n) {
				t.Errorf("%s: %v, %v: not the same twice", name, m, n)
			}
			for i := range m {
				apart := fmt.Sprint(m[i+1:])
				scribbleTerm(m[i].Term)
				if fmt.Sprint(m[i+1:]) != apart {
					t.Errorf("%s: %v: one list twice", name, c)
				}
			}
			scribble(m)
			if whole(l)+wholeTerm(a)+wholeTerm(b) != was {
				t.Errorf("%s: %v: what was handed in changed", name, c)
			}
			if fmt.Sprint(n) != told {
				t.Errorf("%s: %v: what was told changed", name, c)
			}
			scribble(l)
			scribbleTerm(a)
			scribbleTerm(b)
			if fmt.Sprint(n) != told {
				t.Errorf("%s: %v: what was handed in is kept", name, c)
			}
		}
	}
}

// R2: a nil list and an empty one are one.
func TestEmptyLists(t *testing.T) {
	x := api.Term{Kind: api.TermName, Name: "a", Args: []api.Term{}}
	for name, f := range map[string]call{"Unify": Unify, "Match": Match} {
		m, e := f([]api.Bind{}, x, one("a"))
		if e != api.OK || len(m) != 0 {
			t.Errorf("%s: %v, %v", name, m, e)
		}
		m, e = f([]api.Bind{{Name: "X", Term: x}}, aVar("X"), one("a"))
		if e != api.OK || !same(m, list("X=a")) {
			t.Errorf("%s: %v, %v", name, m, e)
		}
	}
}

// Marks are like just where names are.
func TestMarks(t *testing.T) {
	l := []string{"A", "B", "AA", "AB", "BA", "Aa", "A_", "A0", "A00", "Abcdefg", "Abcdefgh", "Abcdefghi", "Bbcdefghi", "Abcdefghj", "Abcdefghij", strings.Repeat("A", 15), strings.Repeat("A", 16), strings.Repeat("A", 15) + "B", "B" + strings.Repeat("A", 15)}
	for _, a := range l {
		for _, b := range l {
			if (markOf(a) == markOf(b)) != (a == b) {
				t.Errorf("%s, %s", a, b)
			}
		}
	}
}
