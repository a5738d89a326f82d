package guard_test

import (
	"fmt"
	"strconv"
	"testing"

	"almagest/api"
	"almagest/guard"
)

// roomy is the same term with room behind each list, so that it would be seen if somebody wrote there.
func roomy(t api.Term) api.Term {
	t.Args = roomyTerms(t.Args)
	return t
}

func roomyTerms(l []api.Term) []api.Term {
	x := make([]api.Term, 0, len(l)+2)
	for _, t := range l {
		x = append(x, roomy(t))
	}
	return x
}

func roomyBinds(l []api.Bind) []api.Bind {
	x := make([]api.Bind, 0, len(l)+2)
	for _, b := range l {
		x = append(x, api.Bind{Name: b.Name, Term: roomy(b.Term)})
	}
	return x
}

func roomyGuards(l []api.Guard) []api.Guard {
	x := make([]api.Guard, 0, len(l)+2)
	for _, g := range l {
		x = append(x, api.Guard{Kind: g.Kind, L: roomy(g.L), R: roomy(g.R)})
	}
	return x
}

// whole tells all of a list, the room behind it too.
func whole(l []api.Term) string {
	s := strconv.Itoa(len(l))
	for _, t := range l[:cap(l)] {
		s += fmt.Sprint(" ", t.Kind, t.Name, t.N, "(", whole(t.Args), ")")
	}
	return s
}

func wholeBinds(l []api.Bind) string {
	s := strconv.Itoa(len(l))
	for _, b := range l[:cap(l)] {
		s += b.Name + whole([]api.Term{b.Term})
	}
	return s
}

func wholeGuards(l []api.Guard) string {
	s := strconv.Itoa(len(l))
	for _, g := range l[:cap(l)] {
		s += strconv.Itoa(g.Kind) + whole([]api.Term{g.L, g.R})
	}
	return s
}

// scribble writes into all of a list, and behind it.
func scribble(l []api.Term) {
	for i := range l[:cap(l)] {
		scribble(l[:cap(l)][i].Args)
		l[:cap(l)][i] = api.Term{Kind: 9, Name: "SCRIBBLE", N: 9}
	}
}

func scribbleBinds(l []api.Bind) {
	for i := range l[:cap(l)] {
		scribble(l[:cap(l)][i].Term.Args)
		l[:cap(l)][i] = api.Bind{Name: "SCRIBBLE"}
	}
}

// R2: what is handed in is neither changed nor kept; what is told shares nothing with it, nor with what is told beside it, or another time.
func TestMemory(t *testing.T) {
	k := roomyTerms(terms(t, "f(1) f(a) g(1,b)"))
	l := roomyBinds(binds(t, "A=h(1,i(2)) B=b"))
	for _, s := range []string{"", "known f(X)", "known f(X), known f(Y)", "known f(X), X = 1", "h(1,i(2)) = A, known f(X), unknown g(X,c), g(X,A) = g(X,h(1,i(2)))", "B = b", "unknown f(B)"} {
		g := roomyGuards(guards(t, s))
		all := func() string { return whole(k) + wholeBinds(l) + wholeGuards(g) }
		ahead := all()
		m, e := guard.Holds(k, l, g)
		n, e2 := guard.Holds(k, l, g)
		if e != api.OK || e2 != api.OK || len(m) == 0 || all() != ahead {
			t.Fatalf("%s: %s, %v, %v, %v", s, bindTexts(m), e, e2, all() == ahead)
		}
		was := bindTexts(n)
		for i := range m {
			scribbleBinds(m[i])
		}
		clear(m[:cap(m)])
		if all() != ahead || bindTexts(n) != was {
			t.Errorf("%s: shares what it tells", s)
		}
		for i := range n {
			for j := range n[i] {
				was := bindTexts(n[i+1:]) + bindText(n[i][j+1:])
				scribble(n[i][j].Term.Args)
				if bindTexts(n[i+1:])+bindText(n[i][j+1:]) != was {
					t.Errorf("%s: %d, %d shares with those behind it", s, i, j)
				}
			}
			was := bindTexts(n[i+1:])
			scribbleBinds(n[i])
			if bindTexts(n[i+1:]) != was {
				t.Errorf("%s: %d shares with those behind it", s, i)
			}
		}
	}
}

// R2: Compare changes nothing.
func TestCompareMemory(t *testing.T) {
	for _, s := range []string{"f(1,g(a))", "f(2,g(a))", "1", "a"} {
		a, b := roomy(one(t, "f(1,g(a))")), roomy(one(t, s))
		ahead := whole([]api.Term{a, b})
		for _, kind := range kinds() {
			guard.Compare(kind, a, b)
			guard.Compare(kind, b, a)
		}
		if whole([]api.Term{a, b}) != ahead {
			t.Errorf("%s: changed", s)
		}
	}
}

// R1: what asks for as much as may be ends soon.
func TestMost(t *testing.T) {
	k := rows(10, 50)
	for range 100 {
		m, e := guard.Holds(k, many(10), guards(t, "known f(X), known f(Y), known f(Z), known g(X)"))
		if len(m) != api.MaxMatch || e != api.OK {
			t.Fatalf("%d, %v", len(m), e)
		}
	}
}
