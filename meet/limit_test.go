package meet_test

import (
	"fmt"
	"slices"
	"strings"
	"testing"

	"almagest/api"
	"almagest/meet"
)

// counts holds how many matches both calls tell; -1: ErrLimit, whatever n With is asked for.
func counts(t *testing.T, what string, l []api.Kept, p api.Pattern, want int) {
	t.Helper()
	if want < 0 {
		refused(t, what, 0, l, p, api.ErrLimit)
		return
	}
	if m, e := allOf(t, l, p); len(m) != want || e != api.OK {
		t.Errorf("%s: %d, %v, not %d", what, len(m), e, want)
	}
}

// P13.1: as many as MaxMatch, and one more, of each kind of pattern.
func TestMaxMatch(t *testing.T) {
	// 25 f ahead of 40 g ahead of 7 h; 11 k, 13 m and one n while all that goes on
	l := numbered(points("f", 25, 0), points("g", 40, 100), points("h", 7, 200), points("k", 11, 0), points("m", 13, 100), points("n", 1, 50))
	for _, c := range []struct {
		p    string
		want int
	}{
		{"f(X) & g(Y)", api.MaxMatch},
		{"g(X) & f(Y)", api.MaxMatch},
		{"f(X) ; g(Y)", api.MaxMatch},
		{"g(X) ; f(Y)", 0},
		{"f(X) @before g(Y)", api.MaxMatch},
		{"g(X) @after f(Y)", api.MaxMatch},
		{`f(X) ; \+(z) ; g(Y)`, api.MaxMatch},
		{`f(X) ; \+(n(X)) ; g(Y)`, 960},
		{`f(X) ; \+(n(0)) ; g(Y)`, 0},
		{"h(X) & k(Y)", 77},
		{"h(X) & k(Y) & m(Z)", -1},
		{"m(X) & k(Y) & h(Z)", -1},
		{"k(X) & (h(Y) & m(Z))", -1},
		{"k(X) ; m(Y) ; h(Z)", -1},
		{"k(X) @before (m(Y) @before h(Z))", -1},
		{`k(X) ; \+(z) ; m(Y) ; \+(z) ; h(Z)`, -1},
		{`k(X) ; \+(n(X)) ; m(Y) ; h(Z)`, 10 * 13 * 7},
		{"f(X) & g(Y) | z", api.MaxMatch},
		{"f(X) & g(Y) | n(0)", -1},
		{"n(0) | f(X) & g(Y)", -1},
		{"f(X) & g(Y) | f(X) & g(Y)", api.MaxMatch},
		{"f(X) & g(Y) | f(X) ; g(Y)", api.MaxMatch},
		{"f(X) & g(Y) | f(Y) & g(X)", -1},
		{"f(X) & g(Y) | g(Y) & f(X)", -1},
		{"(f(X) & g(Y)) & n(Z)", api.MaxMatch},
		{"(f(X) & g(Y)) & n(X)", 40},
		{"f(X) & f(Y)", 625},
		{"g(X) & g(Y)", -1},
		{"g(X) & g(X)", 40},
		{"(g(X) | z) & (g(Y) | z)", -1},
		{"g(X) ; g(Y)", 780},
		{"(g(X) ; g(Y)) | f(X) & k(Y)", -1},
		{"(g(X) ; g(Y)) | f(X)", 805},
	} {
		counts(t, c.p, l, pattern(t, c.p), c.want)
	}
}

// P13.1: a part with too many is told of, wherever it stands, also where the whole has fewer, or none.
func TestPartBeyond(t *testing.T) {
	// Just one more than MaxMatch has three factors; beside them, with one fact more or less.
	l := numbered(points("k", 7, 0), points("m", 11, 0), points("n", 13, 0), points("a", 1, 100), points("b", 1, 200))
	for _, c := range []struct {
		part string
		want bool
	}{{"k(X) & m(Y) & n(Z)", false}, {"k(X) & m(Y) & n(Z) | z", false}, {"k(X) & m(Y)", true}, {"k(X) & m(Y) & z", true}} {
		for _, s := range []string{
			"%s",
			"(%s) & z", "z & (%s)", "(%s) ; z", "z ; (%s)", "b(0) ; (%s)", "(%s) @equal z", "z @equal (%s)", "a(9) & (%s)",
			"(%s) & a(X)", "a(X) & (%s)", "(%s) & q(X)", "(%s) ; a(X)", "a(X) ; (%s)", "a(X) @met (%s)",
			`z ; \+(%s) ; z`, `a(0) ; \+(%s) ; b(0)`, `a(0) ; \+(%s) ; z`, `z ; \+(%s) ; b(0)`, `b(0) ; \+(%s) ; a(0)`,
			`(%s) ; \+(z) ; b(9)`, `a(9) ; \+(z) ; (%s)`,
			`a(0) ; \+((%s) ; z) ; b(0)`, `a(0) ; \+(z & (%s)) ; b(0)`, `a(0) ; \+(a(0) ; \+(%s) ; b(0)) ; b(0)`,
			"((%s) & z | a(0)) ; b(0)", "b(0) | z ; (z & (%s))", "a(0) ; (b(0) | z & ((%s) & z))",
		} {
			p := pattern(t, strings.ReplaceAll(s, "%s", c.part))
			if !c.want {
				counts(t, fmt.Sprintf(s, c.part), l, p, -1)
				counts(t, "without facts", nil, p, 0)
				continue
			}
			if _, e := allOf(t, l, p); e != api.OK {
				t.Errorf("%s: %v", fmt.Sprintf(s, c.part), e)
			}
		}
	}
}

// P13.1: 1001 by each order of three factors; without one fact of them fewer.
func TestOneBeyond(t *testing.T) {
	l := numbered(points("k", 7, 0), points("m", 11, 0), points("n", 13, 0))
	for _, s := range []string{"k(X) & m(Y) & n(Z)", "k(X) & n(Y) & m(Z)", "m(X) & k(Y) & n(Z)", "m(X) & n(Y) & k(Z)", "n(X) & k(Y) & m(Z)", "n(X) & m(Y) & k(Z)", "k(X) & (m(Y) & n(Z))", "n(X) & (m(Y) & k(Z))"} {
		p := pattern(t, s)
		counts(t, s, l, p, -1)
		for at, want := range map[int]int{0: 6 * 11 * 13, 7: 7 * 10 * 13, 18: 7 * 11 * 12} {
			counts(t, s, slices.Delete(slices.Clone(l), at, at+1), p, want)
		}
	}
}

// P13.1: what comes twice counts once: with a b more than MaxMatch come, and fewer are.
func TestTwiceCountsOnce(t *testing.T) {
	l := numbered(points("a", 1, 0), kept(t, "b(0) 5 7; b(1) 6 8"), points("c", 280, 100))
	counts(t, "pairs", l, pattern(t, "(a(X) | a(X) ; b(Y)) ; (b(Y) ; c(Z) | c(Z))"), 280*3)
	l = numbered(points("f", 250, 0))
	counts(t, "either", l, pattern(t, "f(X) | f(Y) | f(Z) | f(W)"), 1000)
	counts(t, "either", l, pattern(t, "f(X) | f(Y) | f(Z) | f(W) | f(Z) | f(Y) | f(X)"), 1000)
	counts(t, "either", l, pattern(t, "(f(X) | f(Y) | f(Z)) | (f(Z) | f(Y) | f(W))"), 1000)
	counts(t, "either", l, pattern(t, "f(X) | f(Y) | f(Z) | f(W) | f(V)"), -1)
	counts(t, "either", l, pattern(t, "f(X) | f(Y) | f(Z) | f(W) | f(7)"), -1)
	counts(t, "either", l, pattern(t, "f(X) | f(Y) | f(Z) | f(W) | f(250)"), 1000)
}

// P13.1: with fewer of the Seqs that With asks for the limit is as it is, and just met it tells those alone.
func TestWithAtLimit(t *testing.T) {
	l := numbered(points("f", 25, 0), points("g", 40, 100), points("n", 1, 50))
	p := pattern(t, "f(X) & g(Y)")
	for _, c := range []struct{ n, want int }{{-1, 1000}, {24, 1000}, {25, 1000}, {26, 975}, {63, 50}, {64, 25}, {65, 0}, {1 << 40, 0}} {
		m, e := meet.With(l, p, c.n)
		if len(m) != c.want || e != api.OK {
			t.Errorf("%d: %d, %v", c.n, len(m), e)
		}
	}
	counts(t, "one more", l, pattern(t, "f(X) & g(Y) | n(X)"), -1)
}

// grid are so many facts at each time, f(0,0), f(0,1) and on, with n kinds of values of the first argument.
func grid(name string, n, m int, at int) []api.Kept {
	var l []api.Kept
	for i := range n {
		for k := range m {
			l = append(l, api.Kept{Fact: api.Fact{Term: named(name, num(i), num(k)), Span: api.Span{From: at, To: at}}})
		}
	}
	return l
}

// P13.1: what joined would be more than MaxBinds is none, by whichever kind, and a term of more variables has none.
func TestMaxBinds(t *testing.T) {
	facts := "v(1,2,3,4) 1; w(1) 2; h(g(1,2,3,4),g(1,2,3,4),g(1,2,3,4),g(1,2,3,4)) 3; h(g(1,2,3,4),g(1,2,3,4),g(1,2,3,4),g(1,2,3,k(4,4))) 4; c(1) 3; v(5,6,7,8) 5; w(1) 6; u(1,2,3,4) 5"
	for _, c := range []struct {
		p string
		// how many there are, with how many binds
		want, binds int
	}{
		{"v(A,B,C,D)", 2, 4},
		{"v(A,B,C,D) & v(E,F,G,H)", 4, 8},
		{"v(A,B,C,D) & v(E,F,G,H) & v(I,J,K,L) & v(M,N,O,P)", 16, 16},
		{"(v(A,B,C,D) & v(E,F,G,H)) & (v(I,J,K,L) & v(M,N,O,P))", 16, 16},
		{"v(A,B,C,D) & v(E,F,G,H) & v(I,J,K,L) & v(M,N,O,P) & w(Q)", 0, 0},
		{"v(A,B,C,D) & v(E,F,G,H) & v(I,J,K,L) & v(M,N,O,P) & w(A)", 16, 16},
		{"w(Q) & v(A,B,C,D) & v(E,F,G,H) & v(I,J,K,L) & v(M,N,O,P)", 0, 0},
		{"w(M) & v(A,B,C,D) & v(E,F,G,H) & v(I,J,K,L) & v(M,N,O,P)", 16, 16},
		{"h(g(A,B,C,D),g(E,F,G,H),g(I,J,K,L),g(M,N,O,P))", 2, 16},
		{"h(g(A,B,C,D),g(E,F,G,H),g(I,J,K,L),g(M,N,O,k(P,Q)))", 0, 0},
		{"h(g(A,B,C,D),g(E,F,G,H),g(I,J,K,L),g(M,N,O,k(P,P)))", 1, 16},
		{"h(g(A,B,C,D),g(E,F,G,H),g(I,J,K,L),g(M,N,O,k(P,Q))) | w(A)", 2, 1},
		{"h(g(A,B,C,D),g(E,F,G,H),g(I,J,K,L),g(M,N,O,P)) & w(A)", 4, 16},
		{"h(g(A,B,C,D),g(E,F,G,H),g(I,J,K,L),g(M,N,O,P)) & w(Z)", 0, 0},
		{"h(g(A,B,C,D),g(E,F,G,H),g(I,J,K,L),g(M,N,O,P)) ; w(A)", 2, 16},
		{"h(g(A,B,C,D),g(E,F,G,H),g(I,J,K,L),g(M,N,O,P)) ; w(Z)", 0, 0},
		{"h(g(A,B,C,D),g(E,F,G,H),g(I,J,K,L),g(M,N,O,P)) @before w(A)", 2, 16},
		{"h(g(A,B,C,D),g(E,F,G,H),g(I,J,K,L),g(M,N,O,P)) @before w(Z)", 0, 0},
		{`h(g(A,B,C,D),g(E,F,G,H),g(I,J,K,L),g(M,N,O,P)) ; \+(z) ; w(A)`, 2, 16},
		{`h(g(A,B,C,D),g(E,F,G,H),g(I,J,K,L),g(M,N,O,P)) ; \+(z) ; w(Z)`, 0, 0},
		{"h(g(A,B,C,D),g(E,F,G,H),g(I,J,K,L),g(M,N,O,P)) | w(Z)", 4, -1},
		// what must not be between joins with both, or not: c is between v and w
		{`v(A,B,C,D) ; \+(c(A)) ; w(Z)`, 2, 5},
		{`v(A,B,C,D) ; \+(c(E)) ; w(Z)`, 2, 5},
		{`h(g(A,B,C,D),g(E,F,G,H),g(I,J,K,L),g(M,N,O,P)) ; \+(v(5,6,7,8)) ; w(A)`, 0, 0},
		{`h(g(A,B,C,D),g(E,F,G,H),g(I,J,K,L),g(M,N,O,P)) ; \+(u(A,B,C,D)) ; w(A)`, 0, 0},
		{`h(g(A,B,C,D),g(E,F,G,H),g(I,J,K,L),g(M,N,O,P)) ; \+(u(A,B,C,P)) ; w(A)`, 1, 16},
		{`h(g(A,B,C,D),g(E,F,G,H),g(I,J,K,L),g(M,N,O,P)) ; \+(u(M,J,G,P)) ; w(A)`, 1, 16},
		{`h(g(A,B,C,D),g(E,F,G,H),g(I,J,K,L),g(M,N,O,P)) ; \+(u(A,B,C,Q)) ; w(A)`, 2, 16},
		{`h(g(A,B,C,D),g(E,F,G,H),g(I,J,K,L),g(M,N,O,P)) ; \+(u(A,B,C,E)) ; w(A)`, 2, 16},
		{`h(g(A,B,C,D),g(E,F,G,H),g(I,J,K,L),g(M,N,O,4)) ; \+(u(A,B,C,Q)) ; w(A)`, 0, 0},
		{`h(g(A,B,C,D),g(E,F,G,H),g(I,J,K,L),g(M,N,O,4)) ; \+(u(A,B,R,Q)) ; w(A)`, 1, 15},
	} {
		m, e := allOf(t, kept(t, facts), pattern(t, c.p))
		if len(m) != c.want || e != api.OK {
			t.Errorf("%s: %s, %v", c.p, matchTexts(m), e)
		}
		for _, x := range m {
			if c.binds >= 0 && len(x.Binds) != c.binds {
				t.Errorf("%s: %s", c.p, matchText(x))
			}
		}
	}
}

// P13.1: what must not be between joins with both where all three together are no more than MaxBinds.
func TestMaxBindsOfThree(t *testing.T) {
	facts := "p(1,2,3,4) 1; q(1,2,3,4) 1; c(1) 5; d(2,2) 5; r(1,2,3,4) 9; s(1,2,3,4) 9"
	eight, fifteen, sixteen := "A=1 B=2 C=3 D=4 E=1 F=2 G=3 H=4", " I=1 J=2 K=3 L=4 N=2 O=3 P=4", " I=1 J=2 K=3 L=4 M=1 N=2 O=3 P=4"
	for _, c := range []struct{ c, s, want string }{
		{"z", "s(A,N,O,P)", eight + fifteen},
		{"z", "s(M,N,O,P)", eight + sixteen},
		{"c(Q)", "s(A,N,O,P)", ""},
		{"c(Q)", "s(M,N,O,P)", eight + sixteen},
		{"c(Q) | z", "s(M,N,O,P)", eight + sixteen},
		{"c(Q) | c(1)", "s(M,N,O,P)", ""},
		{"c(Q) | c(A)", "s(M,N,O,P)", ""},
		{"c(Q) | c(B)", "s(M,N,O,P)", eight + sixteen},
		{"c(A)", "s(M,N,O,P)", ""},
		{"c(M)", "s(M,N,O,P)", ""},
		{"c(H)", "s(M,N,O,P)", eight + sixteen},
		{"c(P)", "s(M,N,O,P)", eight + sixteen},
		{"d(Q,R)", "s(A,N,O,P)", eight + fifteen},
		{"d(Q,Q)", "s(A,N,O,P)", ""},
		{"d(Q,B)", "s(A,N,O,P)", ""},
		{"d(Q,N)", "s(A,N,O,P)", ""},
		{"d(Q,C)", "s(A,N,O,P)", eight + fifteen},
		{"d(Q,B)", "s(M,N,O,P)", eight + sixteen},
		{"d(N,B)", "s(M,N,O,P)", ""},
		{"d(2,B)", "s(M,N,O,P)", ""},
		{"d(N,A)", "s(M,N,O,P)", eight + sixteen},
	} {
		want := ""
		if c.want != "" {
			want = "0,1,4,5 1..9 " + c.want
		}
		meets(t, facts, `(p(A,B,C,D) & q(E,F,G,H)) ; \+(`+c.c+`) ; (r(I,J,K,L) & `+c.s+`)`, want)
	}
}

// P13.1: as many terms as variables of so many facts may stand for, each told as it is, and joined with itself alone.
func TestMostTerms(t *testing.T) {
	var l []api.Kept
	for i := range api.MaxFacts {
		n := func(k int) api.Term { return num(18*i + k) }
		four := func(k int) api.Term { return named("g", n(k), n(k+1), n(k+2), n(k+3)) }
		x := named("f", four(0), four(4), four(8), named("g", n(12), n(13), n(14), named("h", n(15), n(16), n(17))))
		l = append(l, api.Kept{Seq: i, Fact: api.Fact{Term: x, Span: api.Span{From: i, To: i}}})
	}
	m, e := allOf(t, l, pattern(t, "f(A,B,C,D) & f(E,F,G,D)"))
	if len(m) != api.MaxFacts || e != api.OK {
		t.Fatalf("%d, %v", len(m), e)
	}
	for i, x := range m {
		var names, terms string
		for _, b := range x.Binds {
			names += b.Name
			terms += text(b.Term)
		}
		args := l[i].Fact.Term.Args
		first := text(args[0]) + text(args[1]) + text(args[2])
		if names != "ABCDEFG" || terms != first+text(args[3])+first || !slices.Equal(x.Used, []int{i, i}) {
			t.Errorf("%d: %s", i, matchText(x))
		}
	}
}

// P13.1: as many variables as a pattern may have, each told by its name.
func TestMostNames(t *testing.T) {
	l := kept(t, "h(g(1,2,3,4),g(5,6,7,8),g(9,10,11,12),g(13,14,15,16)) 1")
	var want []string
	var parts []api.Pattern
	for i := range api.MaxParts {
		var groups []api.Term
		binds := "0 1..1"
		for k := range 4 {
			var args []api.Term
			for j := range 4 {
				name := fmt.Sprintf("%c%c", 'A'+i, 'a'+4*k+j)
				args = append(args, aVar(name))
				binds += fmt.Sprintf(" %s=%d", name, 4*k+j+1)
			}
			groups = append(groups, named("g", args...))
		}
		parts = append(parts, leaf("h", groups...))
		want = append(want, binds)
	}
	for len(parts) > 1 {
		parts = append(parts[2:], two(api.PatOr, parts[1], parts[0]))
	}
	m, e := allOf(t, l, parts[0])
	if matchTexts(m) != strings.Join(want, "; ") || e != api.OK {
		t.Errorf("%s, %v", matchTexts(m), e)
	}
	// terms with more variables than may be bound have names, too
	p := two(api.PatOr, pattern(t, "h(g(Z,Y,X,W),g(V,U,T,S),g(R,Q,P,O),g(N,M,L,k(K,J,I)))"), pattern(t, "h(A,B,C,Z)"))
	m, e = allOf(t, l, p)
	if matchTexts(m) != "0 1..1 A=g(1,2,3,4) B=g(5,6,7,8) C=g(9,10,11,12) Z=g(13,14,15,16)" || e != api.OK {
		t.Errorf("%s, %v", matchTexts(m), e)
	}
}

// R1: what asks for as much as may be ends soon, though a million pairs are held against a thousand that must not be between, and only one of these joins.
func TestMost(t *testing.T) {
	l := numbered(points("k", 31, -50), points("m", 32, -50), points("p", 31, 0), points("q", 32, 0))
	for i := range l {
		l[i].Fact.Span = api.Span{From: i / 63 * 10, To: i / 63 * 10}
	}
	r := shifted(numbered(points("r", 31, 50), points("s", 32, 50)), len(l))
	for i := range r {
		r[i].Fact.Span = api.Span{From: 50, To: 50}
	}
	l = append(l, r...)
	counts(t, "all blocked", l, pattern(t, `(k(A) & m(B)) ; \+(p(Y) & q(Z)) ; (r(Y) & s(Z))`), 0)
	counts(t, "blocked by others", l, pattern(t, `(k(A) & m(B)) ; \+(p(A) & q(Z)) ; (r(Y) & s(Z))`), 0)
	// one fact less between: what it would have joined with is left
	gone := slices.Delete(slices.Clone(l), 63+31+31, 63+31+32)
	counts(t, "one left", gone, pattern(t, `(k(0) & m(B)) ; \+(p(Y) & q(Z)) ; (r(Y) & s(Z))`), 32*31)
	counts(t, "too many left", gone, pattern(t, `(k(A) & m(B)) ; \+(p(Y) & q(Z)) ; (r(Y) & s(Z))`), -1)
	// each fact of as many as may be, by as many terms as may be
	all := numbered(grid("f", 15, 20, 0))
	counts(t, "none alike", all, pattern(t, "(f(A,A) & f(B,C) & f(D,D)) & (f(A,B) & f(C,A) & f(D,E) & f(E,A)) | f(X,Y)"), -1)
	counts(t, "many none", all, pattern(t, `(f(0,A) | f(1,A) | f(2,A)) ; \+(f(X,Y) | f(Y,X) | f(X,X)) ; (f(3,A) | f(4,A) | f(5,A))`), 0)
}
