package guard_test

import (
	"fmt"
	"slices"
	"testing"

	"almagest/api"
)

// rows are so many atoms f(0) .., as they rise, then so many g(0) ...
func rows(n, m int) []api.Term {
	var l []api.Term
	for i := range n {
		l = append(l, named("f", num(i)))
	}
	for i := range m {
		l = append(l, named("g", num(i)))
	}
	return l
}

// P12.2: as many as MaxMatch behind one guard, and one more; also where a guard behind it would leave fewer.
func TestMaxMatch(t *testing.T) {
	for _, c := range []struct {
		f, g   int
		guards string
		want   int // -1: ErrLimit
	}{
		{20, 40, "known f(X), known g(Y)", 800},
		{25, 35, "known f(X), known g(Y)", 875},
		{30, 30, "known f(X), known g(Y)", 900},
		{33, 27, "known f(X), known f(Y)", -1},
		{31, 29, "known f(X), known f(Y)", 961},
		{32, 28, "known f(X), known f(Y)", -1},
		{10, 50, "known f(X), known f(Y), known f(Z)", api.MaxMatch},
		{10, 50, "known f(X), known f(Y), known f(Z), 0 =< Z", api.MaxMatch},
		{10, 50, "known f(X), known f(Y), known f(Z), known f(X)", api.MaxMatch},
		{10, 50, "known f(X), known f(Y), known f(Z), Z < X", 450},
		{10, 50, "known f(X), known f(Y), known f(Z), unknown f(Z)", 0},
		{10, 50, "known f(X), known f(Y), known f(Z), known f(W)", -1},
		{11, 49, "known f(X), known f(Y), known f(Z)", -1},
		{11, 49, "known f(X), known f(Y), known f(Z), Z < 1", -1},
		{11, 49, "known f(X), known f(Y), known f(Z), 2 < 1", -1},
		{11, 49, "known f(X), known f(Y), known f(Z), unknown f(Z)", -1},
		{11, 49, "known f(X), known f(Y), known f(Z), known h", -1},
		{11, 49, "known f(X), known f(Y), Y < 1, known f(Z)", 121},
		{20, 40, "known f(X), known f(Y), known g(X), known g(Y)", 400},
		{20, 40, "known f(X), known f(Y), known g(Z), Z < 0", -1},
		{20, 40, "known g(X), X < 25, known g(Y), Y =< X", 325},
		{20, 40, "known g(X), X < 25, known g(Y)", api.MaxMatch},
		{20, 40, "known g(X), X < 26, known g(Y)", -1},
		{20, 40, "known g(X), X < 26, known g(Y), X = Y", -1},
		{20, 40, "known g(X), known g(Y)", -1},
		{20, 40, "known g(X), known g(Y), 2 < 1", -1},
		{20, 40, "2 < 1, known g(X), known g(Y)", 0},
		{20, 40, "known h(X), known g(X), known g(Y)", 0},
		{20, 40, "X = 1, known g(X), known g(Y), known g(Z)", 0},
		{20, 40, "known g(X), X = 1, known g(Y), known f(X)", 40},
	} {
		m, e := holdsOf(t, rows(c.f, c.g), nil, guards(t, c.guards))
		if c.want < 0 {
			if m != nil || e != api.ErrLimit {
				t.Errorf("%d, %d, %s: %d, %v", c.f, c.g, c.guards, len(m), e)
			}
			continue
		}
		if len(m) != c.want || e != api.OK {
			t.Errorf("%d, %d, %s: %d, %v, not %d", c.f, c.g, c.guards, len(m), e, c.want)
		}
	}
}

// P12.2: just one more than MaxMatch, which has three factors: by each order of three guards, as many as 7, 11 and 13.
func TestOneBeyond(t *testing.T) {
	k := rows(7, 11)
	for i := range 13 {
		k = append(k, named("h", num(i)))
	}
	of := guards(t, "known f(X), known g(Y), known h(Z)")
	for _, by := range [][]int{{0, 1, 2}, {0, 2, 1}, {1, 0, 2}, {1, 2, 0}, {2, 0, 1}, {2, 1, 0}} {
		g := []api.Guard{of[by[0]], of[by[1]], of[by[2]]}
		if m, e := holdsOf(t, k, nil, g); m != nil || e != api.ErrLimit {
			t.Errorf("%v: %d, %v", by, len(m), e)
		}
		for _, behind := range []string{"X < 0", "unknown f(X)", "known i", "A = B"} {
			if m, e := holdsOf(t, k, nil, append(g[:3:3], guards(t, behind)...)); m != nil || e != api.ErrLimit {
				t.Errorf("%v, %s: %d, %v", by, behind, len(m), e)
			}
		}
		// Without one atom of them there are fewer.
		for at, want := range map[int]int{0: 6 * 11 * 13, 7: 7 * 10 * 13, 18: 7 * 11 * 12} {
			m, e := holdsOf(t, slices.Delete(slices.Clone(k), at, at+1), nil, g)
			if len(m) != want || e != api.OK {
				t.Errorf("%v, %d: %d, %v", by, at, len(m), e)
			}
		}
	}
}

// P12.2: what joined would be more than MaxBinds is left out, by whichever guard.
func TestMaxBinds(t *testing.T) {
	k := terms(t, "f(1) f(2) g(1,2) h(1,2,3,4)")
	l := many(api.MaxBinds)
	for _, c := range []struct {
		n int
		g string
		// how many are left, with how many binds
		want, binds int
	}{
		{15, "known f(X)", 2, 16},
		{16, "known f(X)", 0, 0},
		{16, "known f(1)", 1, 16},
		{16, "known f(V01)", 1, 16},
		{16, "known f(V02), known f(V01)", 1, 16},
		{16, "known f(V03)", 0, 0},
		{16, "known f(V01), known f(X)", 0, 0},
		{16, "unknown f(V03)", 1, 16},
		{16, "known g(V01,V02)", 1, 16},
		{16, "known g(V01,X)", 0, 0},
		{15, "known g(V01,X)", 1, 16},
		{15, "known g(Y,X)", 0, 0},
		{14, "known g(Y,X)", 1, 16},
		{14, "known g(Y,X), known f(Y)", 1, 16},
		{14, "known g(Y,X), known f(Z)", 0, 0},
		{13, "known g(Y,X), known f(Z)", 2, 16},
		{12, "known h(A,B,C,D)", 1, 16},
		{13, "known h(A,B,C,D)", 0, 0},
		{13, "known h(V01,B,C,D)", 1, 16},
		{12, "known h(A,B,C,D), known f(E)", 0, 0},
		{11, "known h(A,B,C,D), known f(E)", 2, 16},
		{0, "known h(A,B,C,D), known h(E,F,G,H), known h(I,J,K,L), known h(M,N,O,P)", 1, 16},
		{1, "known h(A,B,C,D), known h(E,F,G,H), known h(I,J,K,L), known h(M,N,O,P)", 0, 0},
		{4, "known h(A,B,C,D), known h(E,F,G,H), known h(I,J,K,L), known h(I,J,K,L)", 1, 16},
		{16, "known f(X), known f(Y), known h(A,B,C,D), known h(E,F,G,H)", 0, 0},
		{16, "known f(X), known h(A,B,C,D), X < 2, unknown f(D)", 0, 0},
		{16, "known h(A,B,C,D), known h(E,F,G,H), A < D, D = H", 0, 0},
	} {
		m, e := holdsOf(t, k, l[:c.n], guards(t, c.g))
		if len(m) != c.want || e != api.OK {
			t.Errorf("%d, %s: %s, %v", c.n, c.g, bindTexts(m), e)
		}
		for _, x := range m {
			if len(x) != c.binds {
				t.Errorf("%d, %s: %s", c.n, c.g, bindTexts(m))
			}
		}
	}
}

// P12.2: a term that by the binds would be too deep, or too great, is none: what asks for it does not hold.
func TestTooGreat(t *testing.T) {
	most := deep(api.MaxDepth, num(1))
	four := named("g", list(4, num(1))...)
	l := []api.Bind{{Name: "A", Term: most}, {Name: "B", Term: most.Args[0]}, {Name: "C", Term: four}, {Name: "D", Term: named("f", four, four)}}
	k := terms(t, "f(1) g(2)")
	sides := []struct {
		x    api.Term
		fits bool
	}{
		{aVar("A"), true}, {named("f", aVar("A")), false}, {named("f", aVar("B")), true}, {named("f", named("f", aVar("B"))), false}, {named("f", num(1), named("g", aVar("B"))), false},
		{named("f", aVar("C"), aVar("C"), aVar("C"), aVar("C")), true}, {named("f", aVar("D"), aVar("D")), true}, {named("f", aVar("D"), aVar("D"), num(1)), true}, {named("f", aVar("D"), aVar("D"), num(1), num(1)), false}, {named("f", aVar("D"), aVar("D"), named("g", num(1))), false}, {named("f", aVar("D"), aVar("D"), aVar("D")), false},
	}
	for i, c := range sides {
		for _, x := range []api.Guard{{Kind: api.GuardOther, L: c.x, R: num(0)}, {Kind: api.GuardOther, L: num(0), R: c.x}, {Kind: api.GuardSame, L: c.x, R: c.x}} {
			for _, g := range [][]api.Guard{{x}, {guards(t, "known f(X)")[0], x}, {x, guards(t, "known f(X)")[0]}} {
				m, e := holdsOf(t, k, l, g)
				if e != api.OK || len(m) == 1 != c.fits || len(m) > 1 {
					t.Errorf("%d: %s, %v", i, bindTexts(m), e)
				}
			}
		}
	}
	for _, c := range []struct {
		g    string
		want int
	}{{"known f(A)", 0}, {"known f(B)", 0}, {"unknown f(A)", 0}, {"unknown f(B)", 1}, {"unknown f(C,C,C,C)", 1}, {"unknown f(D,D,1)", 1}, {"unknown f(D,D,1,1)", 0}, {"unknown f(D,D,D)", 0}, {"known f(D,D,D)", 0}, {"known f(X), unknown h(D,D,X)", 1}, {"known f(X), unknown h(D,D,X,X)", 0}, {"known f(X), unknown h(A,X)", 0}} {
		m, e := holdsOf(t, k, l, guards(t, c.g))
		if len(m) != c.want || e != api.OK {
			t.Errorf("%s: %s, %v", c.g, bindTexts(m), e)
		}
	}
}

// P12.2: of as many atoms as may be all are asked, in their order.
func TestMaxKnown(t *testing.T) {
	k := numbers(api.MaxKnown)
	m, e := holdsOf(t, k, nil, guards(t, "known m(X)"))
	if len(m) != api.MaxKnown || e != api.OK {
		t.Fatalf("%s, %v", bindTexts(m), e)
	}
	for i, x := range m {
		if bindText(x) != fmt.Sprintf("X=%d", i) {
			t.Errorf("%d: %s", i, bindText(x))
		}
	}
	for i := range api.MaxKnown + 2 {
		l := []api.Bind{{Name: "X", Term: num(i)}}
		for g, in := range map[string]bool{"known m(X)": true, "unknown m(X)": false} {
			m, e := holdsOf(t, k, l, guards(t, g))
			if e != api.OK || len(m) == 1 != (i < api.MaxKnown == in) {
				t.Errorf("%d, %s: %s, %v", i, g, bindTexts(m), e)
			}
		}
	}
}
