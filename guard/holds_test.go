package guard_test

import (
	"slices"
	"strings"
	"testing"

	"almagest/api"
	"almagest/bind"
	"almagest/guard"
)

// P12.2: comparisons, alone and behind others: so, not so, not ground, without an answer.
func TestComparisons(t *testing.T) {
	for _, c := range []struct{ l, g, want string }{
		{"", "1 < 2", "-"},
		{"", "2 < 1", ""},
		{"", "1 < 1", ""},
		{"", "1 =< 1", "-"},
		{"", "1 =< 2", "-"},
		{"", "2 =< 1", ""},
		{"", "a = a", "-"},
		{"", "a = b", ""},
		{"", `a \= b`, "-"},
		{"", `a \= a`, ""},
		{"X=1", "X < 2", "X=1"},
		{"X=1", "X < 1", ""},
		{"X=1", "0 < X", "X=1"},
		{"X=1", "1 < X", ""},
		{"X=1", "X =< X", "X=1"},
		{"X=1", "X < X", ""},
		{"X=1", "X = 1", "X=1"},
		{"X=1", `X \= 1`, ""},
		{"X=1", "X = 2", ""},
		{"X=1", `X \= 2`, "X=1"},
		{"X=1 Y=2", "X < Y", "X=1 Y=2"},
		{"X=1 Y=2", "Y < X", ""},
		{"X=1 Y=2", "X = Y", ""},
		{"X=1 Y=2", `X \= Y`, "X=1 Y=2"},
		{"X=a Y=b", `X \= Y`, "X=a Y=b"},
		{"X=1 Y=1", "X = Y", "X=1 Y=1"},
		{"X=1", "f(X) = f(1)", "X=1"},
		{"X=1", "f(X,X) = f(1,2)", ""},
		{"X=1", `f(X,g(X)) \= f(1,g(2))`, "X=1"},
		{"X=f(1)", "X = f(1)", "X=f(1)"},
		{"X=f(1)", "g(X) = g(f(1))", "X=f(1)"},
		{"X=f(1)", `X \= f(1)`, ""},
		{"X=f(1) Y=1", "X = f(Y)", "X=f(1) Y=1"},
		{"X=f(1) Y=2", "X = f(Y)", ""},
		{"X=f(1) Y=2", `f(Y) \= X`, "X=f(1) Y=2"},
		{"X=f(1) Y=f(1)", "X = Y", "X=f(1) Y=f(1)"},
		// Without an answer.
		{"", "a < 1", ""},
		{"", "1 < a", ""},
		{"", "a < b", ""},
		{"", "a =< a", ""},
		{"X=a", "X < 1", ""},
		{"X=a", "X =< X", ""},
		{"X=f(1)", "X < 2", ""},
		{"X=1", "f(X) < f(2)", ""},
		{"X=1", "f(X) =< f(X)", ""},
		// Not ground.
		{"", "X = X", ""},
		{"", "X =< X", ""},
		{"", "X = 1", ""},
		{"", "1 = X", ""},
		{"", "X < 1", ""},
		{"", "1 < X", ""},
		{"", `X \= 1`, ""},
		{"", `1 \= X`, ""},
		{"", `X \= Y`, ""},
		{"", `f(X) \= a`, ""},
		{"", `a \= f(1,X)`, ""},
		{"", `a \= f(1,g(h(X)))`, ""},
		{"X=1", `f(X,Y) \= a`, ""},
		{"X=1", `a \= f(Y,X)`, ""},
		{"X=1", `X \= Y`, ""},
		{"X=1", `Y \= X`, ""},
		{"X=1", "X < Y", ""},
		{"X=1", "Y =< X", ""},
		// One behind the other: all of them.
		{"X=1", "X < 2, 0 < X", "X=1"},
		{"X=1", "X < 2, 1 < X", ""},
		{"X=1", "1 < X, X < 2", ""},
		{"X=1 Y=a", `X < 2, X =< 1, Y = a, Y \= b`, "X=1 Y=a"},
		{"X=1 Y=a", `X < 2, X =< 1, Y = a, Y \= a`, ""},
		{"X=1 Y=a", `X < 2, X =< 1, Y = b, Y \= b`, ""},
		{"X=1 Y=a", `X < 2, X =< 0, Y = a, Y \= b`, ""},
		{"X=1 Y=a", `X < 1, X =< 1, Y = a, Y \= b`, ""},
	} {
		holds(t, "", c.l, c.g, c.want)
		holds(t, "a f(1) f(2)", c.l, c.g, c.want)
	}
}

// P12.2: known, alone: each way in which an atom can be one of those there, in their order.
func TestKnown(t *testing.T) {
	for _, c := range []struct{ k, l, g, want string }{
		{"", "", "known a", ""},
		{"", "X=1", "known f(X)", ""},
		{"a", "", "known a", "-"},
		{"a", "", "known b", ""},
		{"a", "X=1 Y=f(2)", "known a", "X=1 Y=f(2)"},
		{"a b c", "", "known b", "-"},
		{"f(1)", "", "known f(1)", "-"},
		{"f(1)", "", "known f(2)", ""},
		{"f(1)", "", "known f", ""},
		{"f(1)", "", "known f(1,1)", ""},
		// By one variable, by several, by one that stands twice.
		{"f(1)", "", "known f(X)", "X=1"},
		{"f(1) f(2) f(a)", "", "known f(X)", "X=1; X=2; X=a"},
		{"f(1) f(2) f(a)", "", "known g(X)", ""},
		{"f(1) f(2) f(a)", "", "known f(X,Y)", ""},
		{"a f(1) f(2) f(a) g(3) f(1,2)", "", "known f(X)", "X=1; X=2; X=a"},
		{"e(1,2) e(1,3) e(2,1)", "", "known e(X,Y)", "X=1 Y=2; X=1 Y=3; X=2 Y=1"},
		{"e(1,2) e(1,3) e(2,1)", "", "known e(Y,X)", "X=2 Y=1; X=3 Y=1; X=1 Y=2"},
		{"e(1,2) e(1,3) e(2,1)", "", "known e(1,X)", "X=2; X=3"},
		{"e(1,2) e(1,3) e(2,1)", "", "known e(X,1)", "X=2"},
		{"e(1,1) e(1,2) e(2,2)", "", "known e(X,X)", "X=1; X=2"},
		{"e(1,2) e(2,1)", "", "known e(X,X)", ""},
		{"p(1,2,1,3) p(1,2,2,3) p(2,2,2,2)", "", "known p(X,Y,X,Z)", "X=1 Y=2 Z=3; X=2 Y=2 Z=2"},
		{"p(1,2,1,3) p(1,2,2,3) p(2,2,2,2)", "", "known p(X,X,X,X)", "X=2"},
		{"p(1,2,1,3) p(1,2,2,3) p(2,2,2,2)", "", "known p(D,C,B,A)", "A=3 B=1 C=2 D=1; A=3 B=2 C=2 D=1; A=2 B=2 C=2 D=2"},
		// By what binds say.
		{"f(1) f(2)", "X=1", "known f(X)", "X=1"},
		{"f(1) f(2)", "X=2", "known f(X)", "X=2"},
		{"f(1) f(2)", "X=3", "known f(X)", ""},
		{"f(1) f(2)", "X=a", "known f(X)", ""},
		{"f(1) f(2)", "X=9", "known f(Y)", "X=9 Y=1; X=9 Y=2"},
		{"f(1) f(2)", "Y=9", "known f(X)", "X=1 Y=9; X=2 Y=9"},
		{"f(1) f(2)", "A=f(f(3)) C=b", "known f(B)", "A=f(f(3)) B=1 C=b; A=f(f(3)) B=2 C=b"},
		{"e(1,2) e(1,3) e(2,1)", "X=1", "known e(X,Y)", "X=1 Y=2; X=1 Y=3"},
		{"e(1,2) e(1,3) e(2,1)", "Y=1", "known e(X,Y)", "X=2 Y=1"},
		{"e(1,2) e(1,3) e(2,1)", "X=1 Y=3", "known e(X,Y)", "X=1 Y=3"},
		{"e(1,2) e(1,3) e(2,1)", "X=2 Y=2", "known e(X,Y)", ""},
		{"e(1,2) e(1,3) e(2,1)", "X=1 Z=1", "known e(X,Y)", "X=1 Y=2 Z=1; X=1 Y=3 Z=1"},
		{"e(1,2) e(1,3) e(2,1) e(2,2)", "X=2", "known e(X,X)", "X=2"},
		// No atom by the binds.
		{"f(1) f(g)", "X=g(1)", "known f(X)", ""},
		{"f(1) f(g)", "X=f(1)", "known f(X)", ""},
		{"e(1,2) e(1,3)", "X=g(1)", "known e(Y,X)", ""},
		{"e(1,2) e(1,3)", "X=g(1)", "known e(1,2)", "X=g(1)"},
	} {
		holds(t, c.k, c.l, c.g, c.want)
	}
}

// P12.2: unknown, alone: not among the atoms, and ground.
func TestUnknown(t *testing.T) {
	for _, c := range []struct{ k, l, g, want string }{
		{"", "", "unknown a", "-"},
		{"a", "", "unknown a", ""},
		{"b", "", "unknown a", "-"},
		{"a b c", "", "unknown b", ""},
		{"a b c", "", "unknown c", ""},
		{"a b c", "X=1", "unknown d", "X=1"},
		{"f(1)", "", "unknown f(1)", ""},
		{"f(1)", "", "unknown f(2)", "-"},
		{"f(1)", "", "unknown f(a)", "-"},
		{"f(1)", "", "unknown f", "-"},
		{"f(1)", "", "unknown g(1)", "-"},
		{"f(1)", "", "unknown f(1,1)", "-"},
		{"f(0)", "", "unknown f", "-"},
		{"f", "", "unknown f(0)", "-"},
		{"f(1,2,3,4)", "", "unknown f(1,2,3,4)", ""},
		{"f(1,2,3,4)", "", "unknown f(1,2,3,5)", "-"},
		{"f(1,2,3,4)", "", "unknown f(0,2,3,4)", "-"},
		{"f(1,2,3,4)", "", "unknown f(1,2,3)", "-"},
		{"f(1) f(2)", "X=1", "unknown f(X)", ""},
		{"f(1) f(2)", "X=2", "unknown f(X)", ""},
		{"f(1) f(2)", "X=3", "unknown f(X)", "X=3"},
		{"e(1,2) e(2,1)", "X=1 Y=2", "unknown e(X,Y)", ""},
		{"e(1,2) e(2,1)", "X=1 Y=2", "unknown e(Y,X)", ""},
		{"e(1,2) e(2,1)", "X=1 Y=2", "unknown e(X,X)", "X=1 Y=2"},
		{"e(1,2) e(2,1)", "X=1 Y=2", "unknown e(X,1)", "X=1 Y=2"},
		{"e(1,2) e(2,1)", "X=1 Y=2", "unknown e(X,2)", ""},
		// Not ground, whatever there is.
		{"", "", "unknown f(X)", ""},
		{"f(1)", "", "unknown f(X)", ""},
		{"g(1)", "", "unknown f(X)", ""},
		{"f(1)", "X=1", "unknown f(Y)", ""},
		{"f(1)", "X=2", "unknown e(X,Y)", ""},
		{"f(1)", "X=2", "unknown e(Y,X)", ""},
		{"f(1)", "X=g(1)", "unknown e(X,Y)", ""},
		// Ground, and no atom: none of the atoms, whatever its parts are like.
		{"f(1) f(g)", "X=g(1)", "unknown f(X)", "X=g(1)"},
		{"", "X=g(h(i))", "unknown f(X)", "X=g(h(i))"},
		{"f(g,1) f(g,a)", "X=g(1)", "unknown f(X)", "X=g(1)"},
		{"f(g,1) f(g,a)", "X=g(1) Y=1", "unknown f(X,Y)", "X=g(1) Y=1"},
		{"f(1,2,3,g)", "X=g(1)", "unknown f(1,2,3,X)", "X=g(1)"},
		{"f(g,1,2,3)", "X=g(1,2,3)", "unknown f(X,1,2,3)", "X=g(1,2,3)"},
	} {
		holds(t, c.k, c.l, c.g, c.want)
	}
}

// P12.2: several guards, in each order: each by what those ahead of it have bound.
func TestBehindEachOther(t *testing.T) {
	for _, c := range []struct{ k, l, g, want string }{
		{"f(1) f(2) f(3)", "", "known f(X), 1 < X", "X=2; X=3"},
		{"f(1) f(2) f(3)", "", "1 < X, known f(X)", ""},
		{"f(1) f(2) f(3)", "Y=2", "known f(X), X < Y", "X=1 Y=2"},
		{"f(1) f(2) f(3)", "Y=2", "known f(X), X =< Y", "X=1 Y=2; X=2 Y=2"},
		{"f(1) f(2) f(3)", "Y=2", "known f(X), Y =< X", "X=2 Y=2; X=3 Y=2"},
		{"f(1) f(2) f(3)", "Y=2", "known f(X), X = Y", "X=2 Y=2"},
		{"f(1) f(2) f(3)", "Y=2", `known f(X), X \= Y`, "X=1 Y=2; X=3 Y=2"},
		{"f(1) f(2) f(a)", "", "known f(X), X < 9", "X=1; X=2"},
		{"f(1) f(2) f(a)", "", "known f(X), X =< X", "X=1; X=2"},
		{"f(1) f(2) f(a)", "", "known f(X), X = X", "X=1; X=2; X=a"},
		{"f(1) f(2) f(a)", "Y=a", `known f(X), Y \= X`, "X=1 Y=a; X=2 Y=a"},
		{"f(1) f(2) f(a)", "", "known f(X), g(X,h(X)) = g(2,h(2))", "X=2"},
		{"f(1) f(2) f(a)", "Y=h(2)", "known f(X), g(X,Y) = g(2,h(X))", "X=2 Y=h(2)"},
		{"f(1) f(2) g(2) g(3)", "", "known f(X), known g(X)", "X=2"},
		{"f(1) f(2) g(2) g(3)", "", "known f(X), unknown g(X)", "X=1"},
		{"f(1) f(2) g(2) g(3)", "", "unknown g(X), known f(X)", ""},
		{"f(1) f(2) g(2) g(3)", "", "known g(X), unknown f(X)", "X=3"},
		{"f(1) f(2) g(2) g(3)", "", "known f(X), known g(Y)", "X=1 Y=2; X=1 Y=3; X=2 Y=2; X=2 Y=3"},
		{"f(1) f(2) g(2) g(3)", "", "known g(Y), known f(X)", "X=1 Y=2; X=2 Y=2; X=1 Y=3; X=2 Y=3"},
		{"f(1) f(2) g(2) g(3)", "", "known f(X), known g(Y), X = Y", "X=2 Y=2"},
		{"f(1) f(2) g(2) g(3)", "", "known f(X), known g(Y), X < Y, Y < 3", "X=1 Y=2"},
		{"f(1) f(2) g(2) g(3)", "", "known f(X), X < 2, known g(Y), X < Y", "X=1 Y=2; X=1 Y=3"},
		{"f(1) f(2) g(2) g(3)", "Y=3", "known f(X), known g(Y), X < Y", "X=1 Y=3; X=2 Y=3"},
		{"f(1) f(2)", "", "known f(X), known f(Y)", "X=1 Y=1; X=1 Y=2; X=2 Y=1; X=2 Y=2"},
		{"f(1) f(2)", "", `known f(X), known f(Y), X \= Y`, "X=1 Y=2; X=2 Y=1"},
		{"f(1) f(2)", "", "known f(X), known f(X), known f(X), known f(X)", "X=1; X=2"},
		{"f(1) f(2)", "", "known f(X), unknown f(X)", ""},
		{"f(1) f(2)", "", "known f(X), unknown f(Y)", ""},
		{"e(1,2) e(2,3) e(2,4) e(3,1)", "", "known e(X,Y), known e(Y,Z)", "X=1 Y=2 Z=3; X=1 Y=2 Z=4; X=2 Y=3 Z=1; X=3 Y=1 Z=2"},
		{"e(1,2) e(2,3) e(2,4) e(3,1)", "", "known e(Y,Z), known e(X,Y)", "X=3 Y=1 Z=2; X=1 Y=2 Z=3; X=1 Y=2 Z=4; X=2 Y=3 Z=1"},
		{"e(1,2) e(2,3) e(2,4) e(3,1)", "X=1", "known e(X,Y), known e(Y,Z)", "X=1 Y=2 Z=3; X=1 Y=2 Z=4"},
		{"e(1,2) e(2,3) e(2,4) e(3,1)", "X=1", "known e(X,Y), known e(Y,Z), known e(Z,W), known e(W,Y)", "W=1 X=1 Y=2 Z=3"},
		{"e(1,2) e(2,3) e(2,4) e(3,1)", "", "known e(X,Y), known e(Y,X)", ""},
		{"e(1,2) e(2,1) e(2,2)", "", "known e(X,Y), known e(Y,X)", "X=1 Y=2; X=2 Y=1; X=2 Y=2"},
		{"e(1,2) e(2,1) e(2,2)", "", "known e(X,Y), known e(X,X)", "X=2 Y=1; X=2 Y=2"},
		{"e(1,2) e(2,1) e(2,2)", "", "known e(X,Y), unknown e(X,X)", "X=1 Y=2"},
		{"e(1,2) e(2,1) e(2,2)", "", "known e(X,Y), unknown e(Y,X)", ""},
		{"e(1,2) e(2,1) e(2,2)", "", "known e(X,Y), unknown e(1,Y)", "X=2 Y=1"},
		{"e(1,2) e(2,1) e(2,2)", "Z=g(1)", "known e(X,Y), unknown e(Z,Y)", "X=1 Y=2 Z=g(1); X=2 Y=1 Z=g(1); X=2 Y=2 Z=g(1)"},
		{"e(1,2) e(2,1) e(2,2)", "Z=g(1)", "known e(X,Y), unknown e(Z,W)", ""},
		{"e(1,2) e(2,1) e(2,2)", "Z=g(1)", "known e(X,Y), known e(Z,Y)", ""},
		{"a b", "", "known a, known b, unknown c", "-"},
		{"a b", "", "known a, known c, unknown c", ""},
		{"a b", "X=1", "unknown c, X < 2, known a, X = 1", "X=1"},
		{"a b", "X=1", "unknown a, X < 2, known a, X = 1", ""},
		{"a b", "X=1", "unknown c, X < 2, known c, X = 1", ""},
		{"f(1) f(2) f(a) g(a,1)", "", "known f(Y), known g(X,1), X = Y", "X=a Y=a"},
		{"f(1) f(2) f(a) g(a,1)", "", "known f(B), known g(C,A), known f(C)", "A=1 B=1 C=a; A=1 B=2 C=a; A=1 B=a C=a"},
	} {
		holds(t, c.k, c.l, c.g, c.want)
	}
}

// P12.2: of guards that bind nothing that others ask for the order is nothing to what is told, but to its order.
func TestEachOrder(t *testing.T) {
	k := terms(t, "f(1) f(2) f(3) g(2) g(3) g(4)")
	l := binds(t, "A=2 B=b")
	of := guards(t, "known f(X), known g(Y), unknown f(B), A < 3")
	want := []string{}
	for i := range 24 {
		left, g := slices.Clone(of), []api.Guard{}
		for n := i; len(left) > 0; {
			at := n % len(left)
			n /= len(left)
			g = append(g, left[at])
			left = slices.Delete(left, at, at+1)
		}
		m, e := holdsOf(t, k, l, g)
		if e != api.OK || len(m) != 9 {
			t.Fatalf("%s, %v", bindTexts(m), e)
		}
		s := strings.Split(bindTexts(m), "; ")
		slices.Sort(s)
		if i > 0 && !slices.Equal(s, want) {
			t.Errorf("%v, not %v", s, want)
		}
		want = s
	}
}

// P12.2, P12.3: without guards the binds alone, whatever is known.
func TestNoGuards(t *testing.T) {
	for _, k := range [][]api.Term{nil, {}, terms(t, "a f(1)"), numbers(api.MaxKnown)} {
		for _, g := range [][]api.Guard{nil, {}} {
			for _, s := range []string{"", "X=1", "A=a X=f(g(h(i(1)))) Y=2"} {
				m, e := holdsOf(t, k, binds(t, s), g)
				if e != api.OK || len(m) != 1 || bindText(m[0]) != bindText(binds(t, s)) {
					t.Errorf("%s: %s, %v", s, bindTexts(m), e)
				}
			}
			m, e := holdsOf(t, k, []api.Bind{}, g)
			if e != api.OK || len(m) != 1 || len(m[0]) != 0 {
				t.Errorf("%s, %v", bindTexts(m), e)
			}
			m, e = holdsOf(t, k, many(api.MaxBinds), g)
			if e != api.OK || len(m) != 1 || bindText(m[0]) != bindText(many(api.MaxBinds)) {
				t.Errorf("%s, %v", bindTexts(m), e)
			}
		}
	}
}

// P12.2: lists that are empty in place of none are as none.
func TestHoldsEmpty(t *testing.T) {
	none := []api.Term{}
	a := api.Term{Kind: api.TermName, Name: "a", Args: none}
	n := api.Term{Kind: api.TermNum, N: 1, Args: none}
	f := named("f", a, n)
	k := []api.Term{a, f}
	l := []api.Bind{{Name: "X", Term: a}}
	known := func(x api.Term) api.Guard { return api.Guard{Kind: api.GuardKnown, L: x, R: api.Term{Args: none}} }
	unknown := func(x api.Term) api.Guard { return api.Guard{Kind: api.GuardUnknown, L: x, R: api.Term{Args: none}} }
	v := func(s string) api.Term { return api.Term{Kind: api.TermVar, Name: s, Args: none} }
	for i, c := range []struct {
		g    api.Guard
		want string
	}{
		{known(a), "X=a"}, {known(named("a")), "X=a"}, {known(f), "X=a"}, {known(named("f", v("X"), v("Y"))), "X=a Y=1"}, {known(named("f", v("Y"), v("X"))), ""},
		{unknown(a), ""}, {unknown(named("a")), ""}, {unknown(f), ""}, {unknown(named("f", v("X"), num(1))), ""}, {unknown(named("f", v("X"), v("X"))), "X=a"},
		{api.Guard{Kind: api.GuardSame, L: v("X"), R: named("a")}, "X=a"}, {api.Guard{Kind: api.GuardMost, L: n, R: num(1)}, "X=a"},
	} {
		m, e := holdsOf(t, k, l, []api.Guard{c.g})
		if bindTexts(m) != c.want || e != api.OK {
			t.Errorf("%d: %s, %v", i, bindTexts(m), e)
		}
	}
}

// P12.2: no two names, and no two numbers, are taken for one.
func TestHoldsUnlike(t *testing.T) {
	names := unlikeNames("jkhijkhijkhijkhi")
	for _, a := range names {
		for _, b := range names {
			same, other := "", "-"
			if a == b {
				same, other = "-", ""
			}
			for _, x := range []struct{ k, g api.Term }{{named(a), named(b)}, {named("f", named(a)), named("f", named(b))}, {named("f", num(1), named(a)), named("f", num(1), named(b))}} {
				for kind, want := range map[int]string{api.GuardKnown: same, api.GuardUnknown: other} {
					m, e := guard.Holds([]api.Term{x.k}, nil, []api.Guard{{Kind: kind, L: x.g}})
					if bindTexts(m) != want || e != api.OK {
						t.Errorf("%s, %s: %s, %v", text(x.k), text(x.g), bindTexts(m), e)
					}
				}
			}
			unlikeVariables(t, upper(a), upper(b))
		}
	}
	for i := range 31 {
		m, e := guard.Holds([]api.Term{named("f", num(1<<i))}, []api.Bind{{Name: "X", Term: num(-1 << i)}, {Name: "Y", Term: num(1 << i)}}, []api.Guard{{Kind: api.GuardUnknown, L: named("f", aVar("X"))}, {Kind: api.GuardKnown, L: named("f", aVar("Z"))}, {Kind: api.GuardSame, L: aVar("Y"), R: aVar("Z")}, {Kind: api.GuardLess, L: aVar("X"), R: aVar("Z")}})
		if e != api.OK || len(m) != 1 || len(m[0]) != 3 || m[0][2].Term.N != 1<<i {
			t.Errorf("%d: %s, %v", i, bindTexts(m), e)
		}
	}
}

func upper(s string) string { return strings.ToUpper(s[:1]) + s[1:] }

// unlikeVariables: what guards bind is told by its name, and asked for by it.
func unlikeVariables(t *testing.T, a, b string) {
	t.Helper()
	k := []api.Term{named("f", num(1)), named("f", num(2))}
	g := []api.Guard{{Kind: api.GuardKnown, L: named("f", aVar(a))}, {Kind: api.GuardKnown, L: named("f", aVar(b))}, {Kind: api.GuardOther, L: aVar(a), R: aVar(b)}}
	m, e := guard.Holds(k, nil, g)
	if a == b && (len(m) != 0 || e != api.OK) {
		t.Errorf("%s, %s: %s, %v", a, b, bindTexts(m), e)
	}
	if a != b && (e != api.OK || len(m) != 2 || value(t, m[0], a) != "1" || value(t, m[0], b) != "2" || value(t, m[1], a) != "2" || value(t, m[1], b) != "1") {
		t.Errorf("%s, %s: %s, %v", a, b, bindTexts(m), e)
	}
	if m, e = guard.Holds(k, nil, []api.Guard{g[0], {Kind: api.GuardMost, L: aVar(b), R: num(2)}}); e != api.OK || a != b && len(m) > 0 || a == b && len(m) != 2 {
		t.Errorf("%s, %s: %s, %v", a, b, bindTexts(m), e)
	}
}

func value(t *testing.T, l []api.Bind, name string) string {
	t.Helper()
	x, e := bind.Get(l, name)
	if e != api.OK {
		t.Errorf("%s of %s: %v", name, bindText(l), e)
	}
	return text(x)
}
