package guard_test

import (
	"slices"
	"strings"
	"testing"

	"almagest/api"
	"almagest/guard"
)

// badKnown are atoms that may not be, as of layer 11: each for one cause alone.
func badKnown(t *testing.T) [][]api.Term {
	most := numbers(api.MaxKnown + 1)
	l := [][]api.Term{most, append(slices.Clone(most[1:]), named("a", num(1), num(2))), list(2, named("a")), list(api.MaxKnown+1, named("a")), list(1<<20, named("a"))}
	for _, s := range []string{"b a", "a b b", "a a b", "a c b", "b a c", "f(1) a", "f(2) f(1)", "f(a) f(1)", "g(1) f(2)", "f(1,2) f(3)", "f(1,2) f(1,1)", "f(2,1) f(1,2)", "f(1) f(1)", "f(1) f(0)", "aa a", "a f(1,2,3,4) f(1,2,3,3)", "a f(1,2,3,4) f(1,2,3,4)", "X", "1", "a f(X)", "f(g(1))", "f(1,X)", "f(1,2,3,g(4))"} {
		l = append(l, terms(t, s))
	}
	last := named("zz", list(4, named("zz"))...)
	for _, x := range notTerms() {
		l = append(l, []api.Term{x}, []api.Term{x, last}, []api.Term{named("a"), x}, []api.Term{named("a"), x, last})
	}
	return l
}

// badBinds are binds that may not be, or whose terms are not ground: each for one cause alone.
func badBinds(t *testing.T) [][]api.Bind {
	l := [][]api.Bind{many(api.MaxBinds + 1), list(1<<16, api.Bind{Name: "X", Term: num(1)}), list(2, api.Bind{Name: "X", Term: num(1)})}
	for _, s := range []string{"Y=1 X=2", "X=1 X=1", "A=1 C=2 B=3", "X=Y", "X=X", "X=f(Y)", "X=f(1,g(Y))", "A=1 X=Y", "X=Y Y=1", "A=Z B=Z", "X=f(g(h(i(Y))))"} {
		l = append(l, binds(t, s))
	}
	for _, s := range []string{"", "x", "_X", "0X", "X Y", "X-", "X\x00", "X\xe9", "X" + strings.Repeat("x", api.MaxName)} {
		l = append(l, []api.Bind{{Name: s, Term: num(1)}})
	}
	for _, x := range notTerms() {
		l = append(l, []api.Bind{{Name: "X", Term: x}}, []api.Bind{{Name: "A", Term: num(1)}, {Name: "X", Term: x}, {Name: "Z", Term: num(1)}})
	}
	return l
}

// badGuards are guards that may not be: each for one cause alone.
func badGuards(t *testing.T) []api.Guard {
	var l []api.Guard
	for _, kind := range []int{api.GuardNone, -1, api.GuardUnknown + 1, 1 << 40, -1 << 63} {
		l = append(l, api.Guard{Kind: kind, L: num(1), R: num(2)}, api.Guard{Kind: kind, L: named("a")}, api.Guard{Kind: kind})
	}
	for _, x := range notTerms() {
		for _, kind := range kinds() {
			l = append(l, api.Guard{Kind: kind, L: x, R: num(1)}, api.Guard{Kind: kind, L: num(1), R: x})
		}
		l = append(l, api.Guard{Kind: api.GuardKnown, L: x}, api.Guard{Kind: api.GuardUnknown, L: x})
	}
	for _, kind := range []int{api.GuardKnown, api.GuardUnknown} {
		for _, s := range []string{"X", "1", "f(g(1))", "f(g(X))", "f(1,2,3,g(4))"} {
			l = append(l, api.Guard{Kind: kind, L: one(t, s)})
		}
		for _, x := range []api.Term{num(0), num(1), aVar("X"), named("a"), {N: 1}, {Name: "a"}, {Name: "X"}, {Args: list(1, num(1))}, {Kind: -1}, {Kind: api.TermName + 1}, {Args: list(1, api.Term{})}} {
			l = append(l, api.Guard{Kind: kind, L: named("a"), R: x})
		}
	}
	return l
}

// refused holds that Holds tells an error and nothing beside it.
func refused(t *testing.T, what string, i int, k []api.Term, l []api.Bind, g []api.Guard, want api.Errno) {
	t.Helper()
	if m, e := guard.Holds(k, l, g); m != nil || e != want {
		t.Errorf("%s, %d: %d, %v", what, i, len(m), e)
	}
}

// P12.2: atoms that may not be are ErrForm, whatever the guards ask for.
func TestBadKnown(t *testing.T) {
	for i, k := range badKnown(t) {
		for _, s := range []string{"", "1 < 2", "2 < 1", "known a", "known zzz(X)", "unknown a", "unknown zzz"} {
			refused(t, s, i, k, nil, guards(t, s), api.ErrForm)
			refused(t, s, i, k, binds(t, "X=1"), guards(t, s), api.ErrForm)
		}
	}
}

// P12.2: binds that may not be, and binds whose terms are not ground, are ErrForm.
func TestBadBinds(t *testing.T) {
	for i, l := range badBinds(t) {
		for _, s := range []string{"", "1 < 2", "2 < 1", "known a", "known b", "known m(Q)", "unknown a", "unknown b"} {
			refused(t, s, i, nil, l, guards(t, s), api.ErrForm)
			refused(t, s, i, terms(t, "a m(1)"), l, guards(t, s), api.ErrForm)
		}
	}
}

// P12.2: a guard that may not be is ErrForm, alone and wherever it stands, also behind one that does not hold.
func TestBadGuards(t *testing.T) {
	good := guards(t, "known f(X), X < 2, unknown g(X)")
	k := terms(t, "a f(1)")
	holds(t, "a f(1)", "", "known f(X), X < 2, unknown g(X)", "X=1")
	for i, x := range badGuards(t) {
		refused(t, "alone", i, k, nil, []api.Guard{x}, api.ErrForm)
		refused(t, "without atoms", i, nil, binds(t, "X=1"), []api.Guard{x}, api.ErrForm)
		for at := range len(good) + 1 {
			refused(t, "within", i, k, nil, slices.Insert(slices.Clone(good), at, x), api.ErrForm)
		}
		refused(t, "behind what is not so", i, k, nil, append(guards(t, "2 < 1"), x), api.ErrForm)
		refused(t, "behind what is not known", i, k, nil, append(guards(t, "known zzz"), x), api.ErrForm)
	}
}

// P12.2: as many guards as may be, and one more, of each kind.
func TestMaxGuards(t *testing.T) {
	for _, s := range []string{"1 < 2", "1 =< 2", "1 = 1", `1 \= 2`, "known a", "unknown b", "known f(X)"} {
		g := list(api.MaxGuards, guards(t, s)[0])
		m, e := holdsOf(t, terms(t, "a f(1)"), nil, g)
		if len(m) != 1 || e != api.OK {
			t.Errorf("%s: %s, %v", s, bindTexts(m), e)
		}
		refused(t, s, 0, terms(t, "a f(1)"), nil, append(g, g[0]), api.ErrForm)
		refused(t, s, 1, nil, nil, list(1<<20, g[0]), api.ErrForm)
	}
	for _, s := range []string{"1 = 2", "known b", "unknown a"} {
		g := list(api.MaxGuards, guards(t, s)[0])
		m, e := holdsOf(t, terms(t, "a f(1)"), nil, g)
		if len(m) != 0 || e != api.OK {
			t.Errorf("%s: %s, %v", s, bindTexts(m), e)
		}
		refused(t, s, 2, terms(t, "a f(1)"), nil, append(g, g[0]), api.ErrForm)
	}
	refused(t, "nothing", 3, nil, nil, make([]api.Guard, 1<<20), api.ErrForm)
}

// crowd are atoms of which these guards leave more than MaxMatch.
func crowd(t *testing.T) ([]api.Term, []api.Guard) {
	return numbers(api.MaxKnown), guards(t, "known m(X), known m(Y)")
}

// P12.2: where ErrForm and ErrLimit apply, ErrForm is told.
func TestOrderOfErrors(t *testing.T) {
	k, g := crowd(t)
	refused(t, "the limit", 0, k, nil, g, api.ErrLimit)
	for i, x := range badGuards(t) {
		refused(t, "a guard behind", i, k, nil, append(slices.Clone(g), x), api.ErrForm)
		refused(t, "a guard ahead", i, k, nil, append([]api.Guard{x}, g...), api.ErrForm)
	}
	for i, l := range badBinds(t) {
		refused(t, "binds", i, k, l, g, api.ErrForm)
	}
	for i, x := range badKnown(t) {
		refused(t, "atoms", i, x, nil, g, api.ErrForm)
	}
	refused(t, "guards", 0, k, nil, slices.Concat(g, g, g), api.ErrForm)
}

// P12.2: each limit of what may be, just met.
func TestLimitsMet(t *testing.T) {
	long, v, w := strings.Repeat("a", api.MaxName), strings.Repeat("V", api.MaxName), strings.Repeat("W", api.MaxName)
	atom := named(long, num(api.MaxNum), num(-api.MaxNum), named(long), num(0))
	l := []api.Bind{{Name: "A", Term: deep(api.MaxDepth, num(1))}, {Name: "B", Term: wide(api.MaxSize, num(1))}, {Name: v, Term: num(api.MaxNum)}}
	g := []api.Guard{
		{Kind: api.GuardKnown, L: named(long, aVar(v), aVar("C"), aVar(w), num(0))},
		{Kind: api.GuardSame, L: deep(api.MaxDepth, aVar(w)), R: deep(api.MaxDepth, named(long))},
		{Kind: api.GuardOther, L: wide(api.MaxSize, aVar("C")), R: aVar("B")},
		{Kind: api.GuardUnknown, L: named(long, aVar("C"), aVar("C"), aVar(w), num(0))},
	}
	m, e := holdsOf(t, []api.Term{atom}, l, g)
	want := append(slices.Clone(l[:2]), api.Bind{Name: "C", Term: num(-api.MaxNum)}, l[2], api.Bind{Name: w, Term: named(long)})
	if bindTexts(m) != bindText(want) || e != api.OK {
		t.Errorf("%s, %v, not %s", bindTexts(m), e, bindText(want))
	}
}
