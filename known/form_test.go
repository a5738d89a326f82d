package known_test

import (
	"slices"
	"strings"
	"testing"

	"almagest/api"
	"almagest/known"
)

func list[T any](n int, x T) []T { return slices.Repeat([]T{x}, n) }

// endless is a term within itself.
func endless() api.Term {
	t := named("f", num(0))
	t.Args[0] = t
	return t
}

// notAtoms are no atoms, with variables or without: some are no terms at all.
func notAtoms() []api.Term {
	long := strings.Repeat("a", api.MaxName+1)
	l := []api.Term{aVar("X"), num(1), named("f", named("g", num(1))), named("f", named("g", aVar("X"))), named("f", num(1), named("g", named("h"))), endless(), named("f", list(api.MaxArgs+1, num(1))...)}
	for _, x := range []api.Term{{}, named(""), named("A"), named("1"), named("_"), named("a b"), named("a."), named("\xe4"), named("a\x00"), named("a\xff"), named(long), num(api.MaxNum + 1), num(-api.MaxNum - 1), aVar("x"), aVar(""), aVar("X "), aVar(strings.ToUpper(long)), {Kind: api.TermName + 1, Name: "a"}, {Kind: -1}, {Kind: api.TermName, Name: "a", N: 1}, {Kind: api.TermNum, Name: "a"}, {Kind: api.TermNum, N: 1, Args: list(1, num(1))}, {Kind: api.TermVar, Name: "X", N: 1}, {Kind: api.TermVar, Name: "X", Args: list(1, num(1))}} {
		l = append(l, x, named("f", x), named("f", num(1), x))
	}
	return l
}

// notGround are atoms with variables.
func notGround() []api.Term {
	return []api.Term{named("f", aVar("X")), named("f", num(1), aVar("X")), named("f", aVar("X"), num(1)), named("f", num(1), num(2), num(3), aVar("X"))}
}

// badClauses may not be, or are not safe: each for one cause alone.
func badClauses(t *testing.T) []api.Clause {
	less := api.Guard{Kind: api.GuardLess, L: num(1), R: num(2)}
	l := clauses(t, "k(X). k :- 1 = X. k :- X < 1. k(X) :- f(Y). k(X,Y) :- f(X), f(1). k :- f(X), X = Y. k :- f(X), f(g(Y)) = 1. k :- f(X), 1 = f(1,h(Y)). k :- f, 2 = 3, X = X.")
	l = append(l, api.Clause{}, api.Clause{Head: named("k"), Body: list(api.MaxBody+1, named("f"))}, api.Clause{Head: named("k"), Guards: list(api.MaxGuards+1, less)})
	for _, x := range notAtoms() {
		l = append(l, fact(x), api.Clause{Head: named("k"), Body: []api.Term{x}}, api.Clause{Head: named("k"), Body: []api.Term{named("f"), named("f", aVar("X")), x}})
	}
	for _, x := range []api.Term{{}, named("A"), num(api.MaxNum + 1), endless(), named("f", api.Term{}), deep(api.MaxDepth + 1), wide(api.MaxSize + 1)} {
		for _, kind := range []int{api.GuardLess, api.GuardMost, api.GuardSame, api.GuardOther} {
			l = append(l, api.Clause{Head: named("k"), Guards: []api.Guard{{Kind: kind, L: x, R: num(1)}}}, api.Clause{Head: named("k"), Guards: []api.Guard{less, {Kind: kind, L: num(1), R: x}}})
		}
	}
	for _, kind := range []int{-1, api.GuardNone, api.GuardUnknown + 1} {
		l = append(l, api.Clause{Head: named("k"), Guards: []api.Guard{{Kind: kind, L: num(1), R: num(2)}}})
	}
	for _, kind := range []int{api.GuardKnown, api.GuardUnknown} {
		l = append(l, api.Clause{Head: named("k"), Guards: []api.Guard{{Kind: kind, L: named("f")}}})
	}
	return l
}

// deep is a term so deep.
func deep(n int) api.Term {
	t := num(1)
	for range n - 1 {
		t = named("f", t)
	}
	return t
}

// wide is a term of so many (21 to 25) within it, itself counted.
func wide(n int) api.Term {
	four := named("g", list(4, num(1))...)
	return named("f", four, four, four, named("g", num(1), num(1), num(1), named("h", list(n-21, num(1))...)))
}

// P11.1: a clause that may not be, and one that is not safe, is ErrForm, alone and wherever it stands.
func TestBadClauses(t *testing.T) {
	good := clauses(t, "f(1). f(2). k(X) :- f(X), X < 2.")
	if k, e := allOf(t, good); e != api.OK || texts(k) != "f(1). f(2). k(1)." {
		t.Fatalf("%s, %v", texts(k), e)
	}
	for i, c := range badClauses(t) {
		for at := range len(good) + 1 {
			l := slices.Insert(slices.Clone(good), at, c)
			if at == 0 {
				l = l[:1]
			}
			if k, e := known.All(l); k != nil || e != api.ErrForm {
				t.Errorf("%d, %d: %s, %v", i, at, texts(k), e)
			}
			if k, e := known.Step(l, terms(t, "a. b.")); k != nil || e != api.ErrForm {
				t.Errorf("%d, %d: Step: %s, %v", i, at, texts(k), e)
			}
		}
	}
}

// badKnown are lists of atoms that may not be: each for one cause alone.
func badKnown(t *testing.T) [][]api.Term {
	most := numbers(api.MaxKnown + 1)
	l := [][]api.Term{most, append(slices.Clone(most[1:]), named("a", num(1), num(2))), list(2, named("a")), list(api.MaxKnown+1, named("a")), list(1<<20, named("a"))}
	for _, text := range []string{"b. a.", "a. b. b.", "a. a. b.", "a. c. b.", "b. a. c.", "f(1). a.", "f(2). f(1).", "f(a). f(1).", "g(1). f(2).", "f(1,2). f(3).", "f(1,2). f(1,1).", "f(2,1). f(1,2).", "f(1). f(1).", "f(1). f(0).", "f(0). f(-1).", "aa. a.", "a. f(1,2,3,4). f(1,2,3,3).", "a. f(1,2,3,4). f(1,2,3,4)."} {
		l = append(l, terms(t, text))
	}
	for _, x := range slices.Concat(notAtoms(), notGround()) {
		l = append(l, []api.Term{x}, []api.Term{x, named("zz", list(4, named("zz"))...)}, []api.Term{named("a"), x}, []api.Term{named("a"), x, named("zz", list(4, named("zz"))...)})
	}
	return l
}

// P11.1, P11.2: atoms that are none, that are not ground, that do not rise, and too many are ErrForm.
func TestBadKnown(t *testing.T) {
	for i, k := range badKnown(t) {
		for _, text := range []string{"", "b :- a.", "zzz."} {
			if x, e := known.Step(clauses(t, text), k); x != nil || e != api.ErrForm {
				t.Errorf("%d: Step: %s, %v", i, texts(x), e)
			}
		}
		for _, a := range []api.Term{named("a"), named("m", aVar("X")), named("zzz")} {
			if l, e := known.Ask(k, a); l != nil || e != api.ErrForm {
				t.Errorf("%d: Ask: %v, %v", i, l, e)
			}
		}
	}
}

// P11.2: what is no atom is not asked.
func TestAskOfNone(t *testing.T) {
	for i, a := range notAtoms() {
		for _, k := range [][]api.Term{nil, terms(t, "a."), terms(t, "a. b. f(1). f(1,2)."), numbers(api.MaxKnown)} {
			if l, e := known.Ask(k, a); l != nil || e != api.ErrForm {
				t.Errorf("%d: %v, %v", i, l, e)
			}
		}
	}
	for i, a := range notGround() {
		if l, e := askOf(t, terms(t, "a. b."), a); len(l) != 0 || e != api.OK {
			t.Errorf("%d: %v, %v", i, l, e)
		}
	}
}

// P11.1: where ErrForm and ErrLimit apply, ErrForm is told.
func TestOrderOfErrors(t *testing.T) {
	many := facts(numbers(api.MaxKnown + 1))
	for i, c := range badClauses(t) {
		for _, l := range [][]api.Clause{append(slices.Clone(many), c), append([]api.Clause{c}, many...)} {
			if k, e := known.All(l); k != nil || e != api.ErrForm {
				t.Errorf("%d: %s, %v", i, texts(k), e)
			}
		}
	}
	for i, k := range badKnown(t) {
		if x, e := known.Step(many, k); x != nil || e != api.ErrForm {
			t.Errorf("%d: %s, %v", i, texts(x), e)
		}
	}
}

// P11.1, P11.2: each limit of what may be, just met.
func TestLimitsMet(t *testing.T) {
	long := strings.Repeat("a", api.MaxName)
	n := named(long, num(api.MaxNum), num(-api.MaxNum), named(long), num(0))
	v := aVar(strings.Repeat("V", api.MaxName))
	same := func(x, y api.Term) api.Guard { return api.Guard{Kind: api.GuardSame, L: x, R: y} }
	within := named("f", named("f", named("f", named("f", v))))
	l := []api.Clause{
		fact(n),
		{Head: named("k", v), Body: []api.Term{named(long, v, num(-api.MaxNum), aVar("X"), aVar("Y")), n, n}, Guards: []api.Guard{same(deep(api.MaxDepth), deep(api.MaxDepth)), same(wide(api.MaxSize), wide(api.MaxSize)), same(within, within), same(v, num(api.MaxNum))}},
		{Head: named("l"), Body: []api.Term{named("k", v)}, Guards: []api.Guard{{Kind: api.GuardOther, L: wide(api.MaxSize), R: wide(api.MaxSize - 1)}, {Kind: api.GuardOther, L: within, R: deep(api.MaxDepth)}, {Kind: api.GuardMost, L: num(-api.MaxNum), R: v}, {Kind: api.GuardLess, L: num(api.MaxNum - 1), R: v}}},
	}
	want := []api.Term{named("l"), named("k", num(api.MaxNum)), n}
	k, e := allOf(t, l)
	if texts(k) != texts(want) || e != api.OK {
		t.Errorf("%s, %v", texts(k), e)
	}
	k, e = stepOf(t, l, want)
	if len(k) != 0 || e != api.OK {
		t.Errorf("%s, %v", texts(k), e)
	}
	m, e := askOf(t, want, named(long, v, aVar("B"), aVar("C"), aVar("D")))
	if bindTexts(m) != "B=-1073741824 C="+long+" D=0 "+v.Name+"=1073741824" || e != api.OK {
		t.Errorf("%v, %v", m, e)
	}
}

// P11.1, P11.2: no clauses, no atoms, and lists that are empty in place of none, are as nothing.
func TestNothing(t *testing.T) {
	for _, l := range [][]api.Clause{nil, {}} {
		if k, e := allOf(t, l); len(k) != 0 || e != api.OK {
			t.Errorf("%v, %v", k, e)
		}
		for _, k := range [][]api.Term{nil, {}} {
			if x, e := stepOf(t, l, k); len(x) != 0 || e != api.OK {
				t.Errorf("%v, %v", x, e)
			}
			if m, e := askOf(t, k, named("a")); len(m) != 0 || e != api.OK {
				t.Errorf("%v, %v", m, e)
			}
		}
	}
	none := []api.Term{}
	a := api.Term{Kind: api.TermName, Name: "a", Args: none}
	one := api.Term{Kind: api.TermNum, N: 1, Args: none}
	x := api.Term{Kind: api.TermVar, Name: "X", Args: none}
	l := []api.Clause{{Head: a, Body: none, Guards: []api.Guard{}}, {Head: named("f", one, a)}, {Head: named("g", x), Body: []api.Term{named("f", one, x)}, Guards: []api.Guard{{Kind: api.GuardSame, L: x, R: a}, {Kind: api.GuardLess, L: one, R: num(2)}}}, fact(named("f", num(1), named("a")))}
	k, e := allOf(t, l)
	if texts(k) != "a. g(a). f(1,a)." || e != api.OK {
		t.Errorf("%s, %v", texts(k), e)
	}
	k, e = stepOf(t, l, []api.Term{a, named("f", one, a)})
	if texts(k) != "g(a)." || e != api.OK {
		t.Errorf("%s, %v", texts(k), e)
	}
	m, e := askOf(t, []api.Term{a, named("f", one, a)}, named("f", num(1), x))
	if bindTexts(m) != "X=a" || e != api.OK {
		t.Errorf("%v, %v", m, e)
	}
}
