package check_test

import (
	"math"
	"slices"
	"strings"
	"testing"

	"almagest/api"
	"almagest/check"
)

func two(kind int, l, r api.Pattern) api.Pattern {
	return api.Pattern{Kind: kind, L: []api.Pattern{l}, R: []api.Pattern{r}}
}

func not(l, c, r api.Pattern) api.Pattern {
	x := two(api.PatNot, l, r)
	x.C = []api.Pattern{c}
	return x
}

func rel(l api.Pattern, n int, r api.Pattern) api.Pattern {
	x := two(api.PatRel, l, r)
	x.Rel = n
	return x
}

// list has so many times the same.
func list[T any](n int, x T) []T { return slices.Repeat([]T{x}, n) }

// nested has so many names around a term.
func nested(n int, t api.Term) api.Term {
	for range n {
		t = named("f", t)
	}
	return t
}

// row has so many terms behind each other, and is as deep.
func row(n int) api.Pattern {
	x := of(named("b"))
	for range n - 1 {
		x = two(api.PatSeq, x, of(named("b")))
	}
	return x
}

func endlessTerm() api.Term {
	t := named("f", num(1), num(2))
	t.Args[1] = t
	return t
}

func endlessPattern() api.Pattern {
	x := two(api.PatAnd, of(named("b")), of(named("b")))
	x.R[0] = x
	return x
}

// badTerms may not be anywhere in a program.
func badTerms() []api.Term {
	return []api.Term{
		{Name: "a"}, {N: 1}, {Kind: -1, Name: "a"}, {Kind: api.TermName + 1, Name: "a"}, {Kind: math.MaxInt},
		aVar(""), aVar("x"), aVar("X" + strings.Repeat("y", api.MaxName)), {Kind: api.TermVar, Name: "X", N: 1},
		num(api.MaxNum + 1), num(-api.MaxNum - 1), {Kind: api.TermNum, Name: "a"},
		named(""), named("A"), named("a b"), named(strings.Repeat("a", api.MaxName+1)), named("f", api.Term{}), named("f", list(api.MaxArgs+1, num(1))...),
		nested(api.MaxDepth, num(1)), named("f", list(4, named("f", list(4, named("f", num(1)))...))...), endlessTerm(),
	}
}

// badPatterns are such as may not be.
func badPatterns() []api.Pattern {
	b := of(named("b"))
	l := []api.Pattern{
		{}, {Term: named("b")}, of(aVar("X")), of(num(1)), {Kind: api.PatRel + 1, L: list(1, b), R: list(1, b)}, {Kind: -1, L: list(1, b), R: list(1, b)},
		{Kind: api.PatTerm, Term: named("b"), Rel: 1}, {Kind: api.PatTerm, Term: named("b"), L: list(1, b)}, {Kind: api.PatTerm, Term: named("b"), C: list(1, b)},
		{Kind: api.PatSeq, L: list(1, b)}, {Kind: api.PatSeq, R: list(1, b)}, {Kind: api.PatOr, L: list(2, b), R: list(1, b)}, {Kind: api.PatAnd, L: list(1, b), R: list(1, b), C: list(1, b)},
		two(api.PatNot, b, b), not(b, api.Pattern{}, b), rel(b, api.RelNone, b), rel(b, api.RelAfter+1, b), rel(b, -1, b), {Kind: api.PatSeq, L: list(1, b), R: list(1, b), Rel: 1},
		row(api.MaxDeep + 1), not(b, row(api.MaxDeep), b), together(list(api.MaxParts+1, b)), not(together(list(6, b)), together(list(6, b)), b), endlessPattern(),
	}
	for _, t := range badTerms() {
		l = append(l, of(t), two(api.PatOr, b, of(t)), not(b, of(t), b))
	}
	return l
}

// badGuards may not be in a rule.
func badGuards() []api.Guard {
	l := []api.Guard{
		{}, {Kind: -1, L: num(1), R: num(1)}, {Kind: api.GuardUnknown + 1, L: num(1), R: num(1)}, {Kind: api.GuardUnknown + 1, L: named("k")},
		{Kind: api.GuardLess, L: num(1)}, {Kind: api.GuardOther, R: num(1)},
		{Kind: api.GuardKnown, L: named("k"), R: num(1)}, {Kind: api.GuardUnknown, L: named("k"), R: api.Term{N: 1}}, {Kind: api.GuardKnown}, {Kind: api.GuardUnknown},
		{Kind: api.GuardKnown, L: aVar("X")}, {Kind: api.GuardUnknown, L: num(1)}, {Kind: api.GuardKnown, L: nested(2, num(1))}, {Kind: api.GuardUnknown, L: nested(2, num(1))},
	}
	for _, t := range badTerms() {
		l = append(l, api.Guard{Kind: api.GuardKnown, L: t}, api.Guard{Kind: api.GuardUnknown, L: t}, api.Guard{Kind: api.GuardMost, L: t, R: num(1)}, api.Guard{Kind: api.GuardSame, L: num(1), R: t})
	}
	return l
}

func less() api.Guard { return api.Guard{Kind: api.GuardLess, L: num(1), R: num(2)} }

// badRules are such as may not be, each for one cause.
func badRules() []api.Rule {
	a, b := named("a"), of(named("b"))
	l := []api.Rule{
		{}, {Body: b}, {Head: a}, {Head: aVar("X"), Body: b}, {Head: num(1), Body: b},
		{Head: a, Body: b, Within: -1}, {Head: a, Body: b, Within: api.MaxNum + 1}, {Head: a, Body: b, Within: math.MinInt},
		{Head: a, Body: b, Policy: -1}, {Head: a, Body: b, Policy: api.PolicyFirst + 1}, {Head: a, Body: b, Guards: list(api.MaxGuards+1, less())},
	}
	for _, t := range badTerms() {
		l = append(l, api.Rule{Head: t, Body: b}, api.Rule{Head: named("a", t), Body: b})
	}
	for _, p := range badPatterns() {
		l = append(l, api.Rule{Head: a, Body: p})
	}
	for _, g := range badGuards() {
		l = append(l, api.Rule{Head: a, Body: b, Guards: []api.Guard{less(), g}})
	}
	return l
}

// badClauses likewise.
func badClauses() []api.Clause {
	k := named("k")
	l := []api.Clause{
		{}, {Head: aVar("X")}, {Head: num(1)}, {Head: nested(2, num(1))}, {Head: k, Body: list(1, nested(2, num(1)))}, {Head: k, Body: list(1, aVar("X"))}, {Head: k, Body: list(1, num(1))},
		{Head: k, Body: list(api.MaxBody+1, named("m"))}, {Head: k, Guards: list(api.MaxGuards+1, less())},
		{Head: k, Guards: []api.Guard{{Kind: api.GuardKnown, L: named("m")}}}, {Head: k, Guards: []api.Guard{{Kind: api.GuardUnknown, L: named("m")}}},
	}
	for _, t := range badTerms() {
		l = append(l, api.Clause{Head: t}, api.Clause{Head: named("k", t)}, api.Clause{Head: k, Body: []api.Term{named("m"), t}}, api.Clause{Head: k, Guards: []api.Guard{less(), {Kind: api.GuardOther, L: num(1), R: t}}})
	}
	return l
}

// isForm holds that a program is refused as one that may not be. What has no end can't be held against itself.
func isForm(t *testing.T, p api.Program, why string, i int) {
	t.Helper()
	l, e := check.Levels(p)
	if f := check.Program(p); f != api.ErrForm || e != api.ErrForm || l != nil {
		t.Errorf("%s %d: %v; %v, %v", why, i, f, l, e)
	}
}

// P10.1, P10.2: rules that may not be, alone and wherever they stand; ahead of whatever else is wrong with them, and with the program.
func TestBadRules(t *testing.T) {
	unsafe := api.Rule{Head: named("a", aVar("X")), Body: of(named("b"))}
	round := api.Rule{Head: named("a"), Body: of(named("a"))}
	unsafeClause := api.Clause{Head: named("k", aVar("X"))}
	kind := api.Clause{Head: named("a")}
	for i, r := range badRules() {
		if e := check.Rule(r); e != api.ErrForm {
			t.Errorf("%d: %v", i, e)
		}
		isForm(t, api.Program{Rules: []api.Rule{r}}, "alone", i)
		isForm(t, api.Program{Rules: []api.Rule{unsafe, r}}, "behind an unsafe rule", i)
		isForm(t, api.Program{Rules: []api.Rule{round, r}}, "behind a round", i)
		isForm(t, api.Program{Clauses: []api.Clause{unsafeClause}, Rules: []api.Rule{r}}, "behind an unsafe clause", i)
		isForm(t, api.Program{Clauses: []api.Clause{kind}, Rules: []api.Rule{r, round}}, "between", i)
		// What is unsafe within the same rule is not told either.
		r.Guards = append([]api.Guard{{Kind: api.GuardUnknown, L: named("k", aVar("U"))}}, r.Guards...)
		if e := check.Rule(r); e != api.ErrForm {
			t.Errorf("%d, unsafe: %v", i, e)
		}
		isForm(t, api.Program{Rules: []api.Rule{r}}, "unsafe", i)
	}
}

// P10.1, P10.2: clauses that may not be, likewise.
func TestBadClauses(t *testing.T) {
	unsafe := api.Clause{Head: named("k", aVar("X"))}
	unsafeRule := api.Rule{Head: named("a", aVar("X")), Body: of(named("b"))}
	round := api.Rule{Head: named("a"), Body: of(named("a"))}
	kind := api.Rule{Head: named("k"), Body: of(named("b"))}
	for i, c := range badClauses() {
		if e := check.Clause(c); e != api.ErrForm {
			t.Errorf("%d: %v", i, e)
		}
		isForm(t, api.Program{Clauses: []api.Clause{c}}, "alone", i)
		isForm(t, api.Program{Clauses: []api.Clause{unsafe, c}}, "behind an unsafe clause", i)
		isForm(t, api.Program{Clauses: []api.Clause{c}, Rules: []api.Rule{unsafeRule}}, "ahead of an unsafe rule", i)
		isForm(t, api.Program{Clauses: []api.Clause{{Head: named("k")}, c}, Rules: []api.Rule{kind, round}}, "behind two kinds, ahead of a round", i)
		c.Guards = append([]api.Guard{{Kind: api.GuardLess, L: aVar("U"), R: num(1)}}, c.Guards...)
		if e := check.Clause(c); e != api.ErrForm {
			t.Errorf("%d, unsafe: %v", i, e)
		}
		isForm(t, api.Program{Clauses: []api.Clause{c}}, "unsafe", i)
	}
}

// P10.1, P10.2: each limit just met.
func TestLimitsMet(t *testing.T) {
	b := of(named("b"))
	guards := list(api.MaxGuards, less())
	for i, r := range []api.Rule{
		{Head: named("a"), Body: b, Within: api.MaxNum, Policy: api.PolicyFirst, Guards: guards},
		{Head: nested(api.MaxDepth-1, num(api.MaxNum)), Body: row(api.MaxDeep)},
		{Head: named(strings.Repeat("a", api.MaxName), list(api.MaxArgs, num(-api.MaxNum))...), Body: together(list(api.MaxParts, b))},
		{Head: named("a"), Body: not(b, row(api.MaxDeep-1), b)},
		{Head: named("a"), Body: not(together(list(5, b)), together(list(6, b)), b)},
		{Head: named("a"), Body: of(nested(api.MaxDepth-1, aVar("X"))), Guards: []api.Guard{{Kind: api.GuardSame, L: nested(api.MaxDepth-1, aVar("X")), R: num(1)}}},
	} {
		if e := check.Rule(r); e != api.OK {
			t.Errorf("%d: %v", i, e)
		}
		tellsProgram(t, api.Program{Rules: []api.Rule{r}}, api.OK)
	}
	c := api.Clause{Head: named("k", list(api.MaxArgs, aVar("X"))...), Body: list(api.MaxBody, named("m", aVar("X"))), Guards: guards}
	if e := check.Clause(c); e != api.OK {
		t.Errorf("%v", e)
	}
	tellsProgram(t, api.Program{Clauses: []api.Clause{c}}, api.OK)
	many := api.Program{Clauses: list(api.MaxClause, c), Rules: list(api.MaxRules, api.Rule{Head: named("a"), Body: b})}
	tellsProgram(t, many, api.OK)
	tellsProgram(t, api.Program{Clauses: append(many.Clauses, c), Rules: many.Rules}, api.ErrForm)
	tellsProgram(t, api.Program{Clauses: many.Clauses, Rules: append(many.Rules, many.Rules[0])}, api.ErrForm)
	tellsProgram(t, api.Program{Clauses: list(api.MaxClause+1, api.Clause{Head: named("k", aVar("X"))})}, api.ErrForm)
	tellsProgram(t, api.Program{Rules: list(api.MaxRules+1, api.Rule{Head: named("a"), Body: of(named("a"))})}, api.ErrForm)
}

// R2: a list that is empty is one that is nil.
func TestEmptyLists(t *testing.T) {
	leaf := api.Pattern{Kind: api.PatTerm, Term: api.Term{Kind: api.TermName, Name: "b", Args: []api.Term{}}, L: []api.Pattern{}, R: []api.Pattern{}, C: []api.Pattern{}}
	r := api.Rule{Head: api.Term{Kind: api.TermName, Name: "a", Args: []api.Term{}}, Body: leaf, Guards: []api.Guard{{Kind: api.GuardKnown, L: named("k"), R: api.Term{Args: []api.Term{}}}, {Kind: api.GuardUnknown, L: named("k"), R: api.Term{Args: []api.Term{}}}}}
	c := api.Clause{Head: named("k"), Body: []api.Term{}, Guards: []api.Guard{}}
	if e, f := check.Rule(r), check.Clause(c); e != api.OK || f != api.OK {
		t.Errorf("%v, %v", e, f)
	}
	if l, e := check.Levels(api.Program{Rules: []api.Rule{r}, Clauses: []api.Clause{c}}); !slices.Equal(l, []int{0}) || e != api.OK {
		t.Errorf("%v, %v", l, e)
	}
	r.Guards = []api.Guard{}
	c.Head = named("a")
	tellsProgram(t, api.Program{Rules: []api.Rule{r}, Clauses: []api.Clause{c}}, api.ErrKind)
	for _, p := range []api.Program{{}, {Rules: []api.Rule{}}, {Clauses: []api.Clause{}, Rules: []api.Rule{}}} {
		tellsProgram(t, p, api.OK)
	}
}
