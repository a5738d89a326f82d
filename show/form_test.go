package show_test

import (
	"math"
	"slices"
	"strings"
	"testing"

	"almagest/api"
	"almagest/show"
)

// refuses holds that a program may not be, and that no text is told of it.
func refuses(t *testing.T, x api.Program, why string) {
	t.Helper()
	if e := show.Check(x); e != api.ErrForm {
		t.Errorf("%s: Check: %v", why, e)
	}
	if s, e := show.Program(x); s != "" || e != api.ErrForm {
		t.Errorf("%s: %q, %v", why, s, e)
	}
}

// refusesPattern holds it of a pattern alone, and of the rule that has it.
func refusesPattern(t *testing.T, x api.Pattern, why string) {
	t.Helper()
	if e := show.May(x); e != api.ErrForm {
		t.Errorf("%s: May: %v", why, e)
	}
	if s, e := show.Pattern(x); s != "" || e != api.ErrForm {
		t.Errorf("%s: %q, %v", why, s, e)
	}
	refuses(t, rules(api.Rule{Head: named("a"), Body: x}), why)
}

func takesPattern(t *testing.T, x api.Pattern) {
	t.Helper()
	if e := show.May(x); e != api.OK {
		t.Errorf("%s: May: %v", told(x), e)
	}
	if s, e := show.Pattern(x); s == "" || e != api.OK {
		t.Errorf("%s: %v", told(x), e)
	}
	takes(t, rules(api.Rule{Head: named("a"), Body: x}))
}

func takes(t *testing.T, x api.Program) {
	t.Helper()
	if e := show.Check(x); e != api.OK {
		t.Errorf("%s: Check: %v", told(x), e)
	}
	if s, e := show.Program(x); s == "" || e != api.OK {
		t.Errorf("%s: %v", told(x), e)
	}
}

// list has so many times the same.
func list[T any](n int, x T) []T { return slices.Repeat([]T{x}, n) }

// nested has so many names around a term.
func nested(n int, t api.Term) api.Term {
	for range n {
		t = named("f", t)
	}
	return t
}

// wide has 20 terms and those of the last one.
func wide(last api.Term) api.Term {
	g := named("g", list(4, num(1))...)
	return named("f", g, g, named("h", g, num(1), num(2), num(3)), last)
}

// endless has itself among its Args.
func endless() api.Term {
	t := named("f", num(1), num(2))
	t.Args[1] = t
	return t
}

// good are terms that may be, up to each limit.
func good() []api.Term {
	return []api.Term{aVar("X"), aVar("X" + strings.Repeat("y", api.MaxName-1)), num(0), num(api.MaxNum), num(-api.MaxNum), named("a"), named(strings.Repeat("a", api.MaxName)), named("f", list(api.MaxArgs, aVar("X"))...), nested(api.MaxDepth-1, num(1)), wide(named("h", num(1), aVar("Y"), named("b"))), {Kind: api.TermNum, Args: []api.Term{}}}
}

// bad are terms that may not be anywhere, but for the zero value where it must be.
func bad() []api.Term {
	return []api.Term{
		{Name: "a"}, {N: 1}, {Args: []api.Term{num(1)}}, {Kind: -1, Name: "a"}, {Kind: api.TermName + 1, Name: "a"}, {Kind: math.MaxInt, Name: "a"}, {Kind: math.MinInt, Name: "a"},
		aVar(""), aVar("x"), aVar("X-"), aVar("X" + strings.Repeat("y", api.MaxName)), {Kind: api.TermVar, Name: "X", N: 1}, {Kind: api.TermVar, Name: "X", Args: list(1, num(1))},
		num(api.MaxNum + 1), num(-api.MaxNum - 1), num(math.MinInt), {Kind: api.TermNum, Name: "a"}, {Kind: api.TermNum, N: 1, Args: list(1, num(1))},
		named(""), named("A"), named("1"), named("a b"), named("a\n"), named("ä"), named(strings.Repeat("a", api.MaxName+1)), {Kind: api.TermName, Name: "a", N: 1},
		named("f", api.Term{}), named("f", named("A")), named("f", list(api.MaxArgs+1, num(1))...), nested(api.MaxDepth, num(1)), wide(named("h", num(1), aVar("Y"), named("b"), num(2))), endless(),
	}
}

// P6.1: terms that may not be, and such as just may.
func TestTermForm(t *testing.T) {
	for _, x := range good() {
		if s, e := show.Term(x); s == "" || e != api.OK {
			t.Errorf("%s: %v", told(x), e)
		}
	}
	for i, x := range append(bad(), api.Term{}) {
		if s, e := show.Term(x); s != "" || e != api.ErrForm {
			t.Errorf("%d: %q, %v", i, s, e)
		}
	}
}

// sample is a program with all that may be in one: each call makes it anew, so that it may be spoiled.
func sample() api.Program {
	x, f := aVar("X"), named("f", aVar("X"))
	return api.Program{
		Clauses: []api.Clause{
			{Head: named("a")},
			{Head: named("b", x), Body: []api.Term{named("c", x, num(-1)), named("d")}, Guards: []api.Guard{guard(api.GuardLess, x, num(3)), guard(api.GuardOther, named("f", f), x)}},
		},
		Rules: []api.Rule{
			{Head: named("a"), Body: p("b"), Within: 1},
			{Head: named("g", f), Body: or(and(seq(of(f), p("b")), p("c")), not(rel(p("d"), api.RelMet, of(f)), p("e"), seq(of(named("h", f)), p("b")))), Guards: []api.Guard{guard(api.GuardMost, x, f), guard(api.GuardSame, num(1), x), isKnown(f), isUnknown(named("k"))}, Within: 9, Policy: api.PolicyFirst},
		},
	}
}

// patternsOf are all patterns within one, itself ahead of all.
func patternsOf(x *api.Pattern) []*api.Pattern {
	l := []*api.Pattern{x}
	for _, side := range [][]api.Pattern{x.L, x.C, x.R} {
		for i := range side {
			l = append(l, patternsOf(&side[i])...)
		}
	}
	return l
}

func guardsOf(x *api.Program) []*api.Guard {
	var l []*api.Guard
	for i := range x.Clauses {
		for k := range x.Clauses[i].Guards {
			l = append(l, &x.Clauses[i].Guards[k])
		}
	}
	for i := range x.Rules {
		for k := range x.Rules[i].Guards {
			l = append(l, &x.Rules[i].Guards[k])
		}
	}
	return l
}

// names are the terms of a program that must be names, atoms those of them that must be atoms, too, and others all others that must be.
func termsOf(x *api.Program) (names, atoms, others []*api.Term) {
	for i := range x.Clauses {
		c := &x.Clauses[i]
		atoms = append(atoms, &c.Head)
		for k := range c.Body {
			atoms = append(atoms, &c.Body[k])
		}
	}
	for i := range x.Rules {
		r := &x.Rules[i]
		names = append(names, &r.Head)
		for _, q := range patternsOf(&r.Body) {
			if q.Kind == api.PatTerm {
				names = append(names, &q.Term)
			}
		}
	}
	for _, g := range guardsOf(x) {
		if g.Kind >= api.GuardKnown {
			atoms = append(atoms, &g.L)
		} else {
			others = append(others, &g.L, &g.R)
		}
	}
	return append(names, atoms...), atoms, others
}

// spoil does one thing to each of some parts of the sample, each time of a new one, and hands the program on.
func spoil[T any](parts func(*api.Program) []*T, do func(*T), then func(api.Program)) {
	first := sample()
	for i := range parts(&first) {
		x := sample()
		do(parts(&x)[i])
		then(x)
	}
}

func allTerms(x *api.Program) []*api.Term {
	names, _, others := termsOf(x)
	return append(names, others...)
}

func onlyNames(x *api.Program) []*api.Term {
	names, _, _ := termsOf(x)
	return names
}

func onlyAtoms(x *api.Program) []*api.Term {
	_, atoms, _ := termsOf(x)
	return atoms
}

func noAtoms(x *api.Program) []*api.Term {
	names, atoms, others := termsOf(x)
	return append(names[:len(names)-len(atoms)], others...)
}

func onlyOthers(x *api.Program) []*api.Term {
	_, _, others := termsOf(x)
	return others
}

func put(u api.Term) func(*api.Term) { return func(t *api.Term) { *t = u } }

// P6.1: terms that may not be, wherever one stands, and such as may not be there alone.
func TestTermsInPrograms(t *testing.T) {
	takes(t, sample())
	no := func(x api.Program) { t.Helper(); refuses(t, x, "a term") }
	yes := func(x api.Program) { t.Helper(); takes(t, x) }
	for _, u := range append(bad(), api.Term{}) {
		spoil(allTerms, put(u), no)
	}
	for _, u := range []api.Term{aVar("X"), num(1), num(-1)} {
		spoil(onlyNames, put(u), no)
		spoil(onlyOthers, put(u), yes)
	}
	for _, u := range []api.Term{named("f", named("g", num(1))), named("f", num(1), named("g", aVar("X")))} {
		spoil(onlyAtoms, put(u), no)
		spoil(noAtoms, put(u), yes)
	}
	for _, u := range []api.Term{named("a"), named("f", list(api.MaxArgs, num(-1))...), named("f", aVar("X"), named("b"))} {
		spoil(allTerms, put(u), yes)
	}
	for _, u := range good() {
		spoil(onlyOthers, put(u), yes)
	}
}

// spoiled are patterns that may not be, made of one that may: of each kind each field that must not be so.
func spoiled(x api.Pattern) []api.Pattern {
	var l []api.Pattern
	with := func(change func(*api.Pattern)) {
		y := x
		change(&y)
		l = append(l, y)
	}
	for _, k := range []int{api.PatNone, -1, api.PatRel + 1, 64 + x.Kind, math.MaxInt, math.MinInt} {
		with(func(y *api.Pattern) { y.Kind = k })
	}
	rels := []int{-1, api.RelAfter + 1, math.MaxInt, math.MinInt}
	if x.Kind == api.PatRel {
		rels = append(rels, api.RelNone)
	} else {
		rels = append(rels, api.RelBefore, api.RelAfter)
	}
	for _, r := range rels {
		with(func(y *api.Pattern) { y.Rel = r })
	}
	if x.Kind == api.PatTerm {
		with(func(y *api.Pattern) { y.Term = api.Term{} })
	} else {
		for _, u := range []api.Term{named("a"), {Name: "a"}, {N: 1}, {Args: list(1, num(1))}, {Kind: api.TermNum}, {Kind: -1}} {
			with(func(y *api.Pattern) { y.Term = u })
		}
	}
	for i, n := range []int{len(x.L), len(x.R), len(x.C)} {
		for _, m := range []int{0, 1, 2, 3, 4, 5, 1000} {
			if m != n {
				with(func(y *api.Pattern) { *[]*[]api.Pattern{&y.L, &y.R, &y.C}[i] = list(m, p("a")) })
			}
		}
	}
	return l
}

// P6.1: each kind of pattern, at each place in another: each field that must be the zero value and isn't, or must not be it and is, and kinds and relations out of their range.
func TestPatternForm(t *testing.T) {
	bodies := func(x *api.Program) []*api.Pattern { return patternsOf(&x.Rules[1].Body) }
	whole := sample()
	for i, q := range bodies(&whole) {
		for k, y := range spoiled(*q) {
			x := sample()
			*bodies(&x)[i] = y
			refusesPattern(t, x.Rules[1].Body, told([]int{i, k}))
			refusesPattern(t, y, told([]int{i, k}))
		}
	}
	refusesPattern(t, api.Pattern{}, "nothing")
	refusesPattern(t, api.Pattern{Kind: api.PatTerm}, "no term")
	refusesPattern(t, of(aVar("X")), "a variable")
	refusesPattern(t, of(num(1)), "a number")
	takesPattern(t, of(nested(api.MaxDepth-1, aVar("X"))))
	refusesPattern(t, of(nested(api.MaxDepth, aVar("X"))), "a term too deep")
}

// P6.1: a list that is empty is one that is nil, wherever one must be so.
func TestEmptyLists(t *testing.T) {
	none := []api.Pattern{}
	x := api.Pattern{Kind: api.PatTerm, Term: api.Term{Kind: api.TermName, Name: "a", Args: []api.Term{}}, L: none, R: none, C: none}
	tellsPattern(t, x, "a")
	y := during(x, x)
	y.C, y.Term.Args = none, []api.Term{}
	tellsPattern(t, y, "a @during a")
	g := isKnown(x.Term)
	g.R.Args = []api.Term{}
	tellsProgram(t, api.Program{Clauses: []api.Clause{{Head: x.Term, Body: []api.Term{}, Guards: []api.Guard{}}}, Rules: []api.Rule{{Head: x.Term, Body: x, Guards: []api.Guard{}}}}, "a.\na <- a, within 0.\n")
	tellsProgram(t, simple(api.PolicyAll, g), "a <- b, within 1, where known a.\n")
}

// even takes so many terms together, as flat as can be.
func even(n int, join func(l, r api.Pattern) api.Pattern) api.Pattern {
	if n == 1 {
		return p("a")
	}
	return join(even(n/2, join), even(n-n/2, join))
}

// joins puts a pattern behind, or ahead of, another one in each way there is; three has the other twice.
func joins() (twice, thrice []func(l, r api.Pattern) api.Pattern) {
	a := p("a")
	for _, j := range []func(l, r api.Pattern) api.Pattern{seq, and, or, during} {
		twice = append(twice, j, func(l, r api.Pattern) api.Pattern { return j(r, l) })
	}
	thrice = append(thrice,
		func(l, r api.Pattern) api.Pattern { return not(l, a, r) },
		func(l, r api.Pattern) api.Pattern { return not(r, a, l) },
		func(l, r api.Pattern) api.Pattern { return not(a, l, r) },
		func(l, r api.Pattern) api.Pattern { return not(a, r, l) })
	return twice, thrice
}

// P6.1: MaxParts terms, those that must not be between, too, and not one more.
func TestMaxParts(t *testing.T) {
	twice, thrice := joins()
	for _, j := range twice {
		takesPattern(t, even(api.MaxParts, j))
		refusesPattern(t, even(api.MaxParts+1, j), "a term more")
		refusesPattern(t, even(100, j), "100 terms")
	}
	for _, j := range thrice {
		takesPattern(t, j(even(5, seq), even(6, and)))
		refusesPattern(t, j(even(6, seq), even(6, and)), "a term more")
		refusesPattern(t, j(even(6, seq), not(even(2, or), even(2, or), even(2, or))), "a term more")
		refusesPattern(t, j(even(90, seq), even(90, and)), "181 terms")
	}
	takesPattern(t, not(p("a"), even(10, or), p("b")))
	refusesPattern(t, not(p("a"), even(11, or), p("b")), "a term more between")
}

// deep has so many patterns within each other.
func deep(n int, join func(l, r api.Pattern) api.Pattern) api.Pattern {
	x := p("a")
	for range n - 1 {
		x = join(x, p("b"))
	}
	return x
}

// P6.1: MaxDeep patterns within each other, on each side, and not one more.
func TestMaxDeep(t *testing.T) {
	twice, thrice := joins()
	for _, j := range twice {
		takesPattern(t, deep(api.MaxDeep, j))
		refusesPattern(t, deep(api.MaxDeep+1, j), "one deeper")
		refusesPattern(t, deep(5000, j), "much deeper")
	}
	for _, j := range thrice {
		takesPattern(t, j(deep(api.MaxDeep-1, seq), p("b")))
		refusesPattern(t, j(deep(api.MaxDeep, seq), p("b")), "one deeper")
		takesPattern(t, and(p("a"), j(p("b"), deep(api.MaxDeep-2, seq))))
		refusesPattern(t, and(p("a"), j(p("b"), deep(api.MaxDeep-1, seq))), "one deeper")
		refusesPattern(t, deep(5000, j), "much deeper")
	}
}

// P6.1: patterns within themselves may not be; it is told all the same.
func TestEndlessPatterns(t *testing.T) {
	for _, k := range []int{api.PatSeq, api.PatAnd, api.PatOr, api.PatNot, api.PatRel} {
		l := make([]api.Pattern, 1)
		l[0] = api.Pattern{Kind: k, L: l, R: l}
		if k == api.PatNot {
			l[0].C = l
		}
		if k == api.PatRel {
			l[0].Rel = api.RelMet
		}
		refusesPattern(t, l[0], "endless")
		refusesPattern(t, seq(p("a"), l[0]), "endless")
	}
}

// P6.1: guards of kinds out of their range; what a guard that is known or unknown may not have; clauses have comparisons alone.
func TestGuardForm(t *testing.T) {
	no := func(x api.Program) { t.Helper(); refuses(t, x, "a guard") }
	for _, k := range []int{api.GuardNone, -1, api.GuardUnknown + 1, 64 + api.GuardLess, math.MaxInt, math.MinInt} {
		spoil(guardsOf, func(g *api.Guard) { g.Kind = k }, no)
	}
	for _, k := range []int{api.GuardKnown, api.GuardUnknown} {
		for _, r := range []api.Term{aVar("X"), num(0), named("a"), {Name: "a"}, {N: 1}, {Args: list(1, num(1))}, {Kind: -1}} {
			refuses(t, simple(api.PolicyAll, guard(k, named("f"), r)), "a right side")
		}
		refuses(t, clauses(api.Clause{Head: named("a"), Guards: []api.Guard{{Kind: k, L: named("f")}}}), "no comparison")
		refuses(t, clauses(api.Clause{Head: named("a"), Guards: []api.Guard{guard(api.GuardLess, num(1), num(2)), {Kind: k, L: named("f")}}}), "no comparison")
		takes(t, simple(api.PolicyAll, guard(k, named("f"), api.Term{})))
	}
	for k := api.GuardLess; k <= api.GuardOther; k++ {
		refuses(t, simple(api.PolicyAll, api.Guard{Kind: k, L: named("f")}), "no right side")
		refuses(t, simple(api.PolicyAll, api.Guard{Kind: k, R: named("f")}), "no left side")
		takes(t, simple(api.PolicyAll, guard(k, named("f"), named("g"))))
	}
}

// P6.1: policies and windows out of their range, and at its ends.
func TestRuleForm(t *testing.T) {
	rulesOf := func(x *api.Program) []*api.Rule { return []*api.Rule{&x.Rules[0], &x.Rules[1]} }
	no := func(x api.Program) { t.Helper(); refuses(t, x, "a rule") }
	yes := func(x api.Program) { t.Helper(); takes(t, x) }
	for _, n := range []int{-1, -api.MaxNum, api.MaxNum + 1, math.MaxInt, math.MinInt} {
		spoil(rulesOf, func(r *api.Rule) { r.Within = n }, no)
	}
	for _, n := range []int{0, 1, api.MaxNum - 1, api.MaxNum} {
		spoil(rulesOf, func(r *api.Rule) { r.Within = n }, yes)
	}
	for _, n := range []int{-1, api.PolicyFirst + 1, math.MaxInt, math.MinInt} {
		spoil(rulesOf, func(r *api.Rule) { r.Policy = n }, no)
	}
	for n := api.PolicyAll; n <= api.PolicyFirst; n++ {
		spoil(rulesOf, func(r *api.Rule) { r.Policy = n }, yes)
	}
	refuses(t, rules(api.Rule{}), "no rule")
	refuses(t, rules(api.Rule{Head: named("a")}), "no body")
	refuses(t, rules(api.Rule{Body: p("a")}), "no head")
	refuses(t, clauses(api.Clause{}), "no clause")
	refuses(t, clauses(api.Clause{Body: list(1, named("a"))}), "no head")
}

// P6.1: MaxBody, MaxGuards, MaxClause and MaxRules are met, and not one more.
func TestMaxLists(t *testing.T) {
	b, g, k := named("b"), guard(api.GuardLess, num(1), num(2)), isKnown(named("f"))
	for n, may := range map[int]bool{api.MaxBody: true, api.MaxBody + 1: false, 1000: false} {
		hold(t, clauses(api.Clause{Head: named("a"), Body: list(n, b)}), may)
		hold(t, clauses(api.Clause{Head: named("a")}, api.Clause{Head: named("a"), Body: list(n, b), Guards: list(api.MaxGuards, g)}), may)
	}
	for n, may := range map[int]bool{api.MaxGuards: true, api.MaxGuards + 1: false, 1000: false} {
		hold(t, clauses(api.Clause{Head: named("a"), Guards: list(n, g)}), may)
		hold(t, clauses(api.Clause{Head: named("a"), Body: list(api.MaxBody, b), Guards: list(n, g)}), may)
		hold(t, simple(api.PolicyAll, list(n, g)...), may)
		hold(t, simple(api.PolicyFirst, list(n, k)...), may)
		hold(t, simple(api.PolicyAll, append(list(n-2, k), g, g)...), may)
	}
	for n, may := range map[int]bool{api.MaxClause: true, api.MaxClause + 1: false, 1000: false} {
		hold(t, clauses(list(n, api.Clause{Head: b})...), may)
		hold(t, api.Program{Clauses: list(n, api.Clause{Head: b}), Rules: list(api.MaxRules, simple(api.PolicyAll).Rules[0])}, may)
	}
	for n, may := range map[int]bool{api.MaxRules: true, api.MaxRules + 1: false, 1000: false} {
		hold(t, rules(list(n, simple(api.PolicyAll).Rules[0])...), may)
		hold(t, api.Program{Clauses: list(api.MaxClause, api.Clause{Head: b}), Rules: list(n, simple(api.PolicyAll).Rules[0])}, may)
	}
}

func hold(t *testing.T, x api.Program, may bool) {
	t.Helper()
	if may {
		takes(t, x)
	} else {
		refuses(t, x, "one more")
	}
}

// P6.1: what is beyond MaxText is shown all the same.
func TestLongTexts(t *testing.T) {
	wideTerm := named(strings.Repeat("a", api.MaxName), list(3, named(strings.Repeat("b", api.MaxName), list(4, named(strings.Repeat("c", api.MaxName)))...))...)
	var l []string
	for range api.MaxParts {
		s, _ := show.Term(wideTerm)
		l = append(l, s)
	}
	x := of(wideTerm)
	for range 3 {
		x = seq(x, of(wideTerm))
	}
	y := and(and(x, x), x)
	text := strings.Join(l[:4], " ; ")
	text = text + " & " + text + " & " + text
	tellsPattern(t, y, text)
	tellsProgram(t, rules(list(api.MaxRules, api.Rule{Head: wideTerm, Body: y, Within: 5})...), strings.Repeat(l[0]+" <- "+text+", within 5.\n", api.MaxRules))
}
