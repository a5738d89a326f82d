package show_test

import (
	"fmt"
	"strings"
	"testing"

	"almagest/api"
	"almagest/show"
)

func aVar(s string) api.Term { return api.Term{Kind: api.TermVar, Name: s} }

func num(n int) api.Term { return api.Term{Kind: api.TermNum, N: n} }

func named(s string, args ...api.Term) api.Term {
	return api.Term{Kind: api.TermName, Name: s, Args: args}
}

// of is the pattern of a term.
func of(t api.Term) api.Pattern { return api.Pattern{Kind: api.PatTerm, Term: t} }

// p is the pattern of a name alone.
func p(s string) api.Pattern { return of(named(s)) }

func two(kind int, l, r api.Pattern) api.Pattern {
	return api.Pattern{Kind: kind, L: []api.Pattern{l}, R: []api.Pattern{r}}
}

func seq(l, r api.Pattern) api.Pattern { return two(api.PatSeq, l, r) }

func and(l, r api.Pattern) api.Pattern { return two(api.PatAnd, l, r) }

func or(l, r api.Pattern) api.Pattern { return two(api.PatOr, l, r) }

func not(l, c, r api.Pattern) api.Pattern {
	x := two(api.PatNot, l, r)
	x.C = []api.Pattern{c}
	return x
}

func rel(l api.Pattern, n int, r api.Pattern) api.Pattern {
	x := two(api.PatRel, l, r)
	x.Rel = n
	return x
}

// during is the one relation that stands for all others where any will do.
func during(l, r api.Pattern) api.Pattern { return rel(l, api.RelDuring, r) }

func guard(kind int, l, r api.Term) api.Guard { return api.Guard{Kind: kind, L: l, R: r} }

func isKnown(t api.Term) api.Guard { return api.Guard{Kind: api.GuardKnown, L: t} }

func isUnknown(t api.Term) api.Guard { return api.Guard{Kind: api.GuardUnknown, L: t} }

func rules(l ...api.Rule) api.Program { return api.Program{Rules: l} }

func clauses(l ...api.Clause) api.Program { return api.Program{Clauses: l} }

// simple is the rule "a <- b, within 1", with guards.
func simple(policy int, guards ...api.Guard) api.Program {
	return rules(api.Rule{Head: named("a"), Body: p("b"), Guards: guards, Within: 1, Policy: policy})
}

// relNames are the relations' names, from RelBefore on.
func relNames() []string {
	return strings.Fields("before meets overlaps starts during ends equal ended holds started overlapped met after")
}

// words are names that elsewhere are more than names.
func words() []string {
	return append(strings.Fields("known unknown recent first within where"), relNames()...)
}

// told is all of a value: a list that is nil and one that is empty are one in it.
func told(x any) string { return fmt.Sprintf("%+v", x) }

// tells holds a text, to the letter, and that what is handed in stays what it is.
func tells[T any](t *testing.T, text func(T) (string, api.Errno), x T, want string) {
	t.Helper()
	ahead := told(x)
	for range 2 {
		if s, e := text(x); s != want || e != api.OK {
			t.Errorf("%q, %v, not %q", s, e, want)
		}
	}
	if told(x) != ahead {
		t.Errorf("%s: changed to %s", ahead, told(x))
	}
}

func tellsPattern(t *testing.T, x api.Pattern, want string) {
	t.Helper()
	if e := show.May(x); e != api.OK {
		t.Errorf("%s: %v", want, e)
	}
	tells(t, show.Pattern, x, want)
}

func tellsProgram(t *testing.T, x api.Program, want string) {
	t.Helper()
	if e := show.Check(x); e != api.OK {
		t.Errorf("%s: %v", want, e)
	}
	tells(t, show.Program, x, want)
}

// P6.1: the example of the chapter.
func TestExample(t *testing.T) {
	tellsPattern(t, seq(p("a"), p("b")), "a ; b")
}

// P6.1: terms with and without arguments, numbers of both signs.
func TestTerms(t *testing.T) {
	tells(t, show.Term, aVar("X"), "X")
	tells(t, show.Term, aVar("Xy_1"), "Xy_1")
	tells(t, show.Term, num(0), "0")
	tells(t, show.Term, num(5), "5")
	tells(t, show.Term, num(-5), "-5")
	tells(t, show.Term, num(api.MaxNum), "1073741824")
	tells(t, show.Term, num(-api.MaxNum), "-1073741824")
	tells(t, show.Term, named("a"), "a")
	tells(t, show.Term, named("aZ_9"), "aZ_9")
	tells(t, show.Term, named("f", aVar("X")), "f(X)")
	tells(t, show.Term, named("f", num(-1)), "f(-1)")
	tells(t, show.Term, named("f", named("a")), "f(a)")
	tells(t, show.Term, named("f", aVar("X"), num(-1), named("g", named("b"), num(7)), aVar("Y")), "f(X,-1,g(b,7),Y)")
	tells(t, show.Term, named("f", named("g", named("h", named("i", aVar("X"))))), "f(g(h(i(X))))")
	tells(t, show.Term, named("f", named("g", num(1), num(2)), named("g", num(3), num(4))), "f(g(1,2),g(3,4))")
	for _, s := range words() {
		tells(t, show.Term, named(s), s)
		tells(t, show.Term, named(s, named(s), aVar("X")), s+"("+s+",X)")
	}
}

// P6.1: patterns of each kind.
func TestPatterns(t *testing.T) {
	tellsPattern(t, p("a"), "a")
	tellsPattern(t, of(named("f", aVar("X"), num(-1), named("g", aVar("Y")))), "f(X,-1,g(Y))")
	tellsPattern(t, seq(p("a"), p("b")), "a ; b")
	tellsPattern(t, and(p("a"), p("b")), "a & b")
	tellsPattern(t, or(p("a"), p("b")), "a | b")
	tellsPattern(t, not(p("a"), p("c"), p("b")), `a ; \+(c) ; b`)
	tellsPattern(t, not(of(named("f", aVar("X"))), of(named("g", num(-2))), of(named("h", named("i", num(3))))), `f(X) ; \+(g(-2)) ; h(i(3))`)
	for i, s := range relNames() {
		tellsPattern(t, rel(p("a"), api.RelBefore+i, p("b")), "a @"+s+" b")
		tellsPattern(t, rel(p(s), api.RelBefore+i, p(s)), s+" @"+s+" "+s)
	}
	for _, s := range words() {
		tellsPattern(t, p(s), s)
		tellsPattern(t, not(p(s), p(s), p(s)), s+` ; \+(`+s+") ; "+s)
		tellsPattern(t, or(and(seq(p(s), p(s)), of(named(s, num(1)))), p(s)), s+" ; "+s+" & "+s+"(1) | "+s)
	}
}

// inner are patterns of each kind with two or three parts, by rising kinds.
func inner() []api.Pattern {
	b, c, d := p("b"), p("c"), p("d")
	return []api.Pattern{seq(b, c), and(b, c), or(b, c), not(b, d, c), during(b, c)}
}

// P6.1: each two kinds within each other, on each side: brackets just where read needs them.
func TestEachTwoKinds(t *testing.T) {
	a, e := p("a"), p("e")
	for _, x := range []struct {
		around func(api.Pattern) api.Pattern
		texts  [5]string
	}{
		{func(x api.Pattern) api.Pattern { return seq(x, a) }, [...]string{"b ; c ; a", "(b & c) ; a", "(b | c) ; a", `b ; \+(d) ; c ; a`, "(b @during c) ; a"}},
		{func(x api.Pattern) api.Pattern { return seq(a, x) }, [...]string{"a ; (b ; c)", "a ; (b & c)", "a ; (b | c)", `a ; (b ; \+(d) ; c)`, "a ; (b @during c)"}},
		{func(x api.Pattern) api.Pattern { return and(x, a) }, [...]string{"b ; c & a", "b & c & a", "(b | c) & a", `b ; \+(d) ; c & a`, "b @during c & a"}},
		{func(x api.Pattern) api.Pattern { return and(a, x) }, [...]string{"a & b ; c", "a & (b & c)", "a & (b | c)", `a & b ; \+(d) ; c`, "a & b @during c"}},
		{func(x api.Pattern) api.Pattern { return or(x, a) }, [...]string{"b ; c | a", "b & c | a", "b | c | a", `b ; \+(d) ; c | a`, "b @during c | a"}},
		{func(x api.Pattern) api.Pattern { return or(a, x) }, [...]string{"a | b ; c", "a | b & c", "a | (b | c)", `a | b ; \+(d) ; c`, "a | b @during c"}},
		{func(x api.Pattern) api.Pattern { return rel(x, api.RelMet, a) }, [...]string{"b ; c @met a", "(b & c) @met a", "(b | c) @met a", `b ; \+(d) ; c @met a`, "(b @during c) @met a"}},
		{func(x api.Pattern) api.Pattern { return rel(a, api.RelMet, x) }, [...]string{"a @met b ; c", "a @met (b & c)", "a @met (b | c)", `a @met b ; \+(d) ; c`, "a @met (b @during c)"}},
		{func(x api.Pattern) api.Pattern { return not(x, e, a) }, [...]string{`b ; c ; \+(e) ; a`, `(b & c) ; \+(e) ; a`, `(b | c) ; \+(e) ; a`, `b ; \+(d) ; c ; \+(e) ; a`, `(b @during c) ; \+(e) ; a`}},
		{func(x api.Pattern) api.Pattern { return not(a, x, e) }, [...]string{`a ; \+(b ; c) ; e`, `a ; \+(b & c) ; e`, `a ; \+(b | c) ; e`, `a ; \+(b ; \+(d) ; c) ; e`, `a ; \+(b @during c) ; e`}},
		{func(x api.Pattern) api.Pattern { return not(a, e, x) }, [...]string{`a ; \+(e) ; (b ; c)`, `a ; \+(e) ; (b & c)`, `a ; \+(e) ; (b | c)`, `a ; \+(e) ; (b ; \+(d) ; c)`, `a ; \+(e) ; (b @during c)`}},
	} {
		for i, y := range inner() {
			tellsPattern(t, x.around(y), x.texts[i])
		}
	}
}

// P6.1: three kinds within each other.
func TestThreeKinds(t *testing.T) {
	a, b, c, d, e := p("a"), p("b"), p("c"), p("d"), p("e")
	tellsPattern(t, or(or(a, and(b, during(c, seq(d, a)))), b), "a | b & c @during d ; a | b")
	tellsPattern(t, seq(and(or(a, b), c), d), "((a | b) & c) ; d")
	tellsPattern(t, seq(a, and(b, or(c, d))), "a ; (b & (c | d))")
	tellsPattern(t, and(a, during(b, or(c, d))), "a & b @during (c | d)")
	tellsPattern(t, during(and(seq(a, b), c), d), "(a ; b & c) @during d")
	tellsPattern(t, seq(seq(a, seq(b, c)), d), "a ; (b ; c) ; d")
	tellsPattern(t, and(and(a, and(b, c)), d), "a & (b & c) & d")
	tellsPattern(t, or(or(a, or(b, c)), d), "a | (b | c) | d")
	tellsPattern(t, during(during(a, b), during(c, d)), "(a @during b) @during (c @during d)")
	tellsPattern(t, not(not(a, b, c), d, not(a, b, c)), `a ; \+(b) ; c ; \+(d) ; (a ; \+(b) ; c)`)
	tellsPattern(t, not(a, not(b, not(c, d, e), c), b), `a ; \+(b ; \+(c ; \+(d) ; e) ; c) ; b`)
	tellsPattern(t, seq(not(or(a, b), or(c, d), or(e, a)), b), `(a | b) ; \+(c | d) ; (e | a) ; b`)
	tellsPattern(t, seq(a, not(b, and(c, or(d, e)), a)), `a ; (b ; \+(c & (d | e)) ; a)`)
	tellsPattern(t, or(a, not(seq(b, c), during(d, e), seq(a, b))), `a | b ; c ; \+(d @during e) ; (a ; b)`)
}

// P6.1: clauses with and without bodies and guards: terms ahead of comparisons.
func TestClauses(t *testing.T) {
	x, y := aVar("X"), aVar("Y")
	tellsProgram(t, clauses(api.Clause{Head: named("a")}), "a.\n")
	tellsProgram(t, clauses(api.Clause{Head: named("f", x, num(-1), named("b"))}), "f(X,-1,b).\n")
	tellsProgram(t, clauses(api.Clause{Head: named("a"), Body: []api.Term{named("b")}}), "a :- b.\n")
	tellsProgram(t, clauses(api.Clause{Head: named("g", x), Body: []api.Term{named("f", x, y), named("h"), named("f", y, x)}}), "g(X) :- f(X,Y), h, f(Y,X).\n")
	for i, op := range []string{"<", "=<", "=", `\=`} {
		g := guard(api.GuardLess+i, x, num(-3))
		tellsProgram(t, clauses(api.Clause{Head: named("a"), Guards: []api.Guard{g}}), "a :- X "+op+" -3.\n")
		tellsProgram(t, clauses(api.Clause{Head: named("a"), Body: []api.Term{named("b", x)}, Guards: []api.Guard{g}}), "a :- b(X), X "+op+" -3.\n")
	}
	tellsProgram(t, clauses(api.Clause{Head: named("a"), Body: []api.Term{named("b"), named("c")}, Guards: []api.Guard{guard(api.GuardSame, named("f", named("g", x)), y), guard(api.GuardLess, num(1), named("b"))}}), "a :- b, c, f(g(X)) = Y, 1 < b.\n")
	for _, s := range words() {
		tellsProgram(t, clauses(api.Clause{Head: named(s), Body: []api.Term{named(s), named(s, x)}, Guards: []api.Guard{guard(api.GuardLess, named(s), named(s))}}), s+" :- "+s+", "+s+"(X), "+s+" < "+s+".\n")
	}
}

// P6.1: rules with and without guards and policies; guards of each kind.
func TestRules(t *testing.T) {
	x := aVar("X")
	tellsProgram(t, simple(api.PolicyAll), "a <- b, within 1.\n")
	tellsProgram(t, simple(api.PolicyRecent), "a <- b, within 1, recent.\n")
	tellsProgram(t, simple(api.PolicyFirst), "a <- b, within 1, first.\n")
	tellsProgram(t, simple(api.PolicyAll, isKnown(named("f", x))), "a <- b, within 1, where known f(X).\n")
	tellsProgram(t, simple(api.PolicyAll, isUnknown(named("f", x, num(-1)))), "a <- b, within 1, where unknown f(X,-1).\n")
	for i, op := range []string{"<", "=<", "=", `\=`} {
		for _, l := range []api.Term{x, num(-4), named("b"), named("f", x, named("g", num(1)))} {
			s, _ := show.Term(l)
			tellsProgram(t, simple(api.PolicyAll, guard(api.GuardLess+i, l, num(-1))), "a <- b, within 1, where "+s+" "+op+" -1.\n")
			tellsProgram(t, simple(api.PolicyRecent, guard(api.GuardLess+i, x, l)), "a <- b, within 1, where X "+op+" "+s+", recent.\n")
		}
	}
	tellsProgram(t, simple(api.PolicyFirst, isKnown(named("f")), guard(api.GuardLess, x, num(3)), isUnknown(named("g")), guard(api.GuardOther, x, x)), `a <- b, within 1, where known f, X < 3, unknown g, X \= X, first.`+"\n")
	for _, n := range []int{0, 7, api.MaxNum} {
		tellsProgram(t, rules(api.Rule{Head: named("f", named("g", x)), Body: or(p("a"), not(p("b"), p("c"), p("d"))), Within: n}), fmt.Sprintf(`f(g(X)) <- a | b ; \+(c) ; d, within %d.`+"\n", n))
	}
	for _, s := range words() {
		tellsProgram(t, rules(api.Rule{Head: named(s), Body: p(s), Within: 2}), s+" <- "+s+", within 2.\n")
	}
}

// P6.1: "recent" and "first" are shown where a policy is one, and as names wherever a name may stand.
func TestPolicies(t *testing.T) {
	for s, policy := range map[string]int{"recent": api.PolicyRecent, "first": api.PolicyFirst} {
		r := named(s)
		tellsProgram(t, simple(api.PolicyAll, guard(api.GuardSame, aVar("X"), r)), "a <- b, within 1, where X = "+s+".\n")
		tellsProgram(t, simple(policy, guard(api.GuardSame, aVar("X"), r)), "a <- b, within 1, where X = "+s+", "+s+".\n")
		tellsProgram(t, simple(api.PolicyAll, isKnown(r)), "a <- b, within 1, where known "+s+".\n")
		tellsProgram(t, simple(policy, isUnknown(r), guard(api.GuardLess, r, r)), "a <- b, within 1, where unknown "+s+", "+s+" < "+s+", "+s+".\n")
		tellsProgram(t, rules(api.Rule{Head: r, Body: seq(p(s), p(s)), Policy: policy}), s+" <- "+s+" ; "+s+", within 0, "+s+".\n")
		tellsProgram(t, clauses(api.Clause{Head: r, Body: []api.Term{r}}), s+" :- "+s+".\n")
	}
}

// P6.1: all clauses, then all rules, in order, each on a row of its own.
func TestPrograms(t *testing.T) {
	tellsProgram(t, api.Program{}, "")
	tellsProgram(t, api.Program{Clauses: []api.Clause{}, Rules: []api.Rule{}}, "")
	tellsProgram(t, api.Program{
		Clauses: []api.Clause{{Head: named("c")}, {Head: named("b"), Body: []api.Term{named("c")}}, {Head: named("c")}},
		Rules:   []api.Rule{{Head: named("e"), Body: p("d"), Within: 1}, {Head: named("a"), Body: and(p("e"), p("d")), Policy: api.PolicyRecent}},
	}, "c.\nb :- c.\nc.\ne <- d, within 1.\na <- e & d, within 0, recent.\n")
	tellsProgram(t, rules(api.Rule{Head: named("b"), Body: p("d")}, api.Rule{Head: named("a"), Body: p("d")}), "b <- d, within 0.\na <- d, within 0.\n")
}
