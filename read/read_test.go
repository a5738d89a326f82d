package read

import (
	"fmt"
	"strings"
	"testing"

	"almagest/api"
)

func aVar(s string) api.Term { return api.Term{Kind: api.TermVar, Name: s} }

func num(n int) api.Term { return api.Term{Kind: api.TermNum, N: n} }

func named(s string, args ...api.Term) api.Term {
	return api.Term{Kind: api.TermName, Name: s, Args: args}
}

// of is the pattern of a term.
func of(t api.Term) api.Pattern { return api.Pattern{Kind: api.PatTerm, Term: t} }

// p is the pattern of a name alone.
func p(s string) api.Pattern { return of(named(s)) }

func two(kind int, l, r api.Pattern) api.Pattern {
	return api.Pattern{Kind: kind, L: []api.Pattern{l}, R: []api.Pattern{r}}
}

func seq(l, r api.Pattern) api.Pattern { return two(api.PatSeq, l, r) }

func and(l, r api.Pattern) api.Pattern { return two(api.PatAnd, l, r) }

func or(l, r api.Pattern) api.Pattern { return two(api.PatOr, l, r) }

func not(l, c, r api.Pattern) api.Pattern {
	x := two(api.PatNot, l, r)
	x.C = []api.Pattern{c}
	return x
}

func rel(l api.Pattern, n int, r api.Pattern) api.Pattern {
	x := two(api.PatRel, l, r)
	x.Rel = n
	return x
}

func guard(kind int, l, r api.Term) api.Guard { return api.Guard{Kind: kind, L: l, R: r} }

func isKnown(t api.Term) api.Guard { return api.Guard{Kind: api.GuardKnown, L: t} }

func isUnknown(t api.Term) api.Guard { return api.Guard{Kind: api.GuardUnknown, L: t} }

func rules(l ...api.Rule) api.Program { return api.Program{Rules: l} }

func clauses(l ...api.Clause) api.Program { return api.Program{Clauses: l} }

func fact(t api.Term) api.Clause { return api.Clause{Head: t} }

// simple is the rule "head <- body, within 1", with guards.
func simple(policy int, guards ...api.Guard) api.Program {
	return rules(api.Rule{Head: named("a"), Body: p("b"), Guards: guards, Within: 1, Policy: policy})
}

// call is one of the three.
type call[T any] func(string) (T, int, api.Errno)

// told is all of a value: a list that is nil and one that is empty are one in it.
func told(x any) string { return fmt.Sprintf("%+v", x) }

// short is what a failing test shows of a text.
func short(s string) string {
	if len(s) > 200 {
		return fmt.Sprintf("%q and so on, %d bytes", s[:200], len(s))
	}
	return fmt.Sprintf("%q", s)
}

// tells holds what is read, each field of it, and no place beside it.
func tells[T any](t *testing.T, read call[T], s string, want T) {
	t.Helper()
	if x, at, e := read(s); told(x) != told(want) || at != 0 || e != api.OK {
		t.Errorf("%s: %s, %d, %v, not %s", short(s), told(x), at, e, told(want))
	}
}

// errs takes a text with ^ ahead of the place at which the error is told, and holds that nothing is read beside it.
func errs[T any](t *testing.T, read call[T], s string, want api.Errno) {
	t.Helper()
	place := strings.Index(s, "^")
	s = strings.Replace(s, "^", "", 1)
	var none T
	if x, at, e := read(s); told(x) != told(none) || at != place || e != want {
		t.Errorf("%s: %s, %d, %v, not %d, %v", short(s), told(x), at, e, place, want)
	}
}

// P5.1: the example of the chapter.
func TestExample(t *testing.T) {
	tells(t, Program, "a <- b ; c, within 5.", rules(api.Rule{Head: named("a"), Body: seq(p("b"), p("c")), Within: 5}))
}

// P5.1: terms of each kind, within each other.
func TestTerms(t *testing.T) {
	tells(t, Term, "X", aVar("X"))
	tells(t, Term, "Xy_1", aVar("Xy_1"))
	tells(t, Term, "5", num(5))
	tells(t, Term, "-5", num(-5))
	tells(t, Term, "-0", num(0))
	tells(t, Term, "-1073741824", num(-api.MaxNum))
	tells(t, Term, "1073741824", num(api.MaxNum))
	tells(t, Term, "a", named("a"))
	tells(t, Term, "f(X)", named("f", aVar("X")))
	tells(t, Term, "f(1)", named("f", num(1)))
	tells(t, Term, "f(a)", named("f", named("a")))
	tells(t, Term, "f(X,-1,g(b),Y)", named("f", aVar("X"), num(-1), named("g", named("b")), aVar("Y")))
	tells(t, Term, "f(g(h(i(X))))", named("f", named("g", named("h", named("i", aVar("X"))))))
	tells(t, Term, "f(g(1,2),g(3,4))", named("f", named("g", num(1), num(2)), named("g", num(3), num(4))))
	tells(t, Term, " f \n( X\t, % remark )\n g ( 1 ) ) ", named("f", aVar("X"), named("g", num(1))))
	for _, s := range words() {
		tells(t, Term, s, named(s))
		tells(t, Term, s+"("+s+", X)", named(s, named(s), aVar("X")))
	}
}

// words are names that elsewhere are more than names.
func words() []string {
	return append([]string{"known", "unknown", "recent", "first", "within", "where"}, relNames()...)
}

// relNames are the relations' names, from RelBefore on.
func relNames() []string {
	return []string{"before", "meets", "overlaps", "starts", "during", "ends", "equal", "ended", "holds", "started", "overlapped", "met", "after"}
}

// P5.1: patterns of each kind.
func TestPatterns(t *testing.T) {
	tells(t, Pattern, "a", p("a"))
	tells(t, Pattern, "f(X, 1)", of(named("f", aVar("X"), num(1))))
	tells(t, Pattern, "X", of(aVar("X")))
	tells(t, Pattern, "-3", of(num(-3)))
	tells(t, Pattern, "a ; b", seq(p("a"), p("b")))
	tells(t, Pattern, "a & b", and(p("a"), p("b")))
	tells(t, Pattern, "a | b", or(p("a"), p("b")))
	tells(t, Pattern, `a ; \+(c) ; b`, not(p("a"), p("c"), p("b")))
	tells(t, Pattern, "f(X);g(Y)&2|Z", or(and(seq(of(named("f", aVar("X"))), of(named("g", aVar("Y")))), of(num(2))), of(aVar("Z"))))
	for i, s := range relNames() {
		tells(t, Pattern, "a @ "+s+" b", rel(p("a"), api.RelBefore+i, p("b")))
		tells(t, Pattern, s+"@"+s+" "+s, rel(p(s), api.RelBefore+i, p(s)))
		tells(t, Pattern, "a@"+s+"(b)", rel(p("a"), api.RelBefore+i, p("b")))
	}
	for _, s := range words() {
		tells(t, Pattern, s, p(s))
		tells(t, Pattern, s+";"+s+"&"+s+"(1)|"+s, or(and(seq(p(s), p(s)), of(named(s, num(1)))), p(s)))
		tells(t, Pattern, s+`;\+(`+s+`);`+s, not(p(s), p(s), p(s)))
	}
}

// P5.1: @ has both its parts, whatever stands on its sides and wherever it stands itself: no answer is handed back ahead of its second part.
func TestBothParts(t *testing.T) {
	tells(t, Pattern, "a @met b", rel(p("a"), api.RelMet, p("b")))
	met := func(l, r api.Pattern) api.Pattern { return rel(l, api.RelMet, r) }
	sides := []api.Pattern{p("a"), of(named("f", aVar("X"), num(-1))), seq(p("a"), p("b")), not(p("a"), p("b"), p("c"))}
	texts := []string{"a", "f(X,-1)", "a ; b", `a ; \+(b) ; c`}
	for i, l := range sides {
		for j, r := range sides {
			x, s := met(l, r), texts[i]+" @met "+texts[j]
			tells(t, Pattern, s, x)
			tells(t, Pattern, "("+s+") @met ("+s+")", met(x, x))
			tells(t, Pattern, s+" & "+s, and(x, x))
			tells(t, Pattern, s+" | "+s, or(x, x))
			tells(t, Pattern, `d ; \+(`+s+") ; e", not(p("d"), x, p("e")))
		}
	}
	tells(t, Program, "a <- b @met c, within 1.", rules(api.Rule{Head: named("a"), Body: met(p("b"), p("c")), Within: 1}))
}

// P5.1: brackets around a part, as many as one likes, are no part of it.
func TestBrackets(t *testing.T) {
	tells(t, Pattern, "(a)", p("a"))
	tells(t, Pattern, "(((f(1))))", of(named("f", num(1))))
	tells(t, Pattern, "((a) ; ((b)))", seq(p("a"), p("b")))
	tells(t, Pattern, `(a) ; \+(((c))) ; (b)`, not(p("a"), p("c"), p("b")))
	tells(t, Pattern, "((a | b))", or(p("a"), p("b")))
	errs(t, Pattern, "(a^", api.ErrBad)
	errs(t, Pattern, "(a)^)", api.ErrBad)
	errs(t, Pattern, "(^)", api.ErrBad)
	errs(t, Pattern, "(a)^(b)", api.ErrBad)
	errs(t, Pattern, "f(^(", api.ErrBad)
}

// P5.1: | & ; take together from the left; @ takes two rows, and no third.
func TestFromTheLeft(t *testing.T) {
	a, b, c, d := p("a"), p("b"), p("c"), p("d")
	tells(t, Pattern, "a ; b ; c", seq(seq(a, b), c))
	tells(t, Pattern, "a & b & c", and(and(a, b), c))
	tells(t, Pattern, "a | b | c", or(or(a, b), c))
	tells(t, Pattern, "a ; b ; c ; d", seq(seq(seq(a, b), c), d))
	tells(t, Pattern, "a & b & c & d", and(and(and(a, b), c), d))
	tells(t, Pattern, "a | b | c | d", or(or(or(a, b), c), d))
	tells(t, Pattern, "a ; (b ; c)", seq(a, seq(b, c)))
	tells(t, Pattern, "a & (b & c)", and(a, and(b, c)))
	tells(t, Pattern, "a | (b | c)", or(a, or(b, c)))
	tells(t, Pattern, `a ; \+(b) ; c ; d`, seq(not(a, b, c), d))
	tells(t, Pattern, `a ; b ; \+(c) ; d`, not(seq(a, b), c, d))
	tells(t, Pattern, `a ; \+(b) ; c ; \+(d) ; a`, not(not(a, b, c), d, a))
	tells(t, Pattern, `a ; \+(b) ; (c ; d)`, not(a, b, seq(c, d)))
	tells(t, Pattern, `a ; (b ; \+(c) ; d)`, seq(a, not(b, c, d)))
	errs(t, Pattern, "a @ before b ^@ before c", api.ErrBad)
	tells(t, Pattern, "(a @ before b) @ after c", rel(rel(a, api.RelBefore, b), api.RelAfter, c))
	tells(t, Pattern, "a @ before (b @ after c)", rel(a, api.RelBefore, rel(b, api.RelAfter, c)))
}

// P5.1: each two kinds within each other, without brackets as the grammar has it, and with brackets the other way round.
func TestEachTwoKinds(t *testing.T) {
	a, b, c, d := p("a"), p("b"), p("c"), p("d")
	r := api.RelDuring
	tells(t, Pattern, "a | b & c", or(a, and(b, c)))
	tells(t, Pattern, "a & b | c", or(and(a, b), c))
	tells(t, Pattern, "a & (b | c)", and(a, or(b, c)))
	tells(t, Pattern, "(a | b) & c", and(or(a, b), c))
	tells(t, Pattern, "a | b @ during c", or(a, rel(b, r, c)))
	tells(t, Pattern, "a @ during b | c", or(rel(a, r, b), c))
	tells(t, Pattern, "a @ during (b | c)", rel(a, r, or(b, c)))
	tells(t, Pattern, "(a | b) @ during c", rel(or(a, b), r, c))
	tells(t, Pattern, "a & b @ during c", and(a, rel(b, r, c)))
	tells(t, Pattern, "a @ during b & c", and(rel(a, r, b), c))
	tells(t, Pattern, "a @ during (b & c)", rel(a, r, and(b, c)))
	tells(t, Pattern, "(a & b) @ during c", rel(and(a, b), r, c))
	tells(t, Pattern, "a | b ; c", or(a, seq(b, c)))
	tells(t, Pattern, "a ; b | c", or(seq(a, b), c))
	tells(t, Pattern, "a ; (b | c)", seq(a, or(b, c)))
	tells(t, Pattern, "(a | b) ; c", seq(or(a, b), c))
	tells(t, Pattern, "a & b ; c", and(a, seq(b, c)))
	tells(t, Pattern, "a ; b & c", and(seq(a, b), c))
	tells(t, Pattern, "a ; (b & c)", seq(a, and(b, c)))
	tells(t, Pattern, "(a & b) ; c", seq(and(a, b), c))
	tells(t, Pattern, "a @ during b ; c", rel(a, r, seq(b, c)))
	tells(t, Pattern, "a ; b @ during c", rel(seq(a, b), r, c))
	tells(t, Pattern, "a ; (b @ during c)", seq(a, rel(b, r, c)))
	tells(t, Pattern, "(a @ during b) ; c", seq(rel(a, r, b), c))
	tells(t, Pattern, `a | b ; \+(c) ; d`, or(a, not(b, c, d)))
	tells(t, Pattern, `a ; \+(b) ; c | d`, or(not(a, b, c), d))
	tells(t, Pattern, `a ; \+(b | c) ; d`, not(a, or(b, c), d))
	tells(t, Pattern, `(a | b) ; \+(c) ; d`, not(or(a, b), c, d))
	tells(t, Pattern, `a ; \+(b) ; (c | d)`, not(a, b, or(c, d)))
	tells(t, Pattern, `a & b ; \+(c) ; d`, and(a, not(b, c, d)))
	tells(t, Pattern, `a ; \+(b) ; c & d`, and(not(a, b, c), d))
	tells(t, Pattern, `a ; \+(b & c) ; d`, not(a, and(b, c), d))
	tells(t, Pattern, `(a & b) ; \+(c) ; d`, not(and(a, b), c, d))
	tells(t, Pattern, `a ; \+(b) ; (c & d)`, not(a, b, and(c, d)))
	tells(t, Pattern, `a @ during b ; \+(c) ; d`, rel(a, r, not(b, c, d)))
	tells(t, Pattern, `a ; \+(b) ; c @ during d`, rel(not(a, b, c), r, d))
	tells(t, Pattern, `a ; \+(b @ during c) ; d`, not(a, rel(b, r, c), d))
	tells(t, Pattern, `(a @ during b) ; \+(c) ; d`, not(rel(a, r, b), c, d))
	tells(t, Pattern, `a ; \+(b) ; (c @ during d)`, not(a, b, rel(c, r, d)))
	tells(t, Pattern, `a ; \+(b ; c) ; d`, not(a, seq(b, c), d))
	tells(t, Pattern, `a ; \+(b ; \+(c) ; d) ; a`, not(a, not(b, c, d), a))
	tells(t, Pattern, `a | b & c @ during d ; a | b`, or(or(a, and(b, rel(c, r, seq(d, a)))), b))
}

// P5.1: facts and clauses; terms and comparisons each in their list, in order.
func TestClauses(t *testing.T) {
	tells(t, Program, "a.", clauses(fact(named("a"))))
	tells(t, Program, "f(1, b).", clauses(fact(named("f", num(1), named("b")))))
	tells(t, Program, "X.", clauses(fact(aVar("X"))))
	tells(t, Program, "1.", clauses(fact(num(1))))
	tells(t, Program, "a. b.c .", clauses(fact(named("a")), fact(named("b")), fact(named("c"))))
	tells(t, Program, "g(X) :- f(X).", clauses(api.Clause{Head: named("g", aVar("X")), Body: []api.Term{named("f", aVar("X"))}}))
	tells(t, Program, "X :- 1, Y, a.", clauses(api.Clause{Head: aVar("X"), Body: []api.Term{num(1), aVar("Y"), named("a")}}))
	for i, op := range []string{"<", "=<", "=", `\=`} {
		tells(t, Program, "a :- X "+op+" 1.", clauses(api.Clause{Head: named("a"), Guards: []api.Guard{guard(api.GuardLess+i, aVar("X"), num(1))}}))
		tells(t, Program, "a :- f(X)"+op+"g(Y).", clauses(api.Clause{Head: named("a"), Guards: []api.Guard{guard(api.GuardLess+i, named("f", aVar("X")), named("g", aVar("Y")))}}))
	}
	tells(t, Program, `a :- b, X < Y, c, 1 \= 2, d, X = X.`, clauses(api.Clause{Head: named("a"), Body: []api.Term{named("b"), named("c"), named("d")}, Guards: []api.Guard{guard(api.GuardLess, aVar("X"), aVar("Y")), guard(api.GuardOther, num(1), num(2)), guard(api.GuardSame, aVar("X"), aVar("X"))}}))
	for _, s := range words() {
		tells(t, Program, s+" :- "+s+", "+s+"(X), "+s+" < "+s+".", clauses(api.Clause{Head: named(s), Body: []api.Term{named(s), named(s, aVar("X"))}, Guards: []api.Guard{guard(api.GuardLess, named(s), named(s))}}))
	}
	errs(t, Program, "a :- known ^f(X).", api.ErrBad)
	errs(t, Program, "a :- unknown ^f(X).", api.ErrBad)
	errs(t, Program, "a :- b ^; c.", api.ErrBad)
	errs(t, Program, "a :- ^(b).", api.ErrBad)
	errs(t, Program, "a :- ^.", api.ErrBad)
	errs(t, Program, "a :- b, ^.", api.ErrBad)
	errs(t, Program, "a :- b < c ^< d.", api.ErrBad)
}

// P5.1: rules with patterns, windows of any sign, with and without guards and policies.
func TestRules(t *testing.T) {
	tells(t, Program, "a <- b, within 1.", simple(api.PolicyAll))
	tells(t, Program, "a <- b, within 1, recent.", simple(api.PolicyRecent))
	tells(t, Program, "a <- b, within 1, first.", simple(api.PolicyFirst))
	g, h := guard(api.GuardLess, aVar("X"), num(3)), isKnown(named("f", aVar("X")))
	tells(t, Program, "a <- b, within 1, where X < 3.", simple(api.PolicyAll, g))
	tells(t, Program, "a <- b, within 1, where X < 3, recent.", simple(api.PolicyRecent, g))
	tells(t, Program, "a <- b, within 1, where X < 3, known f(X), first.", simple(api.PolicyFirst, g, h))
	tells(t, Program, "a <- b, within 1, where known f(X), X < 3.", simple(api.PolicyAll, h, g))
	for _, n := range []int{0, 7, -1, api.MaxNum, -api.MaxNum} {
		tells(t, Program, fmt.Sprintf("X<-1,within %d.", n), rules(api.Rule{Head: aVar("X"), Body: of(num(1)), Within: n}))
	}
	tells(t, Program, `f(X) <- a | b & (c ; \+(d) ; a) @ met X, within 9, where unknown f(X).`, rules(api.Rule{Head: named("f", aVar("X")), Body: or(p("a"), and(p("b"), rel(not(p("c"), p("d"), p("a")), api.RelMet, of(aVar("X"))))), Guards: []api.Guard{isUnknown(named("f", aVar("X")))}, Within: 9}))
	for _, s := range words() {
		tells(t, Program, s+" <- "+s+", within 2.", rules(api.Rule{Head: named(s), Body: p(s), Within: 2}))
	}
	tells(t, Program, "a :- b.\nc <- d, within 1. e.\nf <- g, within 2, first.", api.Program{
		Clauses: []api.Clause{{Head: named("a"), Body: []api.Term{named("b")}}, fact(named("e"))},
		Rules:   []api.Rule{{Head: named("c"), Body: p("d"), Within: 1}, {Head: named("f"), Body: p("g"), Within: 2, Policy: api.PolicyFirst}},
	})
}

// P5.1: guards of each kind.
func TestGuards(t *testing.T) {
	for i, op := range []string{"<", "=<", "=", `\=`} {
		for _, l := range []api.Term{aVar("X"), num(-4), named("b"), named("f", aVar("X"), num(1))} {
			for _, r := range []api.Term{aVar("Y"), num(-4), named("c"), named("g", num(2))} {
				tells(t, Program, "a <- b, within 1, where "+termText(l)+" "+op+" "+termText(r)+".", simple(api.PolicyAll, guard(api.GuardLess+i, l, r)))
			}
		}
	}
	for _, x := range []api.Term{named("b"), named("f", aVar("X"), num(1)), named("f", named("g", named("h")))} {
		tells(t, Program, "a <- b, within 1, where known "+termText(x)+".", simple(api.PolicyAll, isKnown(x)))
		tells(t, Program, "a <- b, within 1, where unknown "+termText(x)+".", simple(api.PolicyAll, isUnknown(x)))
	}
}

// P5.1: "known" and "unknown" are more than names just where a name follows.
func TestKnown(t *testing.T) {
	for _, s := range []string{"known", "unknown"} {
		ahead := "a <- b, within 1, where " + s
		is := isKnown
		if s == "unknown" {
			is = isUnknown
		}
		for _, w := range words() {
			tells(t, Program, ahead+" "+w+".", simple(api.PolicyAll, is(named(w))))
			tells(t, Program, ahead+" "+w+"(X), first.", simple(api.PolicyFirst, is(named(w, aVar("X")))))
		}
		tells(t, Program, ahead+" < 1.", simple(api.PolicyAll, guard(api.GuardLess, named(s), num(1))))
		tells(t, Program, ahead+"=known, recent.", simple(api.PolicyRecent, guard(api.GuardSame, named(s), named("known"))))
		tells(t, Program, ahead+"(f) =< X.", simple(api.PolicyAll, guard(api.GuardMost, named(s, named("f")), aVar("X"))))
		tells(t, Program, ahead+" f, 1 < "+s+", "+s+" < 1, "+s+" "+s+".", simple(api.PolicyAll, is(named("f")), guard(api.GuardLess, num(1), named(s)), guard(api.GuardLess, named(s), num(1)), is(named(s))))
		errs(t, Program, ahead+" ^X < 1.", api.ErrBad)
		errs(t, Program, ahead+" ^1.", api.ErrBad)
		errs(t, Program, ahead+"^.", api.ErrBad)
		errs(t, Program, ahead+"^, f < 1.", api.ErrBad)
		errs(t, Program, ahead+"(f)^.", api.ErrBad)
		errs(t, Program, ahead+"(f) ^g.", api.ErrBad)
		errs(t, Program, ahead+"^", api.ErrBad)
		errs(t, Program, ahead+" f ^< 1.", api.ErrBad)
		errs(t, Program, ahead+" f ^g.", api.ErrBad)
		errs(t, Program, ahead+" known ^f.", api.ErrBad)
		errs(t, Program, ahead+" unknown ^X.", api.ErrBad)
		errs(t, Program, "a <- b, within 1, where 1 < "+s+" ^f.", api.ErrBad)
	}
}

// P5.1: "recent" and "first" are policies just where "." follows, and names elsewhere.
func TestPolicies(t *testing.T) {
	for s, policy := range map[string]int{"recent": api.PolicyRecent, "first": api.PolicyFirst} {
		ahead := "a <- b, within 1, where "
		g := guard(api.GuardLess, named(s), num(1))
		tells(t, Program, ahead+s+" < 1.", simple(api.PolicyAll, g))
		tells(t, Program, ahead+s+" < 1, "+s+".", simple(policy, g))
		tells(t, Program, ahead+"1 = 1, "+s+" < 1.", simple(api.PolicyAll, guard(api.GuardSame, num(1), num(1)), g))
		tells(t, Program, ahead+"1 = 1, "+s+"(X) < 1, "+s+" < 1, "+s+".", simple(policy, guard(api.GuardSame, num(1), num(1)), guard(api.GuardLess, named(s, aVar("X")), num(1)), g))
		tells(t, Program, ahead+"X = "+s+".", simple(api.PolicyAll, guard(api.GuardSame, aVar("X"), named(s))))
		tells(t, Program, ahead+"known "+s+".", simple(api.PolicyAll, isKnown(named(s))))
		tells(t, Program, ahead+"known "+s+", "+s+".", simple(policy, isKnown(named(s))))
		tells(t, Program, s+" <- "+s+", within 1, "+s+"."+s+".", api.Program{Rules: []api.Rule{{Head: named(s), Body: p(s), Within: 1, Policy: policy}}, Clauses: []api.Clause{fact(named(s))}})
		tells(t, Program, "a <- b, within 1, "+s+"% a remark\n.", simple(policy))
		errs(t, Program, ahead+s+"^.", api.ErrBad)
		errs(t, Program, ahead+s+"^, first.", api.ErrBad)
		errs(t, Program, ahead+"1 = 1, "+s+"^", api.ErrBad)
		errs(t, Program, ahead+"1 = 1, "+s+"^, "+s+".", api.ErrBad)
		errs(t, Program, ahead+"1 = 1, "+s+" ^f.", api.ErrBad)
		errs(t, Program, ahead+"1 = 1, "+s+" ^1.", api.ErrBad)
		errs(t, Program, "a <- b, within 1, "+s+" ^< 1.", api.ErrBad)
		errs(t, Program, "a <- b, within 1, "+s+"^(X).", api.ErrBad)
		errs(t, Program, "a <- b, within 1, "+s+"^, where 1 = 1.", api.ErrBad)
		errs(t, Program, "a <- b, within 1, "+s+"^", api.ErrBad)
		errs(t, Program, "a <- b^. "+s, api.ErrBad)
		errs(t, Program, "a :- b, "+s+". ^, first.", api.ErrBad)
		tells(t, Program, "a :- b, "+s+".", clauses(api.Clause{Head: named("a"), Body: []api.Term{named("b"), named(s)}}))
	}
	errs(t, Program, "a <- b, within 1, ^all.", api.ErrBad)
	errs(t, Program, "a <- b, within 1, ^X < 1.", api.ErrBad)
	errs(t, Program, "a <- b, within 1, ^known f.", api.ErrBad)
	errs(t, Program, "a <- b, within 1, ^.", api.ErrBad)
}

// P5.1: the empty text is a program, and nothing else.
func TestEmpty(t *testing.T) {
	for _, s := range []string{"", " ", "\r\n\t", "% a.", "% a.\n \n%"} {
		tells(t, Program, s, api.Program{})
		errs(t, Term, s+"^", api.ErrBad)
		errs(t, Pattern, s+"^", api.ErrBad)
	}
}

// R1, R2: the same call tells the same; what is told is new memory, spare room too, and no two lists of it share any.
func TestMemory(t *testing.T) {
	s := `g(X, f(Y)) :- f(X), h(Y), X < f(Y), 1 = 1. a(X, f(Y)) <- b(X) ; \+(c(X) | d) ; e(X, f(Y)) @ met f(X), within 5, where X < f(Y), known f(X), recent.`
	x, _, e := Program(s)
	want := told(x)
	if e != api.OK {
		t.Fatal(e)
	}
	spoilProgram(x)
	y, _, _ := Program(s)
	if told(y) != want {
		t.Errorf("changed: %s", told(y))
	}
	_ = append(y.Clauses[0].Body, named("q"))
	_ = append(y.Clauses[0].Guards, isKnown(named("q")))
	_ = append(y.Clauses[0].Body[0].Args, num(7))
	_ = append(y.Rules[0].Guards, isKnown(named("q")))
	_ = append(y.Rules[0].Body.L, p("q"))
	_ = append(y.Rules[0].Body.R, p("q"))
	_ = append(y.Rules[0].Body.L[0].C, p("q"))
	_ = append(y.Rules[0].Guards[0].R.Args, num(7))
	if told(y) != want {
		t.Errorf("shared: %s", told(y))
	}
}

func spoilProgram(x api.Program) {
	for _, c := range x.Clauses {
		spoilTerm(c.Head)
		for _, b := range c.Body[:cap(c.Body)] {
			spoilTerm(b)
		}
		spoilGuards(c.Guards)
		clear(c.Body[:cap(c.Body)])
	}
	for _, r := range x.Rules {
		spoilTerm(r.Head)
		spoilGuards(r.Guards)
		spoilPattern(r.Body)
	}
	clear(x.Clauses[:cap(x.Clauses)])
	clear(x.Rules[:cap(x.Rules)])
}

func spoilTerm(x api.Term) {
	for _, a := range x.Args[:cap(x.Args)] {
		spoilTerm(a)
	}
	clear(x.Args[:cap(x.Args)])
}

func spoilGuards(l []api.Guard) {
	for _, g := range l {
		spoilTerm(g.L)
		spoilTerm(g.R)
	}
	clear(l[:cap(l)])
}

func spoilPattern(x api.Pattern) {
	spoilTerm(x.Term)
	for _, l := range [][]api.Pattern{x.L, x.R, x.C} {
		for _, q := range l[:cap(l)] {
			spoilPattern(q)
		}
		clear(l[:cap(l)])
	}
}
