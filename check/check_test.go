package check_test

import (
	"fmt"
	"slices"
	"strings"
	"testing"

	"almagest/api"
	"almagest/check"
	"almagest/read"
	"almagest/term"
)

func aVar(s string) api.Term { return api.Term{Kind: api.TermVar, Name: s} }

func num(n int) api.Term { return api.Term{Kind: api.TermNum, N: n} }

func named(s string, args ...api.Term) api.Term {
	return api.Term{Kind: api.TermName, Name: s, Args: args}
}

// of is the pattern of a term.
func of(t api.Term) api.Pattern { return api.Pattern{Kind: api.PatTerm, Term: t} }

// told is all of a value: a list that is nil and one that is empty are one in it.
func told(x any) string { return fmt.Sprintf("%+v", x) }

func program(t *testing.T, text string) api.Program {
	t.Helper()
	p, at, e := read.Program(text)
	if e != api.OK {
		t.Fatalf("%q: %v at %d", text, e, at)
	}
	return p
}

// kept calls twice, and holds that what was handed in stays what it is, and that the same is told.
func kept[T any](t *testing.T, call func(T) api.Errno, x T) api.Errno {
	t.Helper()
	ahead := told(x)
	e := call(x)
	if f := call(x); f != e {
		t.Errorf("%s: %v, then %v", ahead, e, f)
	}
	if told(x) != ahead {
		t.Errorf("%s: changed to %s", ahead, told(x))
	}
	return e
}

// tells holds what is told of a program that is one rule, or one clause, alone and as a program.
func tells(t *testing.T, text string, want api.Errno) {
	t.Helper()
	p := program(t, text)
	if len(p.Rules)+len(p.Clauses) != 1 {
		t.Fatalf("%q is not one", text)
	}
	for _, r := range p.Rules {
		if e := kept(t, check.Rule, r); e != want {
			t.Errorf("%q: Rule: %v, not %v", text, e, want)
		}
	}
	for _, c := range p.Clauses {
		if e := kept(t, check.Clause, c); e != want {
			t.Errorf("%q: Clause: %v, not %v", text, e, want)
		}
	}
	tellsProgram(t, p, want)
}

// tellsProgram holds an error: beside it Levels has none.
func tellsProgram(t *testing.T, p api.Program, want api.Errno) {
	t.Helper()
	if e := kept(t, check.Program, p); e != want {
		t.Errorf("%s: Program: %v, not %v", told(p), e, want)
	}
	ahead := told(p)
	l, e := check.Levels(p)
	if e != want || e == api.OK && len(l) != len(p.Rules) || e != api.OK && l != nil {
		t.Errorf("%s: Levels: %v, %v, not %v", ahead, l, e, want)
	}
	if told(p) != ahead {
		t.Errorf("%s: changed to %s", ahead, told(p))
	}
}

// P10.1: rules that may run.
func TestRules(t *testing.T) {
	for _, s := range []string{
		"a <- b, within 0.",
		"a <- b(X), within 0.",
		"a(1, c, -3) <- b, within 5.",
		"a(f(1), g(h(i(2)))) <- b, within 5.",
		"a(f(1), X) <- b(X), within 5.",
		"a(X) <- b(X), within 5.",
		"a(X, Y, X, Z) <- b(Z, f(g(h(X)), Y)), within 5.",
		"a(X) <- b, within 5, where known k(X).",
		"a(X, Y) <- b(Y), within 5, where 1 < 2, known k(X), recent.",
		"a(X, Y) <- b, within 5, where known k(X), known m(X, Y), first.",
		"a(X, Y, 1, f(c)) <- b(X), within 5, where X < 3, known k(Y).",
		"a <- b, within 5, where known k(X).",
		"a <- b, within 5, where known k, unknown m.",
		"a <- b, within 5, where unknown k(1, f).",
		"a <- b(X), within 5, where unknown k(X, 1).",
		"a <- b(X, Y), within 5, where X < Y, Y =< X, X = f(Y), f(g(X), Y) \\= 1.",
		"a <- b, within 5, where 1 < 2, f(1) = f(g), 2 =< 1, a \\= a.",
		"a <- b, within 5, where known k(X), X < 1, unknown m(X), known n(X).",
		"a <- b(Y), within 5, where known k(X), X < Y, Y < X.",
		"a(X) <- b(X), within 5, where known k(X), X = X, unknown m(X).",
		"a <- b(A) ; c(B) ; d(C), within 5, where A < B, B < C, C < A.",
	} {
		tells(t, s, api.OK)
	}
}

// P10.1: rules with a variable that nothing binds, each for one cause alone.
func TestUnsafeRules(t *testing.T) {
	for _, s := range []string{
		"a(X) <- b, within 5.",
		"a(X) <- b(Y), within 5.",
		"a(X) <- b(x), within 5.",
		"a(X, Y) <- b(X), within 5.",
		"a(Y, X) <- b(X), within 5.",
		"a(1, X, X, Y) <- b(X), within 5.",
		"a(X) <- b, within 5, where known k(Y).",
		"a(X) <- b, within 5, where known k.",
		"a(f(X)) <- b(X), within 5.",
		"a(f(X)) <- b(f(X)), within 5.",
		"a(f(X)) <- b, within 5, where known k(X).",
		"a(X, f(X)) <- b(X), within 5.",
		"a(f(X), X) <- b(X), within 5.",
		"a(X, f(1, g(X))) <- b(X), within 5.",
		"a(f(g(h(X)))) <- b(X), within 5.",
		"a(f(X)) <- b, within 5.",
		"a <- b, within 5, where X < 1.",
		"a <- b, within 5, where 1 < X.",
		"a <- b(X), within 5, where X < Y.",
		"a <- b(X), within 5, where Y < X.",
		"a <- b(Y), within 5, where X =< 1.",
		"a <- b(Y), within 5, where 1 =< X.",
		"a <- b(Y), within 5, where X = 1.",
		"a <- b(Y), within 5, where 1 = X.",
		"a <- b(Y), within 5, where X = Y.",
		"a <- b(Y), within 5, where X = X.",
		"a <- b(Y), within 5, where X \\= 1.",
		"a <- b(Y), within 5, where 1 \\= X.",
		"a <- b(Y), within 5, where f(g(X)) = 1.",
		"a <- b(Y), within 5, where 1 = f(Y, g(Y, X)).",
		"a <- b(X), within 5, where X < 1, Y < 1.",
		"a <- b(X), within 5, where Y < 1, X < 1.",
		"a <- b(X), within 5, where 1 < 2, 2 < 3, 3 < 4, Y < 5.",
		"a <- b, within 5, where unknown k(X).",
		"a <- b(X), within 5, where unknown k(X, Y).",
		"a <- b(X), within 5, where unknown k(Y, X).",
		"a <- b(X), within 5, where unknown k(X), unknown k(Y).",
		"a <- b, within 5, where unknown k(X), unknown k(X).",
		"a(X) <- b, within 5, where X = X.",
		"a(X) <- b, within 5, where unknown k(X).",
		"a <- b, within 5, where X < 1, X < 1.",
		"a <- b, within 5, where X = 1, known k(X).",
		"a <- b, within 5, where unknown m(X), known k(X).",
		"a(X) <- b, within 5, where unknown m(X), known k(X).",
		"a <- b, within 5, where known k(X), X < Y, known m(Y).",
		"a <- b, within 5, where known k(X), unknown n(Y), known m(Y).",
		"a <- b, within 5, where known k(X), Y < 1.",
		"a <- b, within 5, where known k(X), unknown m(Y).",
	} {
		tells(t, s, api.ErrSafe)
	}
}

// P10.1: a variable of the head alone is not bound by the head, nor by being used twice.
func TestHeadBindsNothing(t *testing.T) {
	for _, s := range []string{
		"a(X) <- b, within 5, where X < 1.",
		"a(X) <- b, within 5, where unknown k(X).",
		"a(X, X) <- b, within 5.",
	} {
		tells(t, s, api.ErrSafe)
	}
}

// patterns with those of the variables A, B, C, D that they bind.
func patterns() map[string]string {
	return map[string]string{
		"b":                                      "",
		"b(A)":                                   "A",
		"b(1, A, f(g(h(C)), D))":                 "ACD",
		"b(A) ; c":                               "A",
		"b ; c(A)":                               "A",
		"b(A) ; c(B)":                            "AB",
		"b(A) & c":                               "A",
		"b & c(A)":                               "A",
		"b(B) & c(A)":                            "AB",
		"b(A) | c":                               "",
		"b | c(A)":                               "",
		"b(A) | c(B)":                            "",
		"b(A) | c(A)":                            "A",
		"b(A, B) | c(B, C)":                      "B",
		"b(B, C) | c(A, B)":                      "B",
		"b(A, B) | c(f(B), f(A))":                "AB",
		"b(A, B, C) | c(A, B, C, D)":             "ABC",
		"b(A) ; \\+(d) ; c":                      "A",
		"b ; \\+(d) ; c(A)":                      "A",
		"b(B) ; \\+(d) ; c(A)":                   "AB",
		"b ; \\+(d(A)) ; c":                      "",
		"b(B) ; \\+(d(A)) ; c(C)":                "BC",
		"b(A) ; \\+(d(A, B)) ; c":                "A",
		"b ; \\+(d(A, B)) ; c(B)":                "B",
		"b ; \\+(d(A) | e(A)) ; c":               "",
		"b ; \\+(d(A) ; \\+(f(B)) ; e(C)) ; c":   "",
		"b(A) ; \\+(d(C)) ; c(B) ; e(D)":         "ABD",
		"b(A) @during c":                         "A",
		"b @during c(A)":                         "A",
		"b(D) @during c(A)":                      "AD",
		"(b(A) | c(A)) ; d(B)":                   "AB",
		"d(B) ; (b(A) | c(A))":                   "AB",
		"(b(A) | c) ; d(A)":                      "A",
		"d(A) & (b(A) | c)":                      "A",
		"(b(A) | c(D)) & (d(A) | e(D))":          "",
		"(b(A) | c(D)) | (d(A) | e(D))":          "",
		"(b(A, B) ; c(C)) | d(A, C)":             "AC",
		"d(A, C) | (b(A, B) & c(C))":             "AC",
		"d(A, C) | (b(A, B) @met c(C))":          "AC",
		"(b(A) ; \\+(e(C)) ; c(B)) | d(A, C)":    "A",
		"(b ; \\+(e(C)) ; c(B)) | d(C)":          "",
		"b(A) | c(A) | d(A)":                     "A",
		"b(A) | c(A) | d":                        "",
		"b | c(A) | d(A)":                        "",
		"b(A) | c | d(A)":                        "",
		"b(A, B) | c(B, C) | d(C, A)":            "",
		"b(A) ; c(B) ; d(C)":                     "ABC",
		"b(A) & c(B) & d(C) & e(D)":              "ABCD",
		"(b(A) ; c(B)) @met (d(C) & e(D))":       "ABCD",
		"(b(A) | c(A)) @met (d(C) | e(D))":       "A",
		"(b(A) | c(A)) ; \\+(e(D)) ; (d | f)":    "A",
		"(d | f) ; \\+(e(D)) ; (b(A) | c(A))":    "A",
		"b(A) | c(B) ; d(A) | e(C) & f(A)":       "A",
		"b(X1) ; c(X2)":                          "",
		"b(a) ; c(b)":                            "",
		"b(AA) ; c(A1, A_)":                      "",
		"b(A) ; c(A) ; d(A) ; e(A)":              "A",
		"((((((b(A) ; c) & d) | e(A)))) ; f(B))": "AB",
	}
}

// P10.1: what each kind of pattern binds, and nothing else; asked by the head, by each kind of guard, and behind a GuardKnown.
func TestBinds(t *testing.T) {
	for pattern, bound := range patterns() {
		for _, x := range strings.Split("ABCD", "") {
			want := api.ErrSafe
			if strings.Contains(bound, x) {
				want = api.OK
			}
			for _, s := range []string{
				"h(X) <- P, within 5.",
				"h <- P, within 5, where X < 1.",
				"h <- P, within 5, where f(1) =< X.",
				"h <- P, within 5, where 1 = g(X).",
				"h <- P, within 5, where X \\= X.",
				"h <- P, within 5, where unknown k(X).",
				"h <- P, within 5, where unknown k(X), known m(X).",
				"h <- P, within 5, where X < 1, known m(X).",
				"h(X) <- P, within 5, where known m(Y).",
			} {
				tells(t, strings.NewReplacer("P", pattern, "X", x).Replace(s), want)
			}
			for _, s := range []string{
				"h(X) <- P, within 5, where known m(X).",
				"h(X) <- P, within 5, where known m(X), X < 1.",
				"h <- P, within 5, where known m(X), unknown k(X).",
			} {
				tells(t, strings.NewReplacer("P", pattern, "X", x).Replace(s), api.OK)
			}
			tells(t, strings.NewReplacer("P", pattern, "X", x).Replace("h(f(X)) <- P, within 5, where known m(X)."), api.ErrSafe)
		}
	}
}

// P10.1: a PatRel binds the same by whichever relation.
func TestRelationsBind(t *testing.T) {
	for _, rel := range strings.Fields("before meets overlaps starts during ends equal ended holds started overlapped met after") {
		tells(t, "h(A, B) <- b(A) @"+rel+" c(B), within 5.", api.OK)
		tells(t, "h(C) <- b(A) @"+rel+" c(B), within 5.", api.ErrSafe)
	}
}

// P10.1: clauses that may run.
func TestClauses(t *testing.T) {
	for _, s := range []string{
		"k.",
		"k(1, a, -3).",
		"k :- m.",
		"k :- m(X).",
		"k(X) :- m(X).",
		"k(X, 1, X, Y) :- m(Y), n(1, X).",
		"k(X) :- k(X).",
		"k(X) :- m(X), n(X), o(X).",
		"k(X, Y, Z) :- m(X), n(Y), o(Z), X < Y, Y =< Z, Z = X, f(X) \\= g(Y, Z).",
		"k :- 1 < 2.",
		"k :- f(1) = f(1), 1 =< 2, a \\= b, 2 < 1.",
		"k :- m(X), X < 1.",
		"k :- m(X), 1 < X.",
		"k :- m(X), f(g(X)) = h(X).",
	} {
		tells(t, s, api.OK)
	}
}

// P10.1: clauses with a variable that is not of the body, each for one cause alone.
func TestUnsafeClauses(t *testing.T) {
	for _, s := range []string{
		"k(X).",
		"k(1, X).",
		"k(X) :- m.",
		"k(X) :- m(Y).",
		"k(X, Y) :- m(X).",
		"k(Y, X) :- m(X).",
		"k(X, X, X, Y) :- m(X), n(x), o(X).",
		"k(X) :- m(x), 1 < 2.",
		"k :- X < 1.",
		"k :- 1 < X.",
		"k :- X =< 1.",
		"k :- 1 =< X.",
		"k :- X = X.",
		"k :- 1 = X.",
		"k :- X \\= 1.",
		"k :- 1 \\= f(X).",
		"k :- m(X), X < Y.",
		"k :- m(X), Y < X.",
		"k :- m(X), X = f(g(Y)).",
		"k :- m(X), f(X, Y) = X.",
		"k :- m(X), X < 1, Y < 1.",
		"k :- m(X), Y < 1, X < 1.",
		"k :- m(X), n(Y), X < 1, Y < 1, X < Y, Z < 1.",
		"k(X) :- X = 1.",
		"k(X) :- X < 1, m(Y).",
	} {
		tells(t, s, api.ErrSafe)
	}
}

// P10.1: the head's own variable is bound by any of Body's terms, and by each alone.
func TestBodyBinds(t *testing.T) {
	for _, s := range []string{"m(X), n, o", "m, n(1, X), o", "m, n, o(X)"} {
		tells(t, "k(X) :- "+s+".", api.OK)
		tells(t, "k :- "+s+", X < 1.", api.OK)
		tells(t, "k(Y) :- "+s+".", api.ErrSafe)
		tells(t, "k :- "+s+", Y < 1.", api.ErrSafe)
	}
}

// unlikeNames are names as short and as long as may be, that differ in one bit of one byte, in how long they are, or in where their bytes stand.
func unlikeNames(first string) []string {
	rest := "bcdefgh1234567_"
	whole := first + rest
	l := []string{first + first, first + first + first, first + rest[7:], first + rest[7:14] + rest[:7] + "_"}
	for i := range whole {
		l = append(l, whole[:i+1])
		for bit := range 7 {
			l = append(l, whole[:i]+string(whole[i]^1<<bit)+whole[i+1:])
		}
	}
	for _, c := range "_09azAZ" {
		l = append(l, first+string(c))
	}
	slices.Sort(l)
	l = slices.Compact(l)
	return slices.DeleteFunc(l, func(s string) bool {
		x := aVar(s)
		if first[0] >= 'a' {
			x = named(s)
		}
		return term.Check(x) != api.OK
	})
}

// P10.1: variables are one where their names are, to the letter.
func TestUnlikeVariables(t *testing.T) {
	l := unlikeNames("A")
	for i, x := range l {
		for k, y := range l {
			want := api.ErrSafe
			if i == k {
				want = api.OK
			}
			r := api.Rule{Head: named("h", aVar(x)), Body: of(named("b", aVar(y)))}
			c := api.Clause{Head: named("h", aVar(x)), Body: []api.Term{named("b", aVar(y))}}
			if e := check.Rule(r); e != want {
				t.Errorf("%s, %s: Rule: %v", x, y, e)
			}
			if e := check.Clause(c); e != want {
				t.Errorf("%s, %s: Clause: %v", x, y, e)
			}
			either := api.Pattern{Kind: api.PatOr, L: []api.Pattern{of(named("b", aVar(x)))}, R: []api.Pattern{of(named("c", aVar(y)))}}
			if e := check.Rule(api.Rule{Head: named("h", aVar(x)), Body: either}); e != want {
				t.Errorf("%s, %s: either: %v", x, y, e)
			}
		}
	}
}

// P10.1: more variables than a term has are bound, each.
func TestManyVariables(t *testing.T) {
	var parts []string
	for i := range api.MaxParts {
		s := fmt.Sprintf("b(f(V%da, V%db, V%dc, V%dd), f(V%de, V%df, V%dg, V%dh), f(V%di, V%dj, V%dk, V%dl), f(V%dm, V%dn, V%do, V%dp))", slices.Repeat([]any{i}, 16)...)
		parts = append(parts, s)
	}
	for n := 1; n <= api.MaxParts; n++ {
		var row []api.Pattern
		for _, s := range parts[:n] {
			x, _, e := read.Pattern(s)
			if e != api.OK {
				t.Fatalf("%s: %v", s, e)
			}
			row = append(row, x)
		}
		body := together(row)
		for i := range api.MaxParts {
			want := api.ErrSafe
			if i < n {
				want = api.OK
			}
			for _, c := range "ahp" {
				r := api.Rule{Head: named("h", aVar(fmt.Sprintf("V%d%c", i, c))), Body: body}
				if e := check.Rule(r); e != want {
					t.Errorf("%d, %d%c: %v", n, i, c, e)
				}
			}
		}
	}
}

// together has all patterns at once, no deeper than need be.
func together(l []api.Pattern) api.Pattern {
	if len(l) == 1 {
		return l[0]
	}
	n := len(l) / 2
	return api.Pattern{Kind: api.PatAnd, L: []api.Pattern{together(l[:n])}, R: []api.Pattern{together(l[n:])}}
}

// P10.1: the parts of a rule that bind nothing and are bound by nothing do not matter: how long it lasts, how it chooses.
func TestOtherFields(t *testing.T) {
	for _, within := range []int{0, 1, api.MaxNum} {
		for policy := api.PolicyAll; policy <= api.PolicyFirst; policy++ {
			r := api.Rule{Head: named("h", aVar("X")), Body: of(named("b", aVar("X"))), Within: within, Policy: policy}
			if e := check.Rule(r); e != api.OK {
				t.Errorf("%s: %v", told(r), e)
			}
			r.Head.Args = []api.Term{aVar("Y")}
			if e := check.Rule(r); e != api.ErrSafe {
				t.Errorf("%s: %v", told(r), e)
			}
		}
	}
}
