package check_test

import (
	"fmt"
	"slices"
	"strings"
	"testing"

	"almagest/api"
	"almagest/check"
)

// levels holds the levels of a program.
func levels(t *testing.T, text string, want ...int) {
	t.Helper()
	p := program(t, text)
	tellsProgram(t, p, api.OK)
	if l, e := check.Levels(p); !slices.Equal(l, want) || e != api.OK {
		t.Errorf("%q: %v, %v, not %v", text, l, e, want)
	}
}

// refuses holds the error of a program.
func refuses(t *testing.T, text string, want api.Errno) {
	t.Helper()
	tellsProgram(t, program(t, text), want)
}

// P10.2: programs that may run.
func TestPrograms(t *testing.T) {
	levels(t, "")
	levels(t, "% nothing")
	levels(t, "k. k(1). k(X) :- k(X). m(X) :- k(X), n(X), X < 3. n(X) :- m(X).")
	levels(t, "a <- b, within 1.", 0)
	levels(t, "a(X) <- b(X) ; c, within 1, where known k(X). k(1). k(2) :- k(1).", 0)
	levels(t, "a <- b ; c, within 1. d <- a & e, within 2. f(X) <- d | g(X) ; a, within 3, where known k(X), first.", 0, 1, 2)
}

// holes are texts with a place for a predicate, by what it is there; what else stands in them is nobody else's.
func holes() map[string][]string {
	return map[string][]string{
		"clausal": {"P.", "P :- k1.", "k1 :- P.", "k1 :- k2, P, k3.", "k1 :- k2, k3, P, 1 < 2."},
		"derived": {"P <- b1, within 1.", "P <- b1 ; b2 | b3, within 1, where known k1, recent."},
		"awaited": {
			"a1 <- P, within 1.",
			"a1 <- P ; b2, within 1.", "a1 <- b2 ; P, within 1.",
			"a1 <- P & b2, within 1.", "a1 <- b2 & P, within 1.",
			"a1 <- P | b2, within 1.", "a1 <- b2 | P, within 1.",
			"a1 <- P @met b2, within 1.", "a1 <- b2 @met P, within 1.",
			"a1 <- P ; \\+(b3) ; b2, within 1.", "a1 <- b2 ; \\+(b3) ; P, within 1.", "a1 <- b2 ; \\+(P) ; b3, within 1.",
			"a1 <- b2 ; \\+(b3 ; (b4 | P & b5)) ; b6, within 1.", "a1 <- b2 & (b3 @met (b4 ; \\+(b5 ; \\+(P) ; b6) ; b7)), within 1.",
		},
		"asked": {
			"a2 <- b8, within 1, where known P.", "a2 <- b8, within 1, where unknown P.",
			"a2 <- b8, within 1, where 1 < 2, known k4, known P, 1 < 2.", "a2 <- b8, within 1, where unknown k4, unknown P.",
		},
	}
}

// bothWays has one of each text, both ways round, and the other names of the second one its own.
func bothWays(first, second string) []string {
	own := strings.NewReplacer("a1", "a5", "a2", "a6", "b1", "c1", "b2", "c2", "b3", "c3", "b4", "c4", "b5", "c5", "b6", "c6", "b7", "c7", "b8", "c8", "k1", "m1", "k2", "m2", "k3", "m3", "k4", "m4").Replace(second)
	return []string{first + "\n" + own, own + "\n" + first}
}

// clash tells of two uses of a predicate whether they are two kinds.
func clash(x, y string) bool {
	switch min(x, y) + " " + max(x, y) {
	case "clausal derived", "awaited clausal", "asked derived":
		return true
	}
	return false
}

// P10.2: ErrKind of each two uses of one predicate, wherever they stand; none of two predicates, though their names are one.
func TestKinds(t *testing.T) {
	for x, firsts := range holes() {
		for y, seconds := range holes() {
			for _, first := range firsts {
				for _, second := range seconds {
					kindsOf(t, first, second, clash(x, y))
				}
			}
		}
	}
}

func kindsOf(t *testing.T, first, second string, wrong bool) {
	t.Helper()
	want := api.OK
	if wrong {
		want = api.ErrKind
	}
	for _, p := range []string{"q", "q(1)", "q(1, 2, 3, 4)"} {
		for _, s := range bothWays(strings.ReplaceAll(first, "P", p), strings.ReplaceAll(second, "P", p)) {
			refuses(t, s, want)
		}
	}
	for _, l := range [][2]string{{"q", "q(1)"}, {"q(1)", "q"}, {"q(1)", "q(1, 2)"}, {"q(1, 2, 3, 4)", "q(1, 2, 3)"}, {"q", "r"}, {"q(1)", "q1(1)"}, {"q(r)", "r(q)"}} {
		for _, s := range bothWays(strings.ReplaceAll(first, "P", l[0]), strings.ReplaceAll(second, "P", l[1])) {
			refuses(t, s, api.OK)
		}
	}
}

// P10.2: predicates are alike whatever their Args are.
func TestKindsByArgs(t *testing.T) {
	refuses(t, "q(1). a <- q(2), within 1.", api.ErrKind)
	refuses(t, "q(X) :- k(X). a <- q(f(g(1))), within 1.", api.ErrKind)
	refuses(t, "k :- q(X, 1). q(1, c) <- b, within 1.", api.ErrKind)
	refuses(t, "q(f(1)) <- b, within 1. a <- b, within 1, where known q(Z).", api.ErrKind)
	refuses(t, "q(1) <- b(X), within 1, where unknown q(X).", api.ErrKind)
	refuses(t, "q(1) <- b, within 1, where known q(X).", api.ErrKind)
	refuses(t, "q <- b, within 1, where 1 < 2, known k, 1 < 2, unknown q.", api.ErrKind)
	refuses(t, "a <- q, within 1, where known q.", api.OK)
	refuses(t, "a <- q(X), within 1, where unknown q(X).", api.OK)
}

// P10.2: names within Args, and in comparisons, are no predicates.
func TestNoPredicates(t *testing.T) {
	levels(t, "q. a <- b(q), within 1.", 0)
	levels(t, "k(q). q <- b, within 1.", 0)
	levels(t, "q. a(q) <- b, within 1.", 0)
	levels(t, "q. a <- b, within 1, where q = q.", 0)
	levels(t, "q <- b, within 1, where q \\= f(q).", 0)
	levels(t, "k :- m, q = q, f(q) < q. q <- b, within 1. a <- q, within 1.", 0, 1)
	levels(t, "q <- b, within 1. a <- b, within 1, where known k(q), unknown m(q).", 0, 0)
	levels(t, "a <- b(a), within 1.", 0)
	levels(t, "a(b) <- b, within 1. b <- c(a(b)), within 1.", 1, 0)
}

// P10.2: predicates are one where their names are, to the letter.
func TestUnlikePredicates(t *testing.T) {
	l := unlikeNames("a")
	for i, x := range l {
		for k, y := range l {
			clause := api.Program{Clauses: []api.Clause{{Head: named(x)}}, Rules: []api.Rule{{Head: named("z"), Body: of(named(y))}}}
			round := api.Program{Rules: []api.Rule{{Head: named(x), Body: of(named(y))}}}
			above := api.Program{Rules: []api.Rule{{Head: named(x), Body: of(named("z"))}, {Head: named("z1"), Body: of(named(y))}}}
			got := []api.Errno{check.Program(clause), check.Program(round)}
			levels, e := check.Levels(above)
			got = append(got, e)
			want, rises := []api.Errno{api.OK, api.OK, api.OK}, []int{0, 0}
			if i == k {
				want, rises = []api.Errno{api.ErrKind, api.ErrRound, api.OK}, []int{0, 1}
			}
			if !slices.Equal(got, want) || !slices.Equal(levels, rises) {
				t.Errorf("%s, %s: %v, %v", x, y, got, levels)
			}
		}
	}
}

// P10.2: of several errors which is told: what may not be safe ahead of kinds, kinds ahead of rounds, wherever each stands. (What may not be at all is ahead of all: TestBadRules, TestBadClauses.)
func TestOrderOfErrors(t *testing.T) {
	parts := []struct {
		rows string
		e    api.Errno
	}{
		{"k(X).", api.ErrSafe}, {"k :- m, X < 1.", api.ErrSafe},
		{"s(X) <- b, within 1.", api.ErrSafe}, {"s <- b, within 1, where unknown k(X).", api.ErrSafe},
		{"q. a <- q, within 1.", api.ErrKind}, {"q <- b, within 1, where known q.", api.ErrKind}, {"q :- k. q <- b, within 1.", api.ErrKind},
		{"r <- r, within 1.", api.ErrRound}, {"r <- s1, within 1. s1 <- b ; \\+(r) ; c, within 1.", api.ErrRound},
		{"d <- c, within 1.", api.OK}, {"m.", api.OK},
	}
	first := func(x, y api.Errno) api.Errno {
		for _, e := range []api.Errno{api.ErrSafe, api.ErrKind, api.ErrRound} {
			if x == e || y == e {
				return e
			}
		}
		return api.OK
	}
	for _, x := range parts {
		for _, y := range parts {
			refuses(t, x.rows+"\n"+y.rows, first(x.e, y.e))
			for _, z := range parts {
				refuses(t, x.rows+"\n"+y.rows+"\n"+z.rows, first(x.e, first(y.e, z.e)))
			}
		}
	}
	// Of one rule alone.
	refuses(t, "q(X) <- q(1), within 1, where known q(Y).", api.ErrSafe)
	refuses(t, "q(1) <- q(1), within 1, where known q(Y).", api.ErrKind)
	refuses(t, "q(1) <- q(1), within 1, where known r(Y).", api.ErrRound)
	refuses(t, "q(1) <- s(1), within 1, where known r(Y).", api.OK)
}

// P10.2: a clause or a rule that errs is told wherever it stands among others, as what it is alone.
func TestWhichErrs(t *testing.T) {
	for n := 1; n <= 6; n++ {
		for i := range n {
			for k := range n {
				var p api.Program
				for j := range n {
					p.Clauses = append(p.Clauses, api.Clause{Head: named("k", num(j))})
					p.Rules = append(p.Rules, api.Rule{Head: named("a", num(j)), Body: of(named("b", num(j)))})
				}
				p.Clauses[i].Head.Args[0] = aVar("X")
				tellsProgram(t, p, api.ErrSafe)
				p.Rules[k].Head.Args[0] = aVar("X")
				tellsProgram(t, p, api.ErrSafe)
				p.Clauses[i].Head.Args[0] = num(1)
				tellsProgram(t, p, api.ErrSafe)
				p.Rules[k].Head.Args[0] = num(1)
				tellsProgram(t, p, api.OK)
			}
		}
	}
}

// around are patterns with a place for a term, each part of each kind of pattern, and parts of parts.
func around() []string {
	return []string{
		"P", "P ; b", "b ; P", "P & b", "b & P", "P | b", "b | P", "P @met b", "b @met P",
		"P ; \\+(b) ; c", "b ; \\+(P) ; c", "b ; \\+(c) ; P",
		"b ; \\+(c ; P) ; d", "b ; \\+(P | c) ; d", "b ; \\+(c & P) ; d", "b ; \\+(c @after P) ; d", "b ; \\+(c ; \\+(P) ; d) ; e",
		"(b | c & P) ; d", "b @met (c ; \\+(d) ; (e | P))", "b & c & d & P", "P ; P", "b | (c | (d | (e | (f | (g | (h | P))))))",
	}
}

// P10.2: a rule that leads to itself, through each part of a pattern; not, if it is another predicate.
func TestRoundAlone(t *testing.T) {
	for _, s := range around() {
		rule := func(head, term string) string {
			return head + " <- " + strings.ReplaceAll(s, "P", term) + ", within 1."
		}
		refuses(t, rule("a", "a"), api.ErrRound)
		refuses(t, rule("a(1)", "a(2)"), api.ErrRound)
		refuses(t, rule("a(1)", "a(f(X))"), api.ErrRound)
		levels(t, rule("a", "a(1)"), 0)
		levels(t, rule("a(1, 2)", "a(1)"), 0)
		levels(t, rule("a(1, 2)", "a(1, 2, 3)"), 0)
		levels(t, rule("a", "a1(a)"), 0)
	}
}

// P10.2: two rules that lead to each other, through each two parts of patterns.
func TestRoundOfTwo(t *testing.T) {
	for _, x := range around() {
		for _, y := range around() {
			first := "p <- " + strings.ReplaceAll(x, "P", "q(1)") + ", within 1."
			refuses(t, first+" q(2) <- "+strings.ReplaceAll(y, "P", "p")+", within 1.", api.ErrRound)
			levels(t, first+" q(2) <- "+strings.ReplaceAll(y, "P", "r")+", within 1.", 1, 0)
			levels(t, first+" r <- "+strings.ReplaceAll(y, "P", "p")+", within 1.", 0, 1)
			levels(t, first+" q <- "+strings.ReplaceAll(y, "P", "p")+", within 1.", 0, 1)
		}
	}
}

// circle is so many rules each of which leads to the one behind it, the last one to the rule of a number (none: -1), by some way of going through them.
func circle(n, back int, at func(int) int) api.Program {
	p := api.Program{Rules: make([]api.Rule, n)}
	for i := range n {
		to := i + 1
		if to == n {
			to = back
		}
		term := named("z")
		if to >= 0 {
			term = named(fmt.Sprintf("a%d", to))
		}
		p.Rules[at(i)] = api.Rule{Head: named(fmt.Sprintf("a%d", i)), Body: of(term)}
	}
	return p
}

// P10.2: rules that lead on in a circle, of any size, anywhere, with others that lead to it; the same without the last step are a chain.
func TestRoundOfMany(t *testing.T) {
	for n := 1; n <= api.MaxRules; n++ {
		for name, at := range map[string]func(int) int{
			"as they lead":    func(i int) int { return i },
			"turned round":    func(i int) int { return n - 1 - i },
			"from the middle": func(i int) int { return (i + n/2) % n },
			"two by two":      func(i int) int { return i/2 + i%2*((n+1)/2) },
		} {
			for back := range n {
				tellsProgram(t, circle(n, back, at), api.ErrRound)
			}
			p := circle(n, -1, at)
			want := make([]int, n)
			for i := range n {
				want[at(i)] = n - 1 - i
			}
			if l, e := check.Levels(p); !slices.Equal(l, want) || e != api.OK {
				t.Errorf("%d %s: %v, %v", n, name, l, e)
			}
		}
	}
}

// P10.2: rounds among rules that lead elsewhere, too.
func TestRounds(t *testing.T) {
	for _, s := range []string{
		"a <- b, within 1. b <- c, within 1. c <- b, within 1.",
		"a <- b, within 1. a <- a, within 1.",
		"a <- a, within 1. a <- b, within 1.",
		"a <- b, within 1. b <- c, within 1. b <- a, within 1.",
		"a <- b ; c, within 1. c <- d | e, within 1. e <- x ; \\+(a) ; y, within 1.",
		"d <- a, within 1. a <- b, within 1. b <- a, within 1. e <- f, within 1.",
		"a(1) <- b(1), within 1. b(2) <- a(3), within 1.",
		"a <- b & c & d, within 1. b <- x, within 1. c <- b, within 1. d <- c & b & a, within 1.",
		"a <- b, within 1. b <- a, within 1. c <- d, within 1. d <- c, within 1.",
	} {
		refuses(t, s, api.ErrRound)
	}
	// What clauses lead to does not matter, nor what is known.
	levels(t, "k :- m. m :- k. k :- k. a <- b, within 1, where known k, unknown m.", 0)
	levels(t, "a <- b, within 1, where known b. c <- d, within 1, where unknown d, known b.", 0, 0)
}

// P10.2: levels.
func TestLevels(t *testing.T) {
	levels(t, "a <- x, within 1. b <- y, within 1. c <- x ; y, within 1.", 0, 0, 0)
	levels(t, "a <- x, within 1. b <- a, within 1. c <- b, within 1. d <- c, within 1.", 0, 1, 2, 3)
	levels(t, "d <- c, within 1. c <- b, within 1. b <- a, within 1. a <- x, within 1.", 3, 2, 1, 0)
	levels(t, "b <- a, within 1. d <- c, within 1. a <- x, within 1. c <- b, within 1.", 1, 3, 0, 2)
	// the greatest of several
	levels(t, "a <- x, within 1. b <- a, within 1. c <- a ; b, within 1.", 0, 1, 2)
	levels(t, "a <- x, within 1. b <- a, within 1. c <- b | a, within 1.", 0, 1, 2)
	levels(t, "a <- x, within 1. b <- a, within 1. c <- b, within 1. d <- x & a & c & b & y, within 1.", 0, 1, 2, 3)
	levels(t, "a <- x, within 1. b <- a, within 1. c <- b, within 1. d <- x ; \\+(c) ; a, within 1. e <- a, within 1.", 0, 1, 2, 3, 1)
	levels(t, "d <- b & c, within 1. b <- a, within 1. c <- a, within 1. a <- x, within 1.", 2, 1, 1, 0)
	// several rules of one head
	levels(t, "a <- x, within 1. a <- y, within 1. b <- a, within 1.", 0, 0, 1)
	levels(t, "b <- a, within 1. a <- y, within 1. a <- c, within 1. c <- x, within 1.", 2, 0, 1, 0)
	levels(t, "b <- a, within 1. a <- c, within 1. a <- y, within 1. c <- x, within 1.", 2, 1, 0, 0)
	levels(t, "a(1) <- x, within 1. a(2) <- b, within 1. b <- y, within 1. c <- a(3), within 1.", 0, 1, 0, 2)
	levels(t, "a <- x, within 1. a <- x, within 1. a <- x, within 1.", 0, 0, 0)
	// other predicates of one name
	levels(t, "a <- x, within 1. b <- a(1), within 1. c <- a, within 1. a(1, 2) <- b, within 1.", 0, 0, 1, 1)
	// each part leads on
	for _, s := range around() {
		levels(t, "a <- x, within 1. q <- a, within 1. p <- "+strings.ReplaceAll(s, "P", "q")+", within 1. r <- "+strings.ReplaceAll(s, "P", "p")+", within 1.", 0, 1, 2, 3)
	}
}

// P10.2: as many rules as may be, several of each head, each with as many terms as may be.
func TestFullLevels(t *testing.T) {
	var p api.Program
	var want []int
	for i := range api.MaxRules {
		level := i / 2
		var l []api.Pattern
		for k := range api.MaxParts {
			l = append(l, of(named(fmt.Sprintf("a%d", max(level-k, 0)))))
		}
		l = l[1:]
		if level == 0 {
			l = []api.Pattern{of(named("x"))}
		}
		p.Rules = append(p.Rules, api.Rule{Head: named(fmt.Sprintf("a%d", level)), Body: together(l)})
		want = append(want, level)
	}
	for range api.MaxRules {
		tellsProgram(t, p, api.OK)
		if l, e := check.Levels(p); !slices.Equal(l, want) || e != api.OK {
			t.Errorf("%v, %v, not %v", l, e, want)
		}
		p.Rules = append(p.Rules[7:], p.Rules[:7]...)
		want = append(want[7:], want[:7]...)
	}
	for i := range p.Rules {
		if p.Rules[i].Head.Name == "a0" {
			p.Rules[i].Body = of(named("a9"))
		}
	}
	tellsProgram(t, p, api.ErrRound)
}

// The chapter's example.
func TestExample(t *testing.T) {
	refuses(t, "a <- a, within 0.", api.ErrRound)
}
