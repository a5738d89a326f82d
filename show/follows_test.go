package show_test

import (
	"math/rand"
	"strings"
	"testing"

	"almagest/api"
	"almagest/lex"
	"almagest/read"
	"almagest/show"
)

// again holds that what is shown is read as what it was, and shown the same once more.
func again[T any](t *testing.T, text func(T) (string, api.Errno), back func(string) (T, int, api.Errno), x T) string {
	t.Helper()
	s, e := text(x)
	if e != api.OK {
		t.Fatalf("%s: %v", told(x), e)
	}
	y, at, e := back(s)
	if e != api.OK || told(y) != told(x) {
		t.Fatalf("%q: %s, %d, %v, not %s", s, told(y), at, e, told(x))
	}
	if u, e := text(y); u != s || e != api.OK {
		t.Fatalf("%q: %q, %v", s, u, e)
	}
	return s
}

// brackets are the places of those around parts of a pattern: not those of terms, nor of what must not be between. Each has both its ends.
func brackets(s string) [][2]int {
	var l, open [][2]int
	for i := range len(s) {
		switch s[i] {
		case '(':
			part := i == 0 || strings.IndexByte(" (", s[i-1]) >= 0
			open = append(open, [2]int{i, map[bool]int{true: 1}[part]})
		case ')':
			last := open[len(open)-1]
			open = open[:len(open)-1]
			if last[1] == 1 {
				l = append(l, [2]int{last[0], i})
			}
		}
	}
	return l
}

// needsAll holds that without any one pair of brackets a text would be read otherwise, or not at all.
func needsAll(t *testing.T, s string, x api.Pattern) {
	t.Helper()
	for _, b := range brackets(s) {
		less := s[:b[0]] + s[b[0]+1:b[1]] + s[b[1]+1:]
		if y, _, e := read.Pattern(less); e == api.OK && told(y) == told(x) {
			t.Fatalf("%q is read as %q", less, s)
		}
	}
}

// parts tells how many terms a pattern has.
func parts(x api.Pattern) int {
	if x.Kind == api.PatTerm {
		return 1
	}
	n := 0
	for _, l := range [][]api.Pattern{x.L, x.C, x.R} {
		for _, y := range l {
			n += parts(y)
		}
	}
	return n
}

// patternAgain takes patterns that may be but for having too many parts.
func patternAgain(t *testing.T, x api.Pattern) {
	t.Helper()
	if parts(x) > api.MaxParts {
		refusesPattern(t, x, "too many parts")
		return
	}
	needsAll(t, again(t, show.Pattern, read.Pattern, x), x)
}

// around are all ways to put a pattern into another one, and one beside it.
func around(x, y api.Pattern) []api.Pattern {
	var l []api.Pattern
	for _, k := range []int{api.PatSeq, api.PatAnd, api.PatOr} {
		l = append(l, two(k, x, y), two(k, y, x))
	}
	return append(l, during(x, y), during(y, x), not(x, y, p("n")), not(y, x, p("n")), not(p("n"), x, y), not(p("n"), y, x), not(x, p("n"), y), not(y, p("n"), x))
}

// upTo are all patterns of so many within each other, of one relation, with one name.
func upTo(deep int) []api.Pattern {
	l := []api.Pattern{p("a")}
	if deep == 1 {
		return l
	}
	less := upTo(deep - 1)
	for _, x := range less {
		for _, y := range less {
			l = append(l, seq(x, y), and(x, y), or(x, y), during(x, y))
			for _, z := range less {
				l = append(l, not(x, y, z))
			}
		}
	}
	return l
}

// P6.2, P6.1: all patterns of three kinds within each other, with anything beside them: read again as they were, with no bracket too many.
func TestAllPatterns(t *testing.T) {
	for _, x := range upTo(3) {
		patternAgain(t, x)
		for _, y := range upTo(2) {
			for _, z := range around(x, y) {
				patternAgain(t, z)
			}
		}
	}
}

// P6.2: each relation, with each kind on each side.
func TestAllRelations(t *testing.T) {
	for r := api.RelBefore; r <= api.RelAfter; r++ {
		for _, x := range upTo(2) {
			for _, y := range upTo(2) {
				patternAgain(t, rel(x, r, y))
				patternAgain(t, not(rel(x, r, y), rel(p("a"), r, y), rel(x, r, p("b"))))
			}
		}
	}
}

// P6.2: rows as deep as can be, on each side.
func TestDeepPatterns(t *testing.T) {
	twice, thrice := joins()
	for _, j := range twice {
		patternAgain(t, deep(api.MaxDeep, j))
		for _, k := range twice {
			patternAgain(t, deep(api.MaxDeep, func(l, r api.Pattern) api.Pattern {
				if r.Kind == l.Kind {
					return j(l, r)
				}
				return k(l, r)
			}))
		}
	}
	for _, j := range thrice {
		patternAgain(t, deep(5, j))
		patternAgain(t, j(even(5, seq), even(6, during)))
	}
}

// maker makes things at random that may be.
type maker struct{ *rand.Rand }

func (m maker) word() string {
	return append(words(), "a", "b", "f", "aZ_9", strings.Repeat("q", api.MaxName))[m.Intn(5+len(words()))]
}

func (m maker) small() api.Term {
	switch m.Intn(3) {
	case 0:
		return aVar([]string{"X", "Y", "Known", "Q" + strings.Repeat("_", api.MaxName-1)}[m.Intn(4)])
	case 1:
		return num([]int{0, 1, -1, 77, api.MaxNum, -api.MaxNum}[m.Intn(6)])
	}
	return named(m.word())
}

func (m maker) term(deep int) api.Term {
	if m.Intn(3) == 0 {
		return m.small()
	}
	return m.name(deep)
}

// name has at most 2 Args, and so at most 15 terms.
func (m maker) name(deep int) api.Term {
	x := named(m.word())
	for range m.Intn(3) {
		if deep > 1 {
			x.Args = append(x.Args, m.term(deep-1))
		}
	}
	return x
}

func (m maker) atom() api.Term {
	x := named(m.word())
	for range m.Intn(api.MaxArgs + 1) {
		x.Args = append(x.Args, m.small())
	}
	return x
}

// pattern has at most so many terms, and is at most as deep.
func (m maker) pattern(parts int) api.Pattern {
	if parts < 2 || m.Intn(8) == 0 {
		return of(m.name(3))
	}
	l := 1 + m.Intn(parts-1)
	switch k := m.Intn(6); {
	case k == 0:
		return rel(m.pattern(l), api.RelBefore+m.Intn(13), m.pattern(parts-l))
	case k == 1 && parts > 2:
		c := 1 + m.Intn(parts-2)
		l = 1 + m.Intn(parts-c-1)
		return not(m.pattern(l), m.pattern(c), m.pattern(parts-c-l))
	default:
		return two([]int{api.PatSeq, api.PatAnd, api.PatOr}[k%3], m.pattern(l), m.pattern(parts-l))
	}
}

func (m maker) comparisons() []api.Guard {
	var l []api.Guard
	for range m.Intn(api.MaxGuards + 1) {
		l = append(l, guard(api.GuardLess+m.Intn(4), m.term(4), m.term(4)))
	}
	return l
}

func (m maker) clause() api.Clause {
	c := api.Clause{Head: m.atom(), Guards: m.comparisons()}
	for range m.Intn(api.MaxBody + 1) {
		c.Body = append(c.Body, m.atom())
	}
	return c
}

func (m maker) rule() api.Rule {
	r := api.Rule{Head: m.name(4), Body: m.pattern(1 + m.Intn(api.MaxDeep)), Guards: m.comparisons(), Within: []int{0, 1, 9, api.MaxNum}[m.Intn(4)], Policy: m.Intn(3)}
	for i := range r.Guards {
		if m.Intn(2) == 0 {
			r.Guards[i] = api.Guard{Kind: api.GuardKnown + m.Intn(2), L: m.atom()}
		}
	}
	return r
}

func (m maker) program() api.Program {
	var x api.Program
	for range m.Intn(4) {
		x.Clauses = append(x.Clauses, m.clause())
	}
	for range m.Intn(3) {
		x.Rules = append(x.Rules, m.rule())
	}
	return x
}

// P6.2: terms are read as what was shown.
func TestTermsAgain(t *testing.T) {
	m := maker{rand.New(rand.NewSource(61))}
	for range 5000 {
		again(t, show.Term, read.Term, m.term(4))
	}
	for _, x := range good() {
		again(t, show.Term, read.Term, x)
	}
}

// P6.2: patterns with terms of all kinds.
func TestPatternsAgain(t *testing.T) {
	m := maker{rand.New(rand.NewSource(62))}
	for range 5000 {
		patternAgain(t, m.pattern(1+m.Intn(api.MaxDeep)))
	}
}

// P6.2: programs, as far as their texts are no longer than MaxText.
func TestProgramsAgain(t *testing.T) {
	m := maker{rand.New(rand.NewSource(63))}
	held := 0
	for range 3000 {
		x := m.program()
		if s, _ := show.Program(x); len(s) <= api.MaxText {
			again(t, show.Program, read.Program, x)
			held++
		}
	}
	if held < 2500 {
		t.Errorf("%d alone", held)
	}
	again(t, show.Program, read.Program, api.Program{})
	again(t, show.Program, read.Program, sample())
	again(t, show.Program, read.Program, api.Program{Clauses: list(api.MaxClause, api.Clause{Head: named("a")}), Rules: list(api.MaxRules, simple(api.PolicyAll).Rules[0])})
	again(t, show.Program, read.Program, clauses(api.Clause{Head: named("a"), Body: list(api.MaxBody, named("b")), Guards: list(api.MaxGuards, guard(api.GuardOther, num(-1), num(-1)))}))
}

// loose is a text with other gaps between its tokens; some have none, where it changes nothing.
func (m maker) loose(s string) string {
	tokens, _, _ := lex.Tokens(s)
	var b strings.Builder
	for i, x := range tokens[:len(tokens)-1] {
		b.WriteString(strings.TrimSpace(s[x.At:tokens[i+1].At]))
		if y := tokens[i+1].Text; strings.Contains("(),.", x.Text) || y != "" && strings.Contains("(),.", y) {
			b.WriteString([]string{"", "", " ", "\n"}[m.Intn(4)])
		} else {
			b.WriteString([]string{" ", "\t", "\r\n", " % a. )\n "}[m.Intn(4)])
		}
	}
	return b.String()
}

// bracketed is a pattern's text with brackets around each part, and around some twice.
func (m maker) bracketed(x api.Pattern) string {
	s, _ := show.Term(x.Term)
	if x.Kind != api.PatTerm {
		sign := map[int]string{api.PatSeq: ";", api.PatAnd: "&", api.PatOr: "|", api.PatRel: "@"}[x.Kind]
		if x.Kind == api.PatNot {
			sign = `; \+(` + m.bracketed(x.C[0]) + ") ;"
		}
		if x.Kind == api.PatRel {
			sign = "@ " + relNames()[x.Rel-api.RelBefore]
		}
		s = m.bracketed(x.L[0]) + " " + sign + " " + m.bracketed(x.R[0])
	}
	n := 1 + m.Intn(2)
	return strings.Repeat("(", n) + s + strings.Repeat(")", n)
}

// P6.2: what is read of any text is shown, and shown the same when it is read again.
func TestTextsAgain(t *testing.T) {
	m := maker{rand.New(rand.NewSource(64))}
	for range 2000 {
		x := m.pattern(1 + m.Intn(api.MaxDeep))
		s, _ := show.Pattern(x)
		for _, u := range []string{m.bracketed(x), m.loose(m.bracketed(x)), m.loose(s)} {
			y, at, e := read.Pattern(u)
			if e != api.OK {
				t.Fatalf("%q: %d, %v", u, at, e)
			}
			if v := again(t, show.Pattern, read.Pattern, y); v != s {
				t.Fatalf("%q: %q, not %q", u, v, s)
			}
		}
	}
	for range 500 {
		s, _ := show.Program(m.program())
		if len(s) > api.MaxText/2 {
			continue
		}
		y, at, e := read.Program(m.loose(s))
		if e != api.OK {
			t.Fatalf("%q: %d, %v", s, at, e)
		}
		if v := again(t, show.Program, read.Program, y); v != s {
			t.Fatalf("%q, not %q", v, s)
		}
	}
}

// P6.2: items and parts in any order are shown clauses first, terms first.
func TestOrderAgain(t *testing.T) {
	for s, want := range map[string]string{
		"":         "",
		"% a.\n\n": "",
		"a<-b,within 5,first.c:-1<X,d,X=2,e.f.g<-h&(i),within 0.":        "c :- d, e, 1 < X, X = 2.\nf.\na <- b, within 5, first.\ng <- h & i, within 0.\n",
		"a <- ((b ; c) | (d & e)), within 1, where known f ( X , -1 ) .": "a <- b ; c | d & e, within 1, where known f(X,-1).\n",
	} {
		x, _, e := read.Program(s)
		if e != api.OK {
			t.Errorf("%q: %v", s, e)
		}
		if v := again(t, show.Program, read.Program, x); v != want {
			t.Errorf("%q: %q, not %q", s, v, want)
		}
	}
}

// P6.1, P6.2: what is read need not be what may be: then nothing is shown.
func TestReadButNotShown(t *testing.T) {
	for _, s := range []string{"X.", "1.", "f(g(1)).", "a :- X.", "a :- -1.", "a :- f(g(X)).", "X <- a, within 1.", "1 <- a, within 1.", "a <- X, within 1.", "a <- b ; 1, within 1.", `a <- b ; \+(X) ; c, within 1.`, "a <- b, within -1.", "a <- b, within 1, where known f(g(1))."} {
		x, _, e := read.Program(s)
		if e != api.OK {
			t.Errorf("%s: %v", s, e)
		}
		refuses(t, x, s)
		refuses(t, api.Program{Clauses: append(sample().Clauses, x.Clauses...), Rules: append(sample().Rules, x.Rules...)}, s)
	}
}
