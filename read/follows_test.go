package read

import (
	"math/rand"
	"strconv"
	"strings"
	"testing"

	"almagest/api"
	"almagest/lex"
)

// none puts no bracket that is not needed.
func none() bool { return false }

func termText(t api.Term) string {
	switch {
	case t.Kind == api.TermNum:
		return strconv.Itoa(t.N)
	case len(t.Args) == 0:
		return t.Name
	}
	var l []string
	for _, a := range t.Args {
		l = append(l, termText(a))
	}
	return t.Name + "(" + strings.Join(l, ",") + ")"
}

// binds are how closely each kind of pattern binds: a part that binds less than its place asks stands in brackets.
func binds(kind int) int {
	switch kind {
	case api.PatOr:
		return 0
	case api.PatAnd:
		return 1
	case api.PatRel:
		return 2
	case api.PatTerm:
		return 4
	}
	return 3
}

// patternText puts brackets where they are needed, and where more asks for them.
func patternText(x api.Pattern, place int, more func() bool) string {
	s := ""
	switch x.Kind {
	case api.PatTerm:
		s = termText(x.Term)
	case api.PatRel:
		s = patternText(x.L[0], 3, more) + " @" + relNames()[x.Rel-1] + " " + patternText(x.R[0], 3, more)
	case api.PatNot:
		s = patternText(x.L[0], 3, more) + ` ; \+(` + patternText(x.C[0], 0, more) + ") ; " + patternText(x.R[0], 4, more)
	default:
		b := binds(x.Kind)
		s = patternText(x.L[0], b, more) + map[int]string{api.PatOr: " | ", api.PatAnd: " & ", api.PatSeq: " ; "}[x.Kind] + patternText(x.R[0], b+1, more)
	}
	if binds(x.Kind) < place || more() {
		return "(" + s + ")"
	}
	return s
}

func guardText(g api.Guard) string {
	switch g.Kind {
	case api.GuardKnown:
		return "known " + termText(g.L)
	case api.GuardUnknown:
		return "unknown " + termText(g.L)
	}
	return termText(g.L) + " " + []string{"<", "=<", "=", `\=`}[g.Kind-1] + " " + termText(g.R)
}

func clauseText(c api.Clause) string {
	var l []string
	for _, b := range c.Body {
		l = append(l, termText(b))
	}
	for _, g := range c.Guards {
		l = append(l, guardText(g))
	}
	if len(l) == 0 {
		return termText(c.Head) + "."
	}
	return termText(c.Head) + " :- " + strings.Join(l, ", ") + "."
}

func ruleText(r api.Rule, more func() bool) string {
	s := termText(r.Head) + " <- " + patternText(r.Body, 0, more) + ", within " + strconv.Itoa(r.Within)
	for i, g := range r.Guards {
		s += []string{", where ", ", "}[min(i, 1)] + guardText(g)
	}
	return s + []string{"", ", recent", ", first"}[r.Policy] + "."
}

func programText(x api.Program, more func() bool) string {
	s := ""
	for _, c := range x.Clauses {
		s += clauseText(c) + "\n"
	}
	for _, r := range x.Rules {
		s += ruleText(r, more) + "\n"
	}
	return s
}

// maker makes things at random that may be, or need not be but for what a text can tell.
type maker struct{ *rand.Rand }

func (m maker) word() string {
	return append([]string{"a", "b", "f", "aZ_9", strings.Repeat("q", api.MaxName)}, words()...)[m.Intn(5+len(words()))]
}

func (m maker) term(deep int) api.Term {
	switch k := m.Intn(6); {
	case k == 0:
		return aVar([]string{"X", "Y", "Known", "Q" + strings.Repeat("_", api.MaxName-1)}[m.Intn(4)])
	case k == 1:
		return num([]int{0, 1, -1, 77, api.MaxNum, -api.MaxNum}[m.Intn(6)])
	}
	return m.name(deep)
}

// name has at most 2 Args, and so at most 15 terms.
func (m maker) name(deep int) api.Term {
	x := named(m.word())
	for range m.Intn(3) {
		if deep > 1 {
			x.Args = append(x.Args, m.term(deep-1))
		}
	}
	return x
}

// pattern has at most so many terms, and is at most as deep.
func (m maker) pattern(parts int) api.Pattern {
	if parts < 2 || m.Intn(8) == 0 {
		return of(m.term(3))
	}
	l := 1 + m.Intn(parts-1)
	switch k := m.Intn(6); {
	case k == 0:
		return rel(m.pattern(l), api.RelBefore+m.Intn(13), m.pattern(parts-l))
	case k == 1 && parts > 2:
		c := 1 + m.Intn(parts-2)
		l = 1 + m.Intn(parts-c)
		return not(m.pattern(max(l-1, 1)), m.pattern(c), m.pattern(max(parts-c-l, 1)))
	default:
		return two([]int{api.PatSeq, api.PatAnd, api.PatOr}[k%3], m.pattern(l), m.pattern(parts-l))
	}
}

func (m maker) compared() api.Guard {
	return guard(api.GuardLess+m.Intn(4), m.term(4), m.term(4))
}

func (m maker) guard() api.Guard {
	switch m.Intn(4) {
	case 0:
		return isKnown(m.name(4))
	case 1:
		return isUnknown(m.name(4))
	}
	return m.compared()
}

func (m maker) clause() api.Clause {
	c := api.Clause{Head: m.term(4)}
	for range m.Intn(api.MaxBody + 1) {
		c.Body = append(c.Body, m.term(4))
	}
	for range m.Intn(api.MaxGuards + 1) {
		c.Guards = append(c.Guards, m.compared())
	}
	return c
}

func (m maker) rule() api.Rule {
	r := api.Rule{Head: m.term(4), Body: m.pattern(1 + m.Intn(api.MaxDeep)), Within: m.term(1).N, Policy: m.Intn(3)}
	for range m.Intn(api.MaxGuards + 1) {
		r.Guards = append(r.Guards, m.guard())
	}
	return r
}

// seldom is a function that is true one of so many times.
func (m maker) seldom(n int) func() bool {
	return func() bool { return m.Intn(n) == 0 }
}

// loose is a text with other gaps between its tokens; some have none, where it changes nothing.
func (m maker) loose(s string) string {
	tokens, _, _ := lex.Tokens(s)
	var b strings.Builder
	for i, x := range tokens[:len(tokens)-1] {
		b.WriteString(strings.TrimSpace(s[x.At:tokens[i+1].At]))
		if y := tokens[i+1].Text; strings.Contains("(),.", x.Text) || y != "" && strings.Contains("(),.", y) {
			b.WriteString([]string{"", "", " ", "\n"}[m.Intn(4)])
		} else {
			b.WriteString([]string{" ", "\t", "\r\n", " % a. )\n "}[m.Intn(4)])
		}
	}
	return b.String()
}

// P5.2: what is shown is read as it: terms.
func TestTermsAgain(t *testing.T) {
	m := maker{rand.New(rand.NewSource(51))}
	for range 5000 {
		x := m.term(4)
		tells(t, Term, termText(x), x)
		tells(t, Term, m.loose(termText(x)), x)
		tells(t, Pattern, termText(x), of(x))
	}
}

// P5.2: what is shown is read as it: patterns, with brackets where they are needed, and with more of them.
func TestPatternsAgain(t *testing.T) {
	m := maker{rand.New(rand.NewSource(52))}
	for range 4000 {
		x := m.pattern(1 + m.Intn(api.MaxDeep))
		s := patternText(x, 0, none)
		tells(t, Pattern, s, x)
		tells(t, Pattern, m.loose(s), x)
		tells(t, Pattern, patternText(x, 0, m.seldom(3)), x)
		tells(t, Pattern, patternText(x, 4, m.seldom(1)), x)
	}
}

// P5.2: what is shown is read as it: programs; what is shown of what is read is the same text.
func TestProgramsAgain(t *testing.T) {
	m := maker{rand.New(rand.NewSource(53))}
	for range 1000 {
		var x api.Program
		var items []string
		for range m.Intn(8) {
			if m.Intn(2) == 0 {
				x.Clauses = append(x.Clauses, m.clause())
				items = append(items, clauseText(x.Clauses[len(x.Clauses)-1]))
			} else {
				x.Rules = append(x.Rules, m.rule())
				items = append(items, ruleText(x.Rules[len(x.Rules)-1], m.seldom(5)))
			}
		}
		s := strings.Join(items, " ")
		if len(s) > api.MaxText/2 {
			continue
		}
		tells(t, Program, s, x)
		tells(t, Program, m.loose(s), x)
		tells(t, Program, programText(x, none), x)
		y, _, _ := Program(s)
		if programText(y, none) != programText(x, none) {
			t.Fatalf("%s", s)
		}
	}
}

// P5.2: the parts of a clause may come in any order: terms keep theirs, and comparisons theirs.
func TestPartsAgain(t *testing.T) {
	m := maker{rand.New(rand.NewSource(54))}
	for range 2000 {
		c := m.clause()
		b, g := c.Body, c.Guards
		s := termText(c.Head) + ":-"
		sep := ""
		for len(b)+len(g) > 0 {
			if len(g) == 0 || len(b) > 0 && m.Intn(2) == 0 {
				s, b = s+sep+termText(b[0]), b[1:]
			} else {
				s, g = s+sep+guardText(g[0]), g[1:]
			}
			sep = ","
		}
		if sep == "" {
			s = termText(c.Head)
		}
		tells(t, Program, s+".", clauses(c))
	}
}
