package read

import (
	"strings"
	"testing"

	"almagest/api"
)

// many is s so many times, with sep between.
func many(n int, s, sep string) string {
	return strings.TrimSuffix(strings.Repeat(s+sep, n), sep)
}

// nested is core with so many f( ahead and as many ) behind.
func nested(n int, core string) string {
	return strings.Repeat("f(", n) + core + strings.Repeat(")", n)
}

// bracketed is core with so many ( ahead and as many ) behind.
func bracketed(n int, core string) string {
	return strings.Repeat("(", n) + core + strings.Repeat(")", n)
}

// just are terms that just may be, beyond such as may not.
func just() []string {
	return []string{"f(1,2,3,4)", nested(4, "X"), "f(" + many(3, "g(1,2,3,4)", ",") + ",g(h(1,2,3),h(1,2)))", "a", "f(g(1,2,3,4))"}
}

func beyond() []string {
	return []string{"f(1,2,3,4,5)", nested(5, "X"), "f(" + many(3, "g(1,2,3,4)", ",") + ",g(h(1,2,3),h(1,2,3)))", nested(90, "a"), "f(g(1,2,3,4,5))", "f(" + many(1000, "1", ",") + ")", "within(known,X,-1,f,first)"}
}

// places are texts of all places at which a term may stand, _ in its place, ^ where it begins.
func places() []string {
	return []string{"^_.", "a. b :- c. ^_ :- a.", "^_ <- a, within 1.", "a :- ^_.", "a :- ^_ < 1.", `a :- b, 1 \= ^_.`, "a :- b, ^_, c.", "a <- ^_, within 1.", "a <- b ; (c & ^_) | d, within 1.", `a <- b ; \+(^_) ; c, within 1.`, "a <- b @ met ^_, within 1.", "a <- b, within 1, where ^_ = 1.", "a <- b, within 1, where X =< ^_, first.", "a <- b, within 1, where known ^_.", "a <- b, within 1, where 1 < 2, unknown ^_, recent."}
}

// P5.1: a term that may not be is told at its first token, wherever it stands; one that just may be is read.
func TestTermsThatMayNotBe(t *testing.T) {
	for _, s := range just() {
		if x, _, e := Term(s); e != api.OK || told(x) == told(api.Term{}) {
			t.Errorf("%s: %v", s, e)
		}
		if _, _, e := Pattern(s); e != api.OK {
			t.Errorf("%s: %v", s, e)
		}
		for _, form := range places() {
			text := strings.NewReplacer("^", "", "_", s).Replace(form)
			if x, _, e := Program(text); e != api.OK || len(x.Clauses)+len(x.Rules) == 0 {
				t.Errorf("%s: %v", text, e)
			}
		}
	}
	for _, s := range beyond() {
		errs(t, Term, "^"+s, api.ErrLimit)
		errs(t, Term, " % remark\n ^"+s, api.ErrLimit)
		errs(t, Pattern, "^"+s, api.ErrLimit)
		errs(t, Pattern, "a ; (b | (^"+s+"))", api.ErrLimit)
		for _, form := range places() {
			errs(t, Program, strings.Replace(form, "_", s, 1), api.ErrLimit)
		}
	}
}

// P5.1: the outermost term alone is asked, and not ahead of its end.
func TestOutermostTerm(t *testing.T) {
	for _, s := range beyond() {
		errs(t, Term, "^g("+s+")", api.ErrLimit)
		errs(t, Term, "^g(a, h("+s+"), X)", api.ErrLimit)
		errs(t, Term, s[:len(s)-1]+"^", api.ErrBad)
		errs(t, Term, s[:len(s)-1]+"^.", api.ErrBad)
		errs(t, Term, "g("+s+"^", api.ErrBad)
		errs(t, Term, "g("+s+" ^X)", api.ErrBad)
		errs(t, Term, "g("+s+", ^)", api.ErrBad)
		errs(t, Term, "^"+s+")", api.ErrLimit)
		errs(t, Term, "^"+s+" X", api.ErrLimit)
		errs(t, Pattern, "^"+s+" ; )", api.ErrLimit)
	}
}

// P5.1: MaxBody terms of a body, and no more, whatever comparisons are among them; it is told at the part that is more, ahead of what comes behind it.
func TestMaxBody(t *testing.T) {
	b := named("b")
	tells(t, Program, "a :- b, b, b.", clauses(api.Clause{Head: named("a"), Body: []api.Term{b, b, b}}))
	g := guard(api.GuardLess, num(1), num(2))
	tells(t, Program, "a :- 1<2, b, 1<2, b, 1<2, b, 1<2.", clauses(api.Clause{Head: named("a"), Body: []api.Term{b, b, b}, Guards: []api.Guard{g, g, g, g}}))
	errs(t, Program, "a :- b, b, b, ^b.", api.ErrLimit)
	errs(t, Program, "a :- b, b, b, ^f(X, g(Y)).", api.ErrLimit)
	errs(t, Program, "a :- b, b, b, ^X.", api.ErrLimit)
	errs(t, Program, "a :- b, b, b, ^1, b.", api.ErrLimit)
	errs(t, Program, "a :- 1<2, b, 1<2, b, b, 1<2, ^b, 1<2.", api.ErrLimit)
	errs(t, Program, "a :- b, b, b. b :- b, b, b. a :- b, b, b, ^b. a :- b, b, b, b.", api.ErrLimit)
	errs(t, Program, "a :- b, b, b, ^b", api.ErrLimit)
	errs(t, Program, "a :- b, b, b, ^b )", api.ErrLimit)
	errs(t, Program, "a :- b, b, b, ^b c", api.ErrLimit)
	errs(t, Program, "a :- b, b, b, b(^", api.ErrBad)
	errs(t, Program, "a :- b, b, b, b(X ^.", api.ErrBad)
	errs(t, Program, "a :- b, b, b, b < ^.", api.ErrBad)
	errs(t, Program, "a :- b, b, b, ^.", api.ErrBad)
	tells(t, Program, "a :- b, b, b, b < b.", clauses(api.Clause{Head: named("a"), Body: []api.Term{b, b, b}, Guards: []api.Guard{guard(api.GuardLess, b, b)}}))
}

// P5.1: MaxGuards guards, of clauses and of rules, of all kinds together.
func TestMaxGuards(t *testing.T) {
	all := []string{"1<2", `X \= f(Y)`, "known f(X)", "unknown f(X)", "known < 1", "recent = recent", "unknown known", "f(f(X)) =< -1"}
	compared := []string{"1<2", `X \= f(Y)`, "known < 1", "recent = recent", "f(f(X)) =< -1"}
	for _, l := range [][]string{all, compared} {
		for i := range l {
			turned := append(append([]string{}, l[i:]...), l[:i]...)
			four, fifth := strings.Join(turned[:4], ","), turned[4]
			for _, policy := range []string{"", ", recent", ", first"} {
				if x, _, e := Program("a <- b, within 1, where " + four + policy + "."); e != api.OK || len(x.Rules[0].Guards) != 4 {
					t.Errorf("%s: %s, %v", four, told(x), e)
				}
				errs(t, Program, "a <- b, within 1, where "+four+",^"+fifth+policy+".", api.ErrLimit)
			}
			for _, tail := range []string{"", " )", " X", ",", ", )", " within", " <- b", " |", " f"} {
				errs(t, Program, "c. a <- b, within 1, where "+four+",^"+fifth+tail, api.ErrLimit)
			}
		}
	}
	for i := range compared {
		turned := append(append([]string{}, compared[i:]...), compared[:i]...)
		four, fifth := strings.Join(turned[:4], ","), turned[4]
		if x, _, e := Program("a :- b, " + four + ", c."); e != api.OK || len(x.Clauses[0].Guards) != 4 || len(x.Clauses[0].Body) != 2 {
			t.Errorf("%s: %s, %v", four, told(x), e)
		}
		errs(t, Program, "a :- b, "+four+",c, ^"+fifth+".", api.ErrLimit)
		errs(t, Program, "a :- "+four+", ^"+fifth+" )", api.ErrLimit)
	}
	errs(t, Program, "a <- b, within 1, where 1<2,1<2,1<2,1<2, 1<^", api.ErrBad)
	errs(t, Program, "a <- b, within 1, where 1<2,1<2,1<2,1<2, 1^.", api.ErrBad)
	errs(t, Program, "a <- b, within 1, where 1<2,1<2,1<2,1<2, recent ^1.", api.ErrBad)
	errs(t, Program, "a <- b, within 1, where 1<2,1<2,1<2,1<2, known^", api.ErrBad)
	errs(t, Program, "a <- b, within 1, where 1<2,1<2,1<2,1<2, known f(^", api.ErrBad)
}

// chain has so many terms with sign between them: it is as deep.
func chain(n int, sign string) string { return many(n, "a", sign) }

// wide has so many terms (at most 16), and is at most 7 deep.
func wide(n int) string {
	var l []string
	for ; n > 4; n -= 4 {
		l = append(l, "("+chain(4, ";")+")")
	}
	return strings.Join(append(l, chain(n, "&")), "|")
}

// asBody is what a pattern is, read alone and in a rule.
func asBody(t *testing.T, s string, want bool) {
	t.Helper()
	x, _, e := Pattern(s)
	y, _, f := Program("a <- " + s + ", within 1.")
	if want && (e != api.OK || f != api.OK || told(y.Rules[0].Body) != told(x)) {
		t.Errorf("%s: %v, %v", s, e, f)
	}
	if !want {
		errs(t, Pattern, "^"+s, api.ErrLimit)
		errs(t, Pattern, "\n % \n ^"+s+" ", api.ErrLimit)
		errs(t, Program, "a <- ^"+s+", within 1.", api.ErrLimit)
		errs(t, Program, "b. f(X,g(Y)) <- ^"+s+", within 1, where X < 1, first. c.", api.ErrLimit)
	}
}

// P5.1: MaxParts terms of a pattern, those of C too.
func TestMaxParts(t *testing.T) {
	for n := 1; n <= 16; n++ {
		asBody(t, wide(n), n <= api.MaxParts)
		asBody(t, "("+wide(n)+")", n <= api.MaxParts)
	}
	for n := 1; n <= 12; n++ {
		asBody(t, `b;\+(`+wide(n)+`);c`, n <= api.MaxParts-2)
		asBody(t, `(`+wide(n)+`);\+(b&b);c`, n <= api.MaxParts-3)
		asBody(t, `b@met(c;\+(b);(`+wide(n)+`))`, n <= api.MaxParts-3)
	}
	asBody(t, "f(1,2,3,4)&f(1,2,3,4)&f(1,2,3,4)", true)
	errs(t, Pattern, "^"+chain(2000, "&"), api.ErrLimit)
}

// P5.1: a pattern is at most MaxDeep deep; brackets make it no deeper; C does.
func TestMaxDeep(t *testing.T) {
	for _, sign := range []string{";", "&", "|", `;\+(c);`} {
		most := api.MaxDeep
		if sign == `;\+(c);` {
			most = 6 // MaxParts is met ahead
		}
		asBody(t, chain(most, sign), true)
		asBody(t, bracketed(90, chain(most, sign)), true)
		asBody(t, chain(api.MaxDeep+1, sign), false)
		right := strings.Repeat("a"+sign+"(", most-1) + "a" + strings.Repeat(")", most-1)
		asBody(t, right, true)
		asBody(t, "a"+sign+"("+strings.Repeat("a"+sign+"(", api.MaxDeep-1)+"a"+strings.Repeat(")", api.MaxDeep), false)
	}
	for _, n := range []int{6, 7, 8} {
		asBody(t, `b;\+(`+chain(n, ";")+`);c`, n < api.MaxDeep)
		asBody(t, `(`+chain(n, "|")+`);\+(b);c`, n < api.MaxDeep)
		asBody(t, `b;\+(c);(`+chain(n, "&")+`)`, n < api.MaxDeep)
		asBody(t, chain(n, ";")+"@met b", n < api.MaxDeep)
		asBody(t, "b@met "+chain(n, ";"), n < api.MaxDeep)
		asBody(t, "b|"+chain(n, "&"), n < api.MaxDeep)
		asBody(t, "b&"+chain(n, ";"), n < api.MaxDeep)
	}
	asBody(t, "((((a;b;c)@met b)&b)|b);c;d", true)
	asBody(t, "((((a;b;c)@met b)&b)|b);c;d;e", false)
	errs(t, Pattern, "^"+chain(2000, ";"), api.ErrLimit)
	errs(t, Pattern, "^"+chain(2000, "|"), api.ErrLimit)
}

// P5.1: MaxRules rules and MaxClause clauses, each counted alone; it is told at the item that is more.
func TestMaxItems(t *testing.T) {
	rule, clause, fact := "a<-b,within 1.", "a:-b.", "f(X)."
	for _, c := range []string{clause, fact} {
		full := strings.Repeat(c, api.MaxClause)
		for _, s := range []string{full, full + strings.Repeat(rule, api.MaxRules), strings.Repeat(rule, api.MaxRules) + full, strings.Repeat(c+rule, api.MaxRules) + strings.Repeat(c, 10)} {
			if x, at, e := Program(s); e != api.OK || at != 0 || len(x.Clauses) != api.MaxClause || len(x.Rules) != strings.Count(s, "<-") {
				t.Errorf("%s: %s, %d, %v", short(s), told(x), at, e)
			}
			errs(t, Program, s+" ^"+c, api.ErrLimit)
			errs(t, Program, s+"^"+c+c+rule, api.ErrLimit)
			errs(t, Program, s+"^"+c+" )", api.ErrLimit)
			errs(t, Program, s+"a^", api.ErrBad)
			errs(t, Program, s+"a:-b ^)", api.ErrBad)
		}
	}
	full := strings.Repeat(rule, api.MaxRules)
	for _, s := range []string{full, full + strings.Repeat(fact, api.MaxClause), strings.Repeat(fact, api.MaxClause) + full, strings.Repeat(rule+fact, api.MaxRules) + "a."} {
		if x, at, e := Program(s); e != api.OK || at != 0 || len(x.Rules) != api.MaxRules || len(x.Clauses) != strings.Count(s, "(")+strings.Count(s, ".a.") {
			t.Errorf("%s: %s, %d, %v", short(s), told(x), at, e)
		}
		errs(t, Program, s+"\n^"+rule, api.ErrLimit)
		errs(t, Program, s+"^"+rule+rule+fact, api.ErrLimit)
		errs(t, Program, s+"^"+rule+" )", api.ErrLimit)
		errs(t, Program, s+"a<-b,within 1^", api.ErrBad)
		errs(t, Program, s+"a<-b^.", api.ErrBad)
	}
}

// P5.1: 100 brackets within each other, of terms, of patterns, of both; at the one that is more it is told, whatever is behind it.
func TestMaxBrackets(t *testing.T) {
	tells(t, Pattern, bracketed(100, "a"), p("a"))
	tells(t, Pattern, bracketed(100, "a;b"), seq(p("a"), p("b")))
	tells(t, Pattern, bracketed(99, "f(a)"), of(named("f", named("a"))))
	tells(t, Pattern, bracketed(97, "f(f(f(X)))")+";"+bracketed(100, "a"), seq(of(named("f", named("f", named("f", aVar("X"))))), p("a")))
	tells(t, Pattern, `a;\+`+bracketed(100, "b")+";"+bracketed(100, "c"), not(p("a"), p("b"), p("c")))
	tells(t, Pattern, bracketed(99, `a;\+(b);c`), not(p("a"), p("b"), p("c")))
	tells(t, Pattern, strings.Repeat("(", 99)+"(a);(b);(c)"+strings.Repeat(")", 99), seq(seq(p("a"), p("b")), p("c")))
	tells(t, Program, "a <- "+bracketed(100, "a")+", within 1. f(1) <- "+bracketed(100, "a")+", within 1.", rules(api.Rule{Head: named("a"), Body: p("a"), Within: 1}, api.Rule{Head: named("f", num(1)), Body: p("a"), Within: 1}))
	errs(t, Term, "^"+nested(100, "a"), api.ErrLimit)
	errs(t, Term, strings.Repeat("f(", 100)+"^", api.ErrBad)
	errs(t, Term, strings.Repeat("f(", 100)+"^(", api.ErrBad)
	errs(t, Term, strings.Repeat("f(", 100)+"f^(", api.ErrLimit)
	errs(t, Term, strings.Repeat("f(", 100)+"f^("+"a"+strings.Repeat(")", 101), api.ErrLimit)
	errs(t, Term, strings.Repeat("f(", 99)+"1, f(2), f(3), f(f^(", api.ErrLimit)
	for _, tail := range []string{"", "a" + strings.Repeat(")", 101), ")", ".", strings.Repeat("(", 3000)} {
		errs(t, Pattern, strings.Repeat("(", 100)+"^("+tail, api.ErrLimit)
		errs(t, Pattern, strings.Repeat("(", 60)+strings.Repeat("f(", 40)+"g^("+tail, api.ErrLimit)
		errs(t, Pattern, strings.Repeat("(", 100)+"a;f^("+tail, api.ErrLimit)
		errs(t, Pattern, strings.Repeat("(", 100)+`a;\+^(`+tail, api.ErrLimit)
		errs(t, Pattern, strings.Repeat(`a;\+(`, 100)+"^("+tail, api.ErrLimit)
		errs(t, Pattern, strings.Repeat(`a;\+(`, 100)+`a;\+^(`+tail, api.ErrLimit)
		errs(t, Program, "b. a <- "+strings.Repeat("(", 100)+"^("+tail, api.ErrLimit)
		errs(t, Program, strings.Repeat("f(", 100)+"f^("+tail, api.ErrLimit)
		errs(t, Program, "a :- b, "+strings.Repeat("f(", 100)+"f^("+tail, api.ErrLimit)
		errs(t, Program, "a <- b, within 1, where known "+strings.Repeat("f(", 100)+"f^("+tail, api.ErrLimit)
	}
	errs(t, Pattern, strings.Repeat("(", 100)+"1^(", api.ErrBad)
	errs(t, Pattern, strings.Repeat("(", 100)+"X^(", api.ErrBad)
	errs(t, Pattern, bracketed(100, "a")+"^(", api.ErrBad)
	errs(t, Pattern, strings.Repeat("(", 100)+`a;\+^b`, api.ErrBad)
	errs(t, Pattern, strings.Repeat("(", 100)+"^)", api.ErrBad)
}

// tooMuch are patterns alone beyond MaxParts, MaxDeep, or both, that end so that no "(" goes on with them.
func tooMuch() []string {
	return []string{
		chain(12, "&") + "&X",
		chain(8, ";") + ";-1",
		chain(8, "|") + "|f(X)",
		"(" + wide(13) + ")",
		bracketed(90, chain(9, "&")),
		wide(12) + "&b@met X",
		`b;\+(` + wide(11) + `);X`,
		`b;\+(` + chain(8, ";") + `);(c)`,
		chain(8, ";") + "@during 1",
		"b@ends(" + chain(8, "|") + ")",
		strings.Repeat("a;(", 8) + "a" + strings.Repeat(")", 8),
		chain(1000, ";") + ";X",
	}
}

// P5.1: a pattern alone is whole where nothing is behind it: a token with which no pattern goes on is told ahead of its being too much, whatever that token is, and whatever is behind it.
func TestBehindTooMuch(t *testing.T) {
	for _, s := range tooMuch() {
		errs(t, Pattern, "^"+s, api.ErrLimit)
		errs(t, Pattern, " % remark\n ^"+s+" % remark", api.ErrLimit)
		for _, x := range swaps() {
			if strings.Contains(";&|", x) || x == "@" && !strings.Contains(s, "@") { // it goes on
				errs(t, Pattern, s+" "+x+" ^)", api.ErrBad)
				continue
			}
			for _, tail := range []string{"", " ", " b", " ; b", " )", " f(1,2,3,4,5)", strings.Repeat(" (", 200)} {
				errs(t, Pattern, " "+s+" ^"+x+tail, api.ErrBad)
			}
		}
		errs(t, Pattern, s+" & b ^b", api.ErrBad)
		errs(t, Pattern, s+" & ^f(1,2,3,4,5) )", api.ErrLimit)
		errs(t, Program, "a <- ^"+s+", within 1. )", api.ErrLimit)
	}
}

// P5.1: of two errors the one that is read first is told; a term, a part, a guard, an item that is whole is asked ahead of the token behind it, a pattern alone where nothing is behind it; lex's errors are told ahead of all.
func TestFirstError(t *testing.T) {
	bad := "f(1,2,3,4,5)"
	deep := chain(9, ";")
	errs(t, Program, ") "+bad+" ^?", api.ErrBad)
	errs(t, Program, "^"+bad+" ) "+bad, api.ErrLimit)
	errs(t, Program, "^) "+bad, api.ErrBad)
	errs(t, Program, "a :- ^"+bad+", "+bad+".", api.ErrLimit)
	errs(t, Program, "a :- ^"+bad+" <- b", api.ErrLimit)
	errs(t, Program, "a :- b, b, b, ^"+bad+".", api.ErrLimit)
	errs(t, Program, "a :- b, b, b, ^"+bad+" < 1.", api.ErrLimit)
	errs(t, Program, "a :- 1<1,1<1,1<1,1<1, 1 < ^"+bad+".", api.ErrLimit)
	errs(t, Program, "a :- 1<1,1<1,1<1,1<1, b, b, b, ^1 < 1, b.", api.ErrLimit)
	errs(t, Program, "a :- 1<1,1<1,1<1,1<1, b, b, b, ^b, 1 < 1.", api.ErrLimit)
	errs(t, Program, "a <- b, within 1, where 1<1,1<1,1<1,1<1, 1 < ^"+bad+".", api.ErrLimit)
	errs(t, Program, "a <- b, within 1, where 1<1,1<1,1<1,1<1, known ^"+bad+".", api.ErrLimit)
	errs(t, Program, "a <- b, within 1, where 1<1,1<1,1<1,1<1, ^known f, known "+bad+".", api.ErrLimit)
	errs(t, Program, "a <- "+deep+"^.", api.ErrBad)
	errs(t, Program, "a <- "+deep+", within ^X.", api.ErrBad)
	errs(t, Program, "a <- "+deep+", within 1^", api.ErrBad)
	errs(t, Program, "a <- "+deep+", within 1, ^"+bad+".", api.ErrBad)
	errs(t, Program, "a <- "+deep+", within 1, where ^"+bad+" = 1.", api.ErrLimit)
	errs(t, Program, "a <- "+deep+", within 1, where 1<1,1<1,1<1,1<1, ^1<1.", api.ErrLimit)
	errs(t, Program, "a <- ^"+deep+", within 1, where 1<1. )", api.ErrLimit)
	errs(t, Program, "a <- "+deep+" ; ^"+bad+", within 1.", api.ErrLimit)
	errs(t, Program, "a <- ^"+deep+", within 1. "+bad+".", api.ErrLimit)
	errs(t, Program, strings.Repeat("a<-b,within 1.", 20)+"a <- ^"+deep+", within 1.", api.ErrLimit)
	errs(t, Program, strings.Repeat("a<-b,within 1.", 20)+"a <- ^"+bad+", within 1.", api.ErrLimit)
	errs(t, Program, strings.Repeat("a<-b,within 1.", 20)+"^a <- b, within 1. a <- "+deep+", within 1.", api.ErrLimit)
	errs(t, Program, strings.Repeat("a<-b,within 1.", 20)+strings.Repeat("a.", 30)+"^a. a <- b, within 1.", api.ErrLimit)
	errs(t, Program, strings.Repeat("a.", 30)+"a :- b, b, b, ^b.", api.ErrLimit)
	errs(t, Program, strings.Repeat("a.", 30)+"^"+bad+".", api.ErrLimit)
	errs(t, Pattern, deep+" ^)", api.ErrBad)
	errs(t, Pattern, deep+" ^X", api.ErrBad)
	errs(t, Pattern, deep+"@met b ^@met b", api.ErrBad)
	errs(t, Pattern, deep+";^", api.ErrBad)
	errs(t, Pattern, deep+"@^b a", api.ErrBad)
	errs(t, Pattern, "("+deep+"^", api.ErrBad)
	errs(t, Pattern, deep+";^"+bad, api.ErrLimit)
}

// P5.1: lex's errors are told ahead of all others, at their places.
func TestLexErrors(t *testing.T) {
	long := strings.Repeat("a", api.MaxName+1)
	for s, e := range map[string]api.Errno{"?": api.ErrBad, ":": api.ErrBad, "-": api.ErrBad, "\\": api.ErrBad, "\x00": api.ErrBad, "é": api.ErrBad, "_": api.ErrBad, "1073741825": api.ErrLimit, "-1073741825": api.ErrLimit, long: api.ErrLimit, "A" + long: api.ErrLimit} {
		for _, ahead := range []string{"", ") ", "a ", "a. ", "f(1,2,3,4,5) ", "a :- b, b, b, b. ", chain(20, ";") + " ", strings.Repeat("(", 200), strings.Repeat("a.", 40), "% \n "} {
			for _, tail := range []string{"", " ", " )", " a."} {
				errs(t, Term, ahead+"^"+s+tail, e)
				errs(t, Pattern, ahead+"^"+s+tail, e)
				errs(t, Program, ahead+"^"+s+tail, e)
			}
		}
	}
	for _, s := range []string{"a", "a.", " ", ")", "?", "f(1,2,3,4,5)", "%"} {
		text := "^" + strings.Repeat(s, api.MaxText/len(s)+1)
		errs(t, Term, text, api.ErrLimit)
		errs(t, Pattern, text, api.ErrLimit)
		errs(t, Program, text, api.ErrLimit)
	}
	full := "a." + strings.Repeat(" ", api.MaxText-2)
	tells(t, Program, full, clauses(fact(named("a"))))
	errs(t, Program, "^"+full+" ", api.ErrLimit)
	tells(t, Term, full[:1]+full[2:]+" ", named("a"))
	tells(t, Pattern, full[:1]+full[2:]+" ", p("a"))
}
