package meet_test

import (
	"fmt"
	"slices"
	"strconv"
	"strings"
	"testing"

	"almagest/api"
	"almagest/bind"
	"almagest/meet"
	"almagest/read"
	"almagest/show"
	"almagest/span"
)

func aVar(s string) api.Term { return api.Term{Kind: api.TermVar, Name: s} }

func num(n int) api.Term { return api.Term{Kind: api.TermNum, N: n} }

func named(s string, args ...api.Term) api.Term {
	return api.Term{Kind: api.TermName, Name: s, Args: args}
}

func list[T any](n int, x T) []T { return slices.Repeat([]T{x}, n) }

func one(t *testing.T, text string) api.Term {
	t.Helper()
	x, at, e := read.Term(text)
	if e != api.OK {
		t.Fatalf("%q: %v at %d", text, e, at)
	}
	return x
}

func pattern(t *testing.T, text string) api.Pattern {
	t.Helper()
	p, at, e := read.Pattern(text)
	if e != api.OK {
		t.Fatalf("%q: %v at %d", text, e, at)
	}
	return p
}

// kept are facts of a text as "a 1 5; #7 b(2) 8": a term, when it begins, and when it ends, if it is no point. The first is Seq 0, or as it is told, each other one more than the one ahead of it.
func kept(t *testing.T, text string) []api.Kept {
	t.Helper()
	var l []api.Kept
	seq := 0
	for _, s := range strings.Split(text, ";") {
		w := strings.Fields(s)
		if len(w) > 0 && w[0][0] == '#' {
			seq, w = number(t, w[0][1:]), w[1:]
		}
		if len(w) == 0 {
			continue
		}
		from := number(t, w[1])
		l = append(l, api.Kept{Seq: seq, Fact: api.Fact{Term: one(t, w[0]), Span: api.Span{From: from, To: number(t, w[len(w)-1])}}})
		seq++
	}
	return l
}

func number(t *testing.T, s string) int {
	t.Helper()
	n, e := strconv.Atoi(s)
	if e != nil {
		t.Fatal(e)
	}
	return n
}

// points are so many facts of a name, name(0) at from, name(1) one later, and so on.
func points(name string, n int, from int) []api.Kept {
	var l []api.Kept
	for i := range n {
		l = append(l, api.Kept{Fact: api.Fact{Term: named(name, num(i)), Span: api.Span{From: from + i, To: from + i}}})
	}
	return l
}

// numbered gives facts Seqs from 0 on.
func numbered(l ...[]api.Kept) []api.Kept {
	all := slices.Concat(l...)
	for i := range all {
		all[i].Seq = i
	}
	return all
}

func text(x api.Term) string {
	s, e := show.Term(x)
	if e != api.OK {
		return fmt.Sprintf("?%+v", x)
	}
	return s
}

// matchText is as "0,3 1..5 X=1 Y=a": what is used, from when to when, and what is bound.
func matchText(m api.Match) string {
	var used []string
	for _, n := range m.Used {
		used = append(used, strconv.Itoa(n))
	}
	s := strings.Join(used, ",") + fmt.Sprintf(" %d..%d", m.Span.From, m.Span.To)
	for _, b := range m.Binds {
		s += " " + b.Name + "=" + text(b.Term)
	}
	return s
}

func matchTexts(l []api.Match) string {
	var s []string
	for _, m := range l {
		s = append(s, matchText(m))
	}
	return strings.Join(s, "; ")
}

// allOf holds that All tells the same again, nothing beside an error, matches that may be, rising, and changes nothing; and that With tells the same, if all Seqs count.
func allOf(t *testing.T, l []api.Kept, p api.Pattern) ([]api.Match, api.Errno) {
	t.Helper()
	what := fmt.Sprintf("%+v %+v", l, p)
	m, e := meet.All(l, p)
	m2, e2 := meet.All(l, p)
	m3, e3 := meet.With(l, p, 0)
	told := matchTexts(m)
	if told != matchTexts(m2) || e != e2 || told != matchTexts(m3) || e != e3 {
		t.Errorf("%s: %s, %v, then %s, %v, then %s, %v", what, told, e, matchTexts(m2), e2, matchTexts(m3), e3)
	}
	if fmt.Sprintf("%+v %+v", l, p) != what {
		t.Errorf("%s: changed", what)
	}
	if e != api.OK && m != nil {
		t.Errorf("%s: %s beside %v", what, told, e)
	}
	for i, x := range m {
		if bind.Check(x.Binds) != api.OK || span.Check(x.Span) != api.OK || len(x.Used) == 0 {
			t.Errorf("%s: %s may not be", what, matchText(x))
		}
		if i > 0 && (meet.Order(m[i-1], x) != -1 || meet.Order(x, m[i-1]) != 1) {
			t.Errorf("%s: %s ahead of %s", what, matchText(m[i-1]), matchText(x))
		}
	}
	return m, e
}

// meets holds what All tells of texts.
func meets(t *testing.T, facts, p, want string) {
	t.Helper()
	m, e := allOf(t, kept(t, facts), pattern(t, p))
	if matchTexts(m) != want || e != api.OK {
		t.Errorf("%q, %q: %q, %v, not %q", facts, p, matchTexts(m), e, want)
	}
}

// P13.1: the chapter's example.
func TestExample(t *testing.T) {
	meets(t, "a 1; b 2", "a ; b", "0,1 1..2")
}

// P13.1: a term: of no fact, of one, of several; its variables, also such that stand twice.
func TestTerm(t *testing.T) {
	for _, c := range []struct{ facts, p, want string }{
		{"", "a", ""},
		{"", "f(X)", ""},
		{"a 1", "a", "0 1..1"},
		{"a 1 9", "a", "0 1..9"},
		{"a -9 -1", "a", "0 -9..-1"},
		{"a 1", "b", ""},
		{"a 1", "aa", ""},
		{"aa 1", "a", ""},
		{"a 1", "a(X)", ""},
		{"a(1) 1", "a", ""},
		{"a 1; a 2; a 1 2", "a", "0 1..1; 1 2..2; 2 1..2"},
		{"a 5; b 4; a 3; c 2; a 1", "a", "0 5..5; 2 3..3; 4 1..1"},
		{"f(1) 1", "f(1)", "0 1..1"},
		{"f(1) 1", "f(2)", ""},
		{"f(1) 1", "f(a)", ""},
		{"f(1) 1", "g(1)", ""},
		{"f(1) 1", "f(X)", "0 1..1 X=1"},
		{"f(a) 1", "f(X)", "0 1..1 X=a"},
		{"f(0) 1", "f(X)", "0 1..1 X=0"},
		{"f(-7) 1", "f(X)", "0 1..1 X=-7"},
		{"f(1) 1; f(2) 1; g(3) 1; f(a) 1; f(1,1) 1; f(b(c)) 1", "f(X)", "0 1..1 X=1; 1 1..1 X=2; 3 1..1 X=a; 5 1..1 X=b(c)"},
		{"f(1) 1; f(1) 2", "f(X)", "0 1..1 X=1; 1 2..2 X=1"},
		{"f(1,2) 1", "f(X,Y)", "0 1..1 X=1 Y=2"},
		{"f(1,2) 1", "f(Y,X)", "0 1..1 X=2 Y=1"},
		{"f(1,2) 1; f(2,2) 1; f(a,a) 1; f(a,1) 1; f(g(1),g(1)) 1; f(g(1),g(2)) 1", "f(X,X)", "1 1..1 X=2; 2 1..1 X=a; 4 1..1 X=g(1)"},
		{"f(1,2) 1; f(2,2) 1", "f(X,2)", "0 1..1 X=1; 1 1..1 X=2"},
		{"f(1,2) 1; f(2,2) 1; f(2,1) 1", "f(2,X)", "1 1..1 X=2; 2 1..1 X=1"},
		{"f(g(1,h(a)),2) 1; f(g(1,b),2) 2", "f(g(X,h(Y)),Z)", "0 1..1 X=1 Y=a Z=2"},
		{"f(g(1,h(a)),2) 1; f(g(1,b),2) 2", "f(g(X,Y),Z)", "0 1..1 X=1 Y=h(a) Z=2; 1 2..2 X=1 Y=b Z=2"},
		{"f(g(h(i(1)))) 1", "f(X)", "0 1..1 X=g(h(i(1)))"},
		{"f(g(h(i(1)))) 1", "f(g(h(i(X))))", "0 1..1 X=1"},
		{"f(g(1),1) 1; f(g(1),2) 2", "f(g(X),X)", "0 1..1 X=1"},
		{"f(1,2,3,4) 1", "f(D,C,B,A)", "0 1..1 A=4 B=3 C=2 D=1"},
		{"f(1,2,3,4) 1", "f(X1,X,Xa,X_)", "0 1..1 X=2 X1=1 X_=4 Xa=3"},
		{"f(1,2,3,4) 1", "f(Z,ZZ,ZA,Za)", "0 1..1 Z=1 ZA=3 ZZ=2 Za=4"},
		{"#5 f(1) 1; #9 f(2) 0; #10 g 1; #4611686018427387904 f(3) 2", "f(X)", "5 1..1 X=1; 9 0..0 X=2; 4611686018427387904 2..2 X=3"},
		{"f(p(0,q,r(1,s)),t) 1", "f(X,Y)", "0 1..1 X=p(0,q,r(1,s)) Y=t"},
		{"f(p(q,q),q,p(q,q,q,q),q(p)) 1", "f(A,B,C,D)", "0 1..1 A=p(q,q) B=q C=p(q,q,q,q) D=q(p)"},
	} {
		meets(t, c.facts, c.p, c.want)
	}
}

// P13.1: a sequence: behind each other, touching, overlapping; binds that join, and binds that do not.
func TestSeq(t *testing.T) {
	for _, c := range []struct{ facts, p, want string }{
		{"", "a ; b", ""},
		{"a 1", "a ; b", ""},
		{"b 1", "a ; b", ""},
		{"b 1; a 2", "a ; b", ""},
		{"b 2; a 1", "a ; b", "1,0 1..2"},
		{"a 1 3; b 4 6", "a ; b", "0,1 1..6"},
		{"a 1 3; b 3 6", "a ; b", ""},
		{"a 1 3; b 2 6", "a ; b", ""},
		{"a 1 3; b 1 3", "a ; b", ""},
		{"a 4 6; b 1 3", "a ; b", ""},
		{"a 1 6; b 2 3", "a ; b", ""},
		{"a 1; b 1", "a ; b", ""},
		{"a 1; b 9", "a ; b", "0,1 1..9"},
		{"a 1; a 2", "a ; a", "0,1 1..2"},
		{"a 1", "a ; a", ""},
		{"a 1; a 2; a 3", "a ; a", "0,1 1..2; 0,2 1..3; 1,2 2..3"},
		{"a 1; b 2; a 3; b 4", "a ; b", "0,1 1..2; 0,3 1..4; 2,3 3..4"},
		{"f(1) 1; g(1) 2", "f(X) ; g(X)", "0,1 1..2 X=1"},
		{"f(1) 1; g(2) 2", "f(X) ; g(X)", ""},
		{"f(1) 1; g(2) 2", "f(X) ; g(Y)", "0,1 1..2 X=1 Y=2"},
		{"f(1) 1; g(2) 2", "f(Y) ; g(X)", "0,1 1..2 X=2 Y=1"},
		{"f(1) 1; f(2) 1; g(1) 2; g(2) 2; g(3) 2", "f(X) ; g(X)", "0,2 1..2 X=1; 1,3 1..2 X=2"},
		{"f(1,2) 1; g(2,3) 2; g(1,3) 2", "f(X,Y) ; g(Y,Z)", "0,1 1..2 X=1 Y=2 Z=3"},
		{"a 1; b 2; c 3", "a ; b ; c", "0,1,2 1..3"},
		{"c 1; b 2; a 3", "c ; b ; a", "0,1,2 1..3"},
		{"a 3; b 2; c 1", "c ; b ; a", "2,1,0 1..3"},
		{"a 1; b 2; c 3", "a ; (b ; c)", "0,1,2 1..3"},
		{"a 1; b 3; c 2", "a ; b ; c", ""},
		{"a 1; b 2 5; c 6", "a ; b ; c", "0,1,2 1..6"},
		{"a 1; b 2 6; c 6", "a ; b ; c", ""},
		{"f(1) 1; f(1) 2; f(2) 3; f(1) 4", "f(X) ; f(X) ; f(X)", "0,1,3 1..4 X=1"},
		{"a -1073741824; b 1073741824", "a ; b", "0,1 -1073741824..1073741824"},
		{"a -1073741824 1073741823; b 1073741824", "a ; b", "0,1 -1073741824..1073741824"},
		{"a 1; b 1 5; c 6", "a & b ; c", "0,1,2 1..6"},
		{"a 9; b 1 5; c 6", "(a & b) ; c", ""},
		{"a 5; b 1 5; c 6", "(a & b) ; c", "0,1,2 1..6"},
	} {
		meets(t, c.facts, c.p, c.want)
	}
}

// P13.1: both, whenever: binds that join, and binds that do not; the same fact on both sides; hulls.
func TestAnd(t *testing.T) {
	for _, c := range []struct{ facts, p, want string }{
		{"", "a & b", ""},
		{"a 1", "a & b", ""},
		{"b 1", "a & b", ""},
		{"a 1; b 1", "a & b", "0,1 1..1"},
		{"a 1 3; b 2 6", "a & b", "0,1 1..6"},
		{"a 2 6; b 1 3", "a & b", "0,1 1..6"},
		{"a 1 9; b 2 3", "a & b", "0,1 1..9"},
		{"a 2 3; b 1 9", "a & b", "0,1 1..9"},
		{"a 8; b 2", "a & b", "0,1 2..8"},
		{"a 8; b 2", "b & a", "1,0 2..8"},
		{"a 1", "a & a", "0,0 1..1"},
		{"a 1 4; a 2 3", "a & a", "0,0 1..4; 0,1 1..4; 1,0 1..4; 1,1 2..3"},
		{"f(1) 1; g(1) 1", "f(X) & g(X)", "0,1 1..1 X=1"},
		{"f(1) 1; g(2) 1", "f(X) & g(X)", ""},
		{"f(1) 1; g(2) 1", "f(X) & g(Y)", "0,1 1..1 X=1 Y=2"},
		{"f(1) 1; f(2) 1", "f(X) & f(X)", "0,0 1..1 X=1; 1,1 1..1 X=2"},
		{"f(1) 1; f(2) 1", "f(X) & f(Y)", "0,0 1..1 X=1 Y=1; 0,1 1..1 X=1 Y=2; 1,0 1..1 X=2 Y=1; 1,1 1..1 X=2 Y=2"},
		{"f(1,2) 1; f(2,1) 1; f(3,3) 1", "f(X,Y) & f(Y,X)", "0,1 1..1 X=1 Y=2; 1,0 1..1 X=2 Y=1; 2,2 1..1 X=3 Y=3"},
		{"f(1,2) 1; f(2,3) 1; f(3,1) 1", "f(X,Y) & f(Y,Z) & f(Z,X)", "0,1,2 1..1 X=1 Y=2 Z=3; 1,2,0 1..1 X=2 Y=3 Z=1; 2,0,1 1..1 X=3 Y=1 Z=2"},
		{"f(1) 1; g(g(1)) 1", "f(X) & g(X)", ""},
		{"f(g(1)) 1; g(g(1)) 1", "f(X) & g(X)", "0,1 1..1 X=g(1)"},
		{"f(g(1)) 1; g(g(1)) 1", "f(g(X)) & g(Y)", "0,1 1..1 X=1 Y=g(1)"},
		{"a 1; f(1) 1", "a & f(X)", "0,1 1..1 X=1"},
		{"a 1; f(1) 1", "f(X) & a", "1,0 1..1 X=1"},
		{"f(1,2,3) 1; g(4,2,5) 1", "f(A,M,Z) & g(B,M,Y)", "0,1 1..1 A=1 B=4 M=2 Y=5 Z=3"},
		{"f(1,2,3) 1; g(4,0,5) 1", "f(A,M,Z) & g(B,M,Y)", ""},
		{"a 1; b 2; c 3", "a & b & c", "0,1,2 1..3"},
		{"a 1; b 2; c 3", "a & (b & c)", "0,1,2 1..3"},
		{"a 1; b 2; c 3", "(c & a) & b", "2,0,1 1..3"},
	} {
		meets(t, c.facts, c.p, c.want)
	}
}

// P13.1: one of two: those of the one, those of the other, and what both have once.
func TestOr(t *testing.T) {
	for _, c := range []struct{ facts, p, want string }{
		{"", "a | b", ""},
		{"a 1", "a | b", "0 1..1"},
		{"b 1", "a | b", "0 1..1"},
		{"c 1", "a | b", ""},
		{"a 1; b 2", "a | b", "0 1..1; 1 2..2"},
		{"a 1; b 2", "b | a", "0 1..1; 1 2..2"},
		{"a 1", "a | a", "0 1..1"},
		{"a 1; a 2", "a | a | a", "0 1..1; 1 2..2"},
		{"f(1) 1", "f(X) | f(X)", "0 1..1 X=1"},
		{"f(1) 1", "f(X) | f(Y)", "0 1..1 X=1; 0 1..1 Y=1"},
		{"f(1) 1", "f(Y) | f(X)", "0 1..1 X=1; 0 1..1 Y=1"},
		{"f(1) 1", "f(X) | f(1)", "0 1..1; 0 1..1 X=1"},
		{"f(1) 1; g(1) 1", "f(X) | g(X)", "0 1..1 X=1; 1 1..1 X=1"},
		{"f(1) 1; g(1) 1", "f(X) & g(X) | f(X)", "0 1..1 X=1; 0,1 1..1 X=1"},
		{"a 1; b 2", "a ; b | a & b", "0,1 1..2"},
		{"a 1; b 2", "a & b | b & a", "0,1 1..2; 1,0 1..2"},
		{"a 1; b 2", "(a | b) & (a | b)", "0,0 1..1; 0,1 1..2; 1,0 1..2; 1,1 2..2"},
		{"a 1; b 2; c 3", "(a | b) ; c", "0,2 1..3; 1,2 2..3"},
		{"a 1; b 2; c 3", "a ; (b | c)", "0,1 1..2; 0,2 1..3"},
		{"f(1) 1; g(2) 2; h(2) 3", "(f(X) | g(X)) ; h(X)", "1,2 2..3 X=2"},
		{"f(1) 1; g(2) 2; h(2) 3", "(f(X) | g(Y)) ; h(Z)", "0,2 1..3 X=1 Z=2; 1,2 2..3 Y=2 Z=2"},
	} {
		meets(t, c.facts, c.p, c.want)
	}
}

// P13.1: what is alike in all is told once, by whichever sides it comes.
func TestOnce(t *testing.T) {
	for _, c := range []struct{ facts, p, want string }{
		{"a 1; b 2; c 3", "(a | a & b) & (b & c | c)", "0,1,1,2 1..3; 0,1,2 1..3; 0,2 1..3"},
		{"a 1; b 2; c 3", "(a | a ; b) ; (b ; c | c)", "0,1,2 1..3; 0,2 1..3"},
		{"a 1; b 2; c 3", "(a | a ; b) @before (b ; c | c)", "0,1,2 1..3; 0,2 1..3"},
		{"a 1; b 2; c 3; d 9", `(a | a ; b) ; \+(d) ; (b ; c | c)`, "0,1,2 1..3; 0,2 1..3"},
		{"f(1) 1; f(1) 2; f(1) 3", "(f(X) | f(X) ; f(X)) ; (f(X) ; f(X) | f(X))", "0,1 1..2 X=1; 0,1,2 1..3 X=1; 0,2 1..3 X=1; 1,2 2..3 X=1"},
		{"f(1,1) 1", "f(X,1) | f(1,X)", "0 1..1 X=1"},
		{"f(1,1) 1", "(f(X,1) | f(1,X)) & f(X,X)", "0,0 1..1 X=1"},
		// unlike in one alone: what is used, in which order, what is bound
		{"f(1) 1; f(1) 2", "f(X) | f(X)", "0 1..1 X=1; 1 2..2 X=1"},
		{"a 1; b 1", "(a | b) & (a | b)", "0,0 1..1; 0,1 1..1; 1,0 1..1; 1,1 1..1"},
		{"f(1,2) 1", "f(X,Y) | f(Y,X)", "0 1..1 X=1 Y=2; 0 1..1 X=2 Y=1"},
		{"a 1", "a | a & a", "0 1..1; 0,0 1..1"},
		{"#0 a 1", "a & a | a & a & a", "0,0 1..1; 0,0,0 1..1"},
	} {
		meets(t, c.facts, c.p, c.want)
	}
}

// spans are all up to n.
func spans(n int) []api.Span {
	var l []api.Span
	for from := range n + 1 {
		for to := from; to <= n; to++ {
			l = append(l, api.Span{From: from, To: to})
		}
	}
	return l
}

// lies are the relations, as chapter 7 says it, from RelBefore on; those behind RelEqual turned round.
func lies(r int, a, b api.Span) bool {
	if r > api.RelEqual {
		return lies(2*api.RelEqual-r, b, a)
	}
	return []bool{
		false,
		a.To < b.From,
		a.To == b.From,
		a.From < b.From && b.From < a.To && a.To < b.To,
		a.From == b.From && a.To < b.To,
		b.From < a.From && a.To < b.To,
		a.To == b.To && b.From < a.From,
		a == b,
	}[r]
}

// P13.1: each relation, so and not so, of any two spans, points among them.
func TestRel(t *testing.T) {
	so := map[int]int{}
	for r := api.RelBefore; r <= api.RelAfter; r++ {
		p := api.Pattern{Kind: api.PatRel, Rel: r, L: []api.Pattern{{Kind: api.PatTerm, Term: named("a")}}, R: []api.Pattern{{Kind: api.PatTerm, Term: named("b")}}}
		for _, a := range spans(4) {
			for _, b := range spans(4) {
				l := []api.Kept{{Seq: 3, Fact: api.Fact{Term: named("a"), Span: a}}, {Seq: 5, Fact: api.Fact{Term: named("b"), Span: b}}}
				want := ""
				if lies(r, a, b) {
					want = fmt.Sprintf("3,5 %d..%d", min(a.From, b.From), max(a.To, b.To))
					so[r]++
				}
				if m, e := allOf(t, l, p); matchTexts(m) != want || e != api.OK {
					t.Errorf("%d, %v, %v: %s, %v, not %s", r, a, b, matchTexts(m), e, want)
				}
			}
		}
		if so[r] == 0 || so[r] == 15*15 {
			t.Errorf("%d: %d", r, so[r])
		}
	}
	for _, c := range []struct{ facts, p, want string }{
		{"", "a @equal b", ""},
		{"a 1 2", "a @equal a", "0,0 1..2"},
		{"a 1 2", "a @before a", ""},
		{"a 1", "a @meets a", "0,0 1..1"},
		{"a 2 3; b 1 4", "a @during b", "0,1 1..4"},
		{"a 2 3; b 1 4", "b @holds a", "1,0 1..4"},
		{"a 2 3; b 1 4", "b @during a", ""},
		{"f(1) 2 3; g(1) 1 4; g(2) 1 4", "f(X) @during g(X)", "0,1 1..4 X=1"},
		{"f(1) 2 3; g(2) 1 4", "f(X) @during g(X)", ""},
		{"f(1) 2 3; g(2) 1 4", "f(X) @during g(Y)", "0,1 1..4 X=1 Y=2"},
		{"a 1; b 3; c 0 4", "a ; b @during c", "0,1,2 0..4"},
		{"a 0; b 3; c 0 4", "a ; b @during c", ""},
		{"a 0; b 3; c 0 4", "a ; b @starts c", "0,1,2 0..4"},
		{"a 0; b 3; c 0; d 3", "a ; b @equal c ; d", "0,1,2,3 0..3"},
		{"a 0; b 3; c 4; d 5", "(a @before b) @before (c @before d)", "0,1,2,3 0..5"},
		{"a 0; b 4; c 4; d 5", "(a @before b) @meets (c @before d)", "0,1,2,3 0..5"},
	} {
		meets(t, c.facts, c.p, c.want)
	}
}

// P13.1: with something that must not be between: nothing there, something that joins with both, with one alone, with none; ahead, behind, over an edge.
func TestNot(t *testing.T) {
	for _, c := range []struct{ facts, p, want string }{
		{"", `a ; \+(c) ; b`, ""},
		{"a 1; b 9", `a ; \+(c) ; b`, "0,1 1..9"},
		{"a 1; b 9; d 5", `a ; \+(c) ; b`, "0,1 1..9"},
		{"a 1; b 9; c 5", `a ; \+(c) ; b`, ""},
		{"a 1; c 5", `a ; \+(c) ; b`, ""},
		{"b 9; c 5", `a ; \+(c) ; b`, ""},
		{"a 9; b 1", `a ; \+(c) ; b`, ""},
		{"a 1 5; b 5 9", `a ; \+(c) ; b`, ""},
		{"a 1 6; b 5 9", `a ; \+(c) ; b`, ""},
		{"a 1 5; b 6 9", `a ; \+(c) ; b`, "0,1 1..9"},
		// ahead, behind, over an edge
		{"a 3; b 9; c 1", `a ; \+(c) ; b`, "0,1 3..9"},
		{"a 3; b 9; c 10", `a ; \+(c) ; b`, "0,1 3..9"},
		{"a 3; b 9; c 3", `a ; \+(c) ; b`, "0,1 3..9"},
		{"a 3; b 9; c 9", `a ; \+(c) ; b`, "0,1 3..9"},
		{"a 3; b 9; c 4", `a ; \+(c) ; b`, ""},
		{"a 3; b 9; c 8", `a ; \+(c) ; b`, ""},
		{"a 3; b 9; c 4 8", `a ; \+(c) ; b`, ""},
		{"a 3; b 9; c 3 8", `a ; \+(c) ; b`, "0,1 3..9"},
		{"a 3; b 9; c 4 9", `a ; \+(c) ; b`, "0,1 3..9"},
		{"a 3; b 9; c 3 9", `a ; \+(c) ; b`, "0,1 3..9"},
		{"a 3; b 9; c 1 5", `a ; \+(c) ; b`, "0,1 3..9"},
		{"a 3; b 9; c 5 11", `a ; \+(c) ; b`, "0,1 3..9"},
		{"a 3; b 9; c 1 11", `a ; \+(c) ; b`, "0,1 3..9"},
		{"a 1 3; b 9 11; c 2", `a ; \+(c) ; b`, "0,1 1..11"},
		{"a 1 3; b 9 11; c 10", `a ; \+(c) ; b`, "0,1 1..11"},
		{"a 1 3; b 9 11; c 3 4", `a ; \+(c) ; b`, "0,1 1..11"},
		{"a 1 3; b 9 11; c 4 5", `a ; \+(c) ; b`, ""},
		{"a 3; b 4; c 3; c 4; c 3 4", `a ; \+(c) ; b`, "0,1 3..4"},
		// one of several is enough
		{"a 3; b 9; c 1; c 3 5; c 9; c 5 9; c 11; c 6", `a ; \+(c) ; b`, ""},
		{"a 3; b 9; c 1; c 3 5; c 9; c 5 9; c 11", `a ; \+(c) ; b`, "0,1 3..9"},
		{"a 1; b 3; a 5; b 7; c 2", `a ; \+(c) ; b`, "2,3 5..7"},
		{"a 1; b 3; a 5; b 7; c 4", `a ; \+(c) ; b`, "0,1 1..3; 2,3 5..7"},
		{"a 1; b 3; a 5; b 7; c 6", `a ; \+(c) ; b`, "0,1 1..3"},
		{"a 1; b 3; a 5; b 7", `a ; \+(c) ; b`, "0,1 1..3; 0,3 1..7; 2,3 5..7"},
		// binds
		{"f(1) 1; g(2) 9; h(1) 5", `f(X) ; \+(h(X)) ; g(Y)`, ""},
		{"f(1) 1; g(2) 9; h(2) 5", `f(X) ; \+(h(X)) ; g(Y)`, "0,1 1..9 X=1 Y=2"},
		{"f(1) 1; g(2) 9; h(2) 5", `f(X) ; \+(h(Y)) ; g(Y)`, ""},
		{"f(1) 1; g(2) 9; h(1) 5", `f(X) ; \+(h(Y)) ; g(Y)`, "0,1 1..9 X=1 Y=2"},
		{"f(1) 1; g(2) 9; h(3) 5", `f(X) ; \+(h(Z)) ; g(Y)`, ""},
		{"f(1) 1; g(2) 9; h(1,2) 5", `f(X) ; \+(h(X,Y)) ; g(Y)`, ""},
		{"f(1) 1; g(2) 9; h(1,3) 5", `f(X) ; \+(h(X,Y)) ; g(Y)`, "0,1 1..9 X=1 Y=2"},
		{"f(1) 1; g(2) 9; h(3,2) 5", `f(X) ; \+(h(X,Y)) ; g(Y)`, "0,1 1..9 X=1 Y=2"},
		{"f(1) 1; g(2) 9; h(3,4) 5", `f(X) ; \+(h(X,Y)) ; g(Y)`, "0,1 1..9 X=1 Y=2"},
		{"f(1) 1; g(2) 9; h(2,1) 5", `f(X) ; \+(h(X,Y)) ; g(Y)`, "0,1 1..9 X=1 Y=2"},
		{"f(1) 1; g(2) 9; h(1,3) 5; h(3,2) 5", `f(X) ; \+(h(X,Y)) ; g(Y)`, "0,1 1..9 X=1 Y=2"},
		{"f(1) 1; g(2) 9; h(1,2) 0; h(1,2) 10; h(1,3) 5", `f(X) ; \+(h(X,Y)) ; g(Y)`, "0,1 1..9 X=1 Y=2"},
		{"f(1) 1; g(2) 9; h(1,1) 5", `f(X) ; \+(h(X,Z)) ; g(Y)`, ""},
		{"f(1) 1; g(2) 9; h(2,1) 5", `f(X) ; \+(h(X,Z)) ; g(Y)`, "0,1 1..9 X=1 Y=2"},
		{"f(1) 1; g(1) 9; h(1) 5", `f(X) ; \+(h(X)) ; g(X)`, ""},
		{"f(1) 1; g(1) 9; h(2) 5", `f(X) ; \+(h(X)) ; g(X)`, "0,1 1..9 X=1"},
		{"f(1) 1; f(2) 1; g(1) 9; g(2) 9; h(2) 5", `f(X) ; \+(h(X)) ; g(X)`, "0,2 1..9 X=1"},
		{"f(1) 1; f(2) 1; g(1) 9; g(2) 9; h(2) 5", `f(X) ; \+(h(Y)) ; g(Y)`, "0,2 1..9 X=1 Y=1; 1,2 1..9 X=2 Y=1"},
		{"f(1) 1; g(2) 9; c 5", `f(X) ; \+(c) ; g(Y)`, ""},
		{"a 1; b 9; h(7) 5", `a ; \+(h(X)) ; b`, ""},
		{"a 1; b 9; h(7) 5", `a ; \+(h(7)) ; b`, ""},
		{"a 1; b 9; h(7) 5", `a ; \+(h(8)) ; b`, "0,1 1..9"},
		{"a 1; b 9; h(7,7) 5", `a ; \+(h(X,X)) ; b`, ""},
		{"a 1; b 9; h(7,8) 5", `a ; \+(h(X,X)) ; b`, "0,1 1..9"},
		// what it binds, it binds for itself alone
		{"a 1; b 9; h(7) 0; k(7) 9", `a ; \+(h(X)) ; k(X)`, "0,3 1..9 X=7"},
		{"f(1) 1; f(2) 1; g(5) 9; h(1) 5", `f(X) ; \+(h(X)) ; g(Y)`, "1,2 1..9 X=2 Y=5"},
		{"on(lamp) 1; on(fan) 2; off(lamp) 3; night 7", `on(X) ; \+(off(X)) ; night`, "1,3 2..7 X=fan"},
		// of the same name as what stands at its sides
		{"a 1; a 2; a 3", `a ; \+(a) ; a`, "0,1 1..2; 1,2 2..3"},
		{"f(1) 1; f(2) 2; f(1) 3", `f(X) ; \+(f(Y)) ; f(X)`, ""},
		{"f(1) 1; f(2) 2; f(1) 3", `f(X) ; \+(f(X)) ; f(X)`, "0,2 1..3 X=1"},
		{"f(1) 1; f(1) 2; f(1) 3", `f(X) ; \+(f(X)) ; f(X)`, "0,1 1..2 X=1; 1,2 2..3 X=1"},
	} {
		meets(t, c.facts, c.p, c.want)
	}
}

// P13.1: patterns of each kind as what must not be between, and patterns with it within others.
func TestNotWithin(t *testing.T) {
	for _, c := range []struct{ facts, p, want string }{
		{"a 1; b 9; c 3; d 5", `a ; \+(c ; d) ; b`, ""},
		{"a 1; b 9; d 3; c 5", `a ; \+(c ; d) ; b`, "0,1 1..9"},
		{"a 1; b 9; c 0; d 5", `a ; \+(c ; d) ; b`, "0,1 1..9"},
		{"a 1; b 9; c 3; d 9", `a ; \+(c ; d) ; b`, "0,1 1..9"},
		{"a 1; b 9; d 3; c 5", `a ; \+(c & d) ; b`, ""},
		{"a 1; b 9; d 0; c 5", `a ; \+(c & d) ; b`, "0,1 1..9"},
		{"a 1; b 9; d 0; c 5", `a ; \+(c | d) ; b`, ""},
		{"a 1; b 9; d 5; c 0", `a ; \+(c | d) ; b`, ""},
		{"a 1; b 9; d 0; c 0", `a ; \+(c | d) ; b`, "0,1 1..9"},
		{"a 1; b 9; c 5; d 4 6", `a ; \+(c @during d) ; b`, ""},
		{"a 1; b 9; c 5; d 1 6", `a ; \+(c @during d) ; b`, "0,1 1..9"},
		{"a 1; b 9; c 5; d 5 6", `a ; \+(c @during d) ; b`, "0,1 1..9"},
		{"a 1; b 9; c 3; d 6", `a ; \+(c ; \+(e) ; d) ; b`, ""},
		{"a 1; b 9; c 3; d 6; e 5", `a ; \+(c ; \+(e) ; d) ; b`, "0,1 1..9"},
		{"a 1; b 9; c 3; d 6; e 7", `a ; \+(c ; \+(e) ; d) ; b`, ""},
		{"f(1) 1; g(2) 9; h(1) 5; k(2) 5", `f(X) ; \+(h(X) | k(Y)) ; g(Y)`, ""},
		{"f(1) 1; g(2) 9; h(2) 5; k(2) 5", `f(X) ; \+(h(X) | k(Y)) ; g(Y)`, ""},
		{"f(1) 1; g(2) 9; h(1) 5; k(1) 5", `f(X) ; \+(h(X) | k(Y)) ; g(Y)`, ""},
		{"f(1) 1; g(2) 9; h(2) 5; k(1) 5", `f(X) ; \+(h(X) | k(Y)) ; g(Y)`, "0,1 1..9 X=1 Y=2"},
		{"f(1) 1; g(2) 9; h(2) 5; k(1) 5; c 5", `f(X) ; \+(h(X) | k(Y) | c) ; g(Y)`, ""},
		{"f(1) 1; g(2) 9; h(2) 5; k(1) 5; m(3) 5", `f(X) ; \+(h(X) | k(Y) | m(Z)) ; g(Y)`, ""},
		{"f(1) 1; g(2) 9; h(1) 3; k(2) 5", `f(X) ; \+(h(X) ; k(Y)) ; g(Y)`, ""},
		{"f(1) 1; g(2) 9; h(1) 3; k(3) 5", `f(X) ; \+(h(X) ; k(Y)) ; g(Y)`, "0,1 1..9 X=1 Y=2"},
		{"f(1) 1; g(2) 9; h(3) 3; k(3) 5", `f(X) ; \+(h(Z) ; k(Z)) ; g(Y)`, ""},
		{"f(1) 1; g(2) 9; h(3) 3; k(4) 5", `f(X) ; \+(h(Z) ; k(Z)) ; g(Y)`, "0,1 1..9 X=1 Y=2"},
		// sides that bind one thing or another
		{"f(1) 1; e(2) 1; g(3) 9; h(2) 5", `(f(X) | e(Y)) ; \+(h(X)) ; g(Z)`, "0,2 1..9 X=1 Z=3"},
		{"f(1) 1; e(2) 1; g(3) 9; h(1) 5", `(f(X) | e(Y)) ; \+(h(X)) ; g(Z)`, ""},
		{"f(1) 1; e(2) 1; g(1) 9; g(2) 9; h(2) 5", `(f(X) | e(Y)) ; \+(h(X)) ; g(X)`, "0,2 1..9 X=1; 1,2 1..9 X=1 Y=2"},
		{"e(2) 1; f(1) 1; g(1) 9; g(2) 9; h(2) 5", `(f(X) | e(Y)) ; \+(h(Y)) ; (g(X) | g(Y))`, "1,2 1..9 X=1 Y=1"},
		// within others
		{"a 1; b 3; c 5; d 7; e 4", `a ; \+(e) ; b ; c`, "0,1,2 1..5"},
		{"a 1; b 3; c 5; d 7; e 4", `a ; b ; \+(e) ; c`, ""},
		{"a 1; b 3; c 5; d 7; e 2", `a ; b ; \+(e) ; c`, "0,1,2 1..5"},
		{"a 1; b 3; c 5; e 2", `a ; \+(e) ; (b ; c)`, ""},
		{"a 1; b 3; c 5; e 4", `a ; \+(e) ; (b ; c)`, "0,1,2 1..5"},
		{"a 1; b 3; c 5; e 4", `(a ; b) ; \+(e) ; c`, ""},
		{"a 1; b 3; c 5; e 2", `(a ; b) ; \+(e) ; c`, "0,1,2 1..5"},
		{"a 1; b 3; c 2", `(a ; \+(e) ; b) & c`, "0,1,2 1..3"},
		{"a 1; b 3; c 2", `c @during (a ; \+(e) ; b)`, "2,0,1 1..3"},
		{"a 1; b 3; e 2", `(a ; \+(e) ; b) | a`, "0 1..1"},
		{"a 1; b 3", `(a ; \+(e) ; b) | a`, "0 1..1; 0,1 1..3"},
		{"a 1; b 3; c 5; e 2; e 4", `a ; \+(e) ; b ; \+(e) ; c`, ""},
		{"a 1; b 3; c 5; f 2; e 4", `a ; \+(e) ; b ; \+(f) ; c`, "0,1,2 1..5"},
	} {
		meets(t, c.facts, c.p, c.want)
	}
}

// P13.1: Used stands as the pattern does, whatever came first, and spans are the hulls of all parts.
func TestUsedAndHull(t *testing.T) {
	facts := "#2 d 7 8; #3 c 5 6; #11 b 3 4; #20 a 1 2"
	for _, c := range []struct{ p, want string }{
		{"a ; b ; c ; d", "20,11,3,2 1..8"},
		{"a ; (b ; (c ; d))", "20,11,3,2 1..8"},
		{"(a ; b) ; (c ; d)", "20,11,3,2 1..8"},
		{"d & c & b & a", "2,3,11,20 1..8"},
		{"b & (d & a) & c", "11,2,20,3 1..8"},
		{"b & c", "11,3 3..6"},
		{"c & b", "3,11 3..6"},
		{`b ; \+(z) ; d`, "11,2 3..8"},
		{`b ; \+(z & a & d) ; d`, "11,2 3..8"},
		{"d @after a", "2,20 1..8"},
		{"(d & c) @after (b & a)", "2,3,11,20 1..8"},
		{"a & a & d & a", "20,20,2,20 1..8"},
		{"c | z", "3 5..6"},
		{"(a & b & c & d) & (a & b & c & d) & (a & b & c & d)", "20,11,3,2,20,11,3,2,20,11,3,2 1..8"},
	} {
		meets(t, facts, c.p, c.want)
	}
}

// P13.1: the order: by what is used, number by number, the shorter one first; then by the binds, name by name and term by term. (Where all used is alike, so is the span.)
func TestOrderOfMatches(t *testing.T) {
	for _, c := range []struct{ facts, p, want string }{
		{"a 9; a 5; a 7", "a", "0 9..9; 1 5..5; 2 7..7"},
		{"#3 a 9; #10 a 5; #200 a 7", "a", "3 9..9; 10 5..5; 200 7..7"},
		{"b 9; a 1; a 2", "b & a | a", "0,1 1..9; 0,2 2..9; 1 1..1; 2 2..2"},
		{"a 1; b 2; c 3", "a & b & c | a | a & b | a & c | b", "0 1..1; 0,1 1..2; 0,1,2 1..3; 0,2 1..3; 1 2..2"},
		{"f(1,2) 1", "f(X,2) | f(1,Y) | f(X,Y) | f(1,2)", "0 1..1; 0 1..1 X=1; 0 1..1 X=1 Y=2; 0 1..1 Y=2"},
		{"f(2,1) 1", "f(Y,X) | f(X,Z)", "0 1..1 X=1 Y=2; 0 1..1 X=2 Z=1"},
		{"f(1,2) 1", "f(Y,X) | f(X,Z)", "0 1..1 X=1 Z=2; 0 1..1 X=2 Y=1"},
		{"f(1,2) 1", "f(X,Z) | f(X,Y)", "0 1..1 X=1 Y=2; 0 1..1 X=1 Z=2"},
		{"f(1,2) 1", "f(1,B) | f(B,2) | f(A,2) | f(1,A)", "0 1..1 A=1; 0 1..1 A=2; 0 1..1 B=1; 0 1..1 B=2"},
		{"f(b,a,-5,7) 1", "f(X,a,-5,7) | f(b,X,-5,7) | f(b,a,X,7) | f(b,a,-5,X)", "0 1..1 X=-5; 0 1..1 X=7; 0 1..1 X=a; 0 1..1 X=b"},
		{"f(a(a,a),b(1),aa,10) 1", "f(X,b(1),aa,10) | f(a(a,a),X,aa,10) | f(a(a,a),b(1),X,10) | f(a(a,a),b(1),aa,X)", "0 1..1 X=10; 0 1..1 X=aa; 0 1..1 X=b(1); 0 1..1 X=a(a,a)"},
		{"f(g(1,2),g(1,1),g(0,9),h(0,0)) 1", "f(X,A,B,C) | f(A,X,B,C) | f(A,B,X,C) | f(A,B,C,X)", "0 1..1 A=g(1,1) B=g(0,9) C=h(0,0) X=g(1,2); 0 1..1 A=g(1,2) B=g(0,9) C=h(0,0) X=g(1,1); 0 1..1 A=g(1,2) B=g(1,1) C=g(0,9) X=h(0,0); 0 1..1 A=g(1,2) B=g(1,1) C=h(0,0) X=g(0,9)"},
	} {
		meets(t, c.facts, c.p, c.want)
	}
}

// unlike are values of which no two are alike.
func unlike() []api.Term {
	long := strings.Repeat("z", api.MaxName)
	l := []api.Term{num(api.MaxNum), num(-api.MaxNum), named(long), named(long[1:]), named(long[1:] + "y"), named("y" + long[1:]), named(long, num(1))}
	for i := range 4 {
		l = append(l, num(i), num(-1-i), num(1<<(8*i)+7), num(-1<<(8*i)-7))
	}
	for _, s := range []string{"a", "b", "aa", "a0", "aA", "a_"} {
		l = append(l, named(s), named("f", named(s)), named(s, named("f")), named(s, num(0), num(0)))
	}
	a, b := named("a"), named("b")
	return append(l, named("a", a, b), named("a", b, a), named("a", a, a), named("a", a, a, a), named("a", a, a, a, a), named("a", a, a, a, b), named("a", b, a, a, a), named("a", named("a", a), a), named("a", a, named("a", a)), named("a", named("a", a, a)), named("f", num(0)), named("f", num(1)), named("f", named("f", num(1))), named("f", named("g", num(1))), named("f", named("f", named("f", num(1)))), named("f", named("f", named("f", num(0)))))
}

// P13.1: a variable stands for one thing alone: no two that are unlike join, and each is told as it is.
func TestUnlike(t *testing.T) {
	all := unlike()
	var l []api.Kept
	for _, side := range []string{"l", "r"} {
		for i, x := range all {
			l = append(l, api.Kept{Fact: api.Fact{Term: named(side, x), Span: api.Span{From: i, To: i}}})
		}
	}
	l = numbered(l)
	m, e := allOf(t, l, pattern(t, "l(X) & r(X)"))
	if len(m) != len(all) || e != api.OK {
		t.Fatalf("%d of %d, %v: %s", len(m), len(all), e, matchTexts(m))
	}
	for i, x := range m {
		want := api.Match{Binds: []api.Bind{{Name: "X", Term: all[i]}}, Span: api.Span{From: i, To: i}, Used: []int{i, i + len(all)}}
		if matchText(x) != matchText(want) {
			t.Errorf("%s, not %s", matchText(x), matchText(want))
		}
	}
	// those that are behind a whole list of others are found by what they bind
	m, e = allOf(t, append([]api.Kept{{Fact: api.Fact{Term: named("start"), Span: api.Span{From: -9, To: -9}}}}, shifted(l, 1)...), pattern(t, `start ; \+(l(X)) ; r(X)`))
	if len(m) != len(all) || e != api.OK {
		t.Errorf("%d of %d, %v", len(m), len(all), e)
	}
}

// shifted are the same facts by Seqs that are greater.
func shifted(l []api.Kept, by int) []api.Kept {
	l = slices.Clone(l)
	for i := range l {
		l[i].Seq += by
	}
	return l
}

// P13.1: names of variables that differ in one byte, or in how long they are, are unlike.
func TestUnlikeNames(t *testing.T) {
	long := strings.Repeat("V", api.MaxName)
	names := []string{"X", "Y", "XX", "X0", "Xx", "X_", long, long[1:], long[1:] + "W", "W" + long[1:], long[:8], long[:9], "V" + strings.Repeat("v", api.MaxName-1)}
	l := kept(t, "f(1) 1; g(1) 2; g(2) 3; h(1) 0")
	for _, x := range names {
		for _, y := range names {
			p := api.Pattern{Kind: api.PatAnd, L: []api.Pattern{{Kind: api.PatTerm, Term: named("f", aVar(x))}}, R: []api.Pattern{{Kind: api.PatTerm, Term: named("g", aVar(y))}}}
			want := "0,1 1..2 " + x + "=1"
			if x != y {
				at, by := "0,1 1..2 ", "0,2 1..3 "
				want = at + x + "=1 " + y + "=1; " + by + x + "=1 " + y + "=2"
				if y < x {
					want = at + y + "=1 " + x + "=1; " + by + y + "=2 " + x + "=1"
				}
			}
			if m, e := allOf(t, l, p); matchTexts(m) != want || e != api.OK {
				t.Errorf("%s, %s: %s, %v, not %s", x, y, matchTexts(m), e, want)
			}
		}
	}
}

// P13.1: no facts have no matches, of whatever pattern.
func TestNoFacts(t *testing.T) {
	for _, s := range []string{"a", "f(X,g(Y))", "a ; b", "a & b", "a | b", `a ; \+(c) ; b`, "a @equal b", `a ; \+(b | c) ; (d & e | f @met g)`} {
		for _, l := range [][]api.Kept{nil, {}} {
			if m, e := allOf(t, l, pattern(t, s)); m != nil || e != api.OK {
				t.Errorf("%s: %s, %v", s, matchTexts(m), e)
			}
			for _, n := range []int{-1 << 63, -1, 0, 1, 1<<63 - 1} {
				if m, e := meet.With(l, pattern(t, s), n); m != nil || e != api.OK {
					t.Errorf("%s, %d: %s, %v", s, n, matchTexts(m), e)
				}
			}
		}
	}
}

// P13.1: With has those of All with a Seq of n or more, wherever it stands among Used.
func TestWith(t *testing.T) {
	for _, c := range []struct {
		facts, p string
		n        int
		want     string
	}{
		{"a 1; b 2", "a ; b", -1, "0,1 1..2"},
		{"a 1; b 2", "a ; b", 0, "0,1 1..2"},
		{"a 1; b 2", "a ; b", 1, "0,1 1..2"},
		{"a 1; b 2", "a ; b", 2, ""},
		{"b 2; a 1", "a ; b", 1, "1,0 1..2"},
		{"b 2; a 1", "a ; b", 2, ""},
		{"#5 a 1", "a", 4, "5 1..1"},
		{"#5 a 1", "a", 5, "5 1..1"},
		{"#5 a 1", "a", 6, ""},
		{"#5 a 1", "a", -1 << 63, "5 1..1"},
		{"#5 a 1", "a", 1<<63 - 1, ""},
		{"#9223372036854775807 a 1", "a", 1<<63 - 1, "9223372036854775807 1..1"},
		{"#5 a 1; #7 a 2; #9 a 3", "a", 6, "7 2..2; 9 3..3"},
		{"#5 a 1; #7 a 2; #9 a 3", "a", 7, "7 2..2; 9 3..3"},
		{"#5 a 1; #7 a 2; #9 a 3", "a", 8, "9 3..3"},
		{"#5 a 1; #7 a 2; #9 a 3", "a & a", 8, "5,9 1..3; 7,9 2..3; 9,5 1..3; 9,7 2..3; 9,9 3..3"},
		{"#5 a 1; #7 a 2; #9 a 3", "a & a", 9, "5,9 1..3; 7,9 2..3; 9,5 1..3; 9,7 2..3; 9,9 3..3"},
		{"#5 a 1; #7 a 2; #9 a 3", "a ; a", 8, "5,9 1..3; 7,9 2..3"},
		{"#5 a 1; #7 a 2; #9 a 3", "a ; a", 7, "5,7 1..2; 5,9 1..3; 7,9 2..3"},
		{"#5 a 1; #7 b 2; #9 c 3", "a & b & c", 9, "5,7,9 1..3"},
		{"#5 a 1; #7 b 2; #9 c 3", "b & c & a", 9, "7,9,5 1..3"},
		{"#5 a 1; #7 b 2; #9 c 3", "c & b & a", 9, "9,7,5 1..3"},
		{"#5 a 1; #7 b 2; #9 c 3", "c & b & a | b", 8, "9,7,5 1..3"},
		// what is not between is not used
		{"#5 a 1; #7 b 5; #9 c 6", `a ; \+(c) ; b`, 8, ""},
		{"#5 a 1; #7 b 5; #9 c 6", `a ; \+(c) ; b`, 7, "5,7 1..5"},
		{"#5 a 1; #7 b 5; #9 c 3", `a ; \+(c) ; b`, 0, ""},
	} {
		m, e := meet.With(kept(t, c.facts), pattern(t, c.p), c.n)
		if matchTexts(m) != c.want || e != api.OK {
			t.Errorf("%q, %q, %d: %q, %v, not %q", c.facts, c.p, c.n, matchTexts(m), e, c.want)
		}
	}
}
