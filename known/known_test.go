package known_test

import (
	"fmt"
	"slices"
	"strconv"
	"strings"
	"testing"

	"almagest/api"
	"almagest/known"
	"almagest/read"
	"almagest/show"
	"almagest/term"
)

func aVar(s string) api.Term { return api.Term{Kind: api.TermVar, Name: s} }

func num(n int) api.Term { return api.Term{Kind: api.TermNum, N: n} }

func named(s string, args ...api.Term) api.Term {
	return api.Term{Kind: api.TermName, Name: s, Args: args}
}

// fact is a clause of a head alone.
func fact(t api.Term) api.Clause { return api.Clause{Head: t} }

func facts(l []api.Term) []api.Clause {
	var x []api.Clause
	for _, t := range l {
		x = append(x, fact(t))
	}
	return x
}

func clauses(t *testing.T, text string) []api.Clause {
	t.Helper()
	p, at, e := read.Program(text)
	if e != api.OK || len(p.Rules) > 0 {
		t.Fatalf("%q: %v at %d", text, e, at)
	}
	return p.Clauses
}

// terms are the heads of a text.
func terms(t *testing.T, text string) []api.Term {
	t.Helper()
	var l []api.Term
	for _, c := range clauses(t, text) {
		l = append(l, c.Head)
	}
	return l
}

func one(t *testing.T, text string) api.Term {
	t.Helper()
	x, at, e := read.Term(text)
	if e != api.OK {
		t.Fatalf("%q: %v at %d", text, e, at)
	}
	return x
}

// texts are terms as terms reads them.
func texts(l []api.Term) string {
	var s []string
	for _, t := range l {
		x, e := show.Term(t)
		if e != api.OK {
			x = fmt.Sprintf("?%+v", t)
		}
		s = append(s, x+".")
	}
	return strings.Join(s, " ")
}

// numbers are so many atoms m(0), m(1) .. as they rise.
func numbers(n int) []api.Term {
	var l []api.Term
	for i := range n {
		l = append(l, named("m", num(i)))
	}
	return l
}

// ordered holds that no atom has to be ahead of the one before it.
func ordered(t *testing.T, l []api.Term) {
	t.Helper()
	for i := 1; i < len(l); i++ {
		if c, e := term.Order(l[i-1], l[i]); c != -1 || e != api.OK {
			t.Errorf("%s: %d, %v at %d", texts(l), c, e, i)
		}
	}
}

// allOf holds that All tells the same again, in order, and changes nothing.
func allOf(t *testing.T, l []api.Clause) ([]api.Term, api.Errno) {
	t.Helper()
	ahead := fmt.Sprintf("%+v", l)
	k, e := known.All(l)
	k2, e2 := known.All(l)
	if texts(k) != texts(k2) || e != e2 {
		t.Errorf("%s: %s, %v, then %s, %v", ahead, texts(k), e, texts(k2), e2)
	}
	if fmt.Sprintf("%+v", l) != ahead {
		t.Errorf("%s: changed", ahead)
	}
	if e != api.OK && k != nil {
		t.Errorf("%s: %s beside %v", ahead, texts(k), e)
	}
	ordered(t, k)
	return k, e
}

// follows holds all that follows from a text of clauses.
func follows(t *testing.T, text string, want string) {
	t.Helper()
	k, e := allOf(t, clauses(t, text))
	if texts(k) != want || e != api.OK {
		t.Errorf("%q: %q, %v, not %q", text, texts(k), e, want)
	}
}

// P11.1: what follows, by bodies of none, one, two and three.
func TestAll(t *testing.T) {
	for _, c := range []struct{ text, want string }{
		{"", ""},
		{"f(1). g(X) :- f(X).", "f(1). g(1)."},
		{"k.", "k."},
		{"k. k. k.", "k."},
		{"k(1,a,-3,bc).", "k(1,a,-3,bc)."},
		{"g(X) :- f(X). f(1).", "f(1). g(1)."},
		{"f(1). f(2). f(a). g(X) :- f(X).", "f(1). f(2). f(a). g(1). g(2). g(a)."},
		{"a. b :- a. c :- b. d :- c.", "a. b. c. d."},
		{"d :- c. c :- b. b :- a. a.", "a. b. c. d."},
		{"a. c :- a, b.", "a."},
		{"b. c :- a, b.", "b."},
		{"a. b. c :- a, b.", "a. b. c."},
		{"a. b. c. d :- a, b, c.", "a. b. c. d."},
		{"a. b. d :- a, b, c.", "a. b."},
		{"a. c. d :- a, b, c.", "a. c."},
		{"b. c. d :- a, b, c.", "b. c."},
		{"f(1). f(2). p(X,Y) :- f(X), f(Y).", "f(1). f(2). p(1,1). p(1,2). p(2,1). p(2,2)."},
		{"f(1). g(2). h(3). p(X,Y,Z) :- f(Y), g(Z), h(X).", "f(1). g(2). h(3). p(3,1,2)."},
		{"e(1,2). e(2,3). e(3,4). p(X,Z) :- e(X,Y), e(Y,Z).", "e(1,2). e(2,3). e(3,4). p(1,3). p(2,4)."},
		{"e(1,2). e(2,3). e(3,4). p(X,Z) :- e(A,Z), e(Y,A), e(X,Y).", "e(1,2). e(2,3). e(3,4). p(1,4)."},
		{"e(1,2). e(2,3). e(3,1). r(X,Y) :- e(X,Y). r(X,Z) :- r(X,Y), e(Y,Z).", "e(1,2). e(2,3). e(3,1). r(1,1). r(1,2). r(1,3). r(2,1). r(2,2). r(2,3). r(3,1). r(3,2). r(3,3)."},
		{"e(1,1). e(1,2). e(2,2). s(X) :- e(X,X).", "s(1). s(2). e(1,1). e(1,2). e(2,2)."},
		{"e(1,2). e(2,1). e(2,3). s(X,Y) :- e(X,Y), e(Y,X).", "e(1,2). e(2,1). e(2,3). s(1,2). s(2,1)."},
		{"e(1,1,2). e(1,2,1). e(3,3,3). s(X,Y) :- e(X,Y,X).", "s(1,2). s(3,3). e(1,1,2). e(1,2,1). e(3,3,3)."},
		{"e(a,b). d(X,X,c,X) :- e(X,Y).", "e(a,b). d(a,a,c,a)."},
		{"e(1,2). e(2,2). s(X) :- e(X,2). u(X) :- e(1,X). v :- e(1,2). w :- e(2,1).", "v. s(1). s(2). u(2). e(1,2). e(2,2)."},
		{"f(1). f(a). s :- f(a). u :- f(b). v :- f(1). w :- f(2).", "s. v. f(1). f(a)."},
		{"k(X) :- k(X).", ""},
		{"a :- b. b :- a.", ""},
		{"a :- b. b :- a. b.", "a. b."},
		{"f(1). g :- f. h :- f(X,Y). i :- f(X).", "i. f(1)."},
		{"f. f(1). f(1,2). f(1,2,3). f(1,2,3,4). g(X) :- f(X,Y,Z).", "f. f(1). g(1). f(1,2). f(1,2,3). f(1,2,3,4)."},
	} {
		follows(t, c.text, c.want)
	}
}

// P11.1: what a guard lets follow: of numbers all four, of others none of GuardLess and GuardMost.
func TestGuards(t *testing.T) {
	for _, c := range []struct{ text, want string }{
		{"n(1). n(2). n(3). p(X,Y) :- n(X), n(Y), X < Y.", "n(1). n(2). n(3). p(1,2). p(1,3). p(2,3)."},
		{"n(1). n(2). n(3). p(X,Y) :- n(X), n(Y), X =< Y.", "n(1). n(2). n(3). p(1,1). p(1,2). p(1,3). p(2,2). p(2,3). p(3,3)."},
		{"n(1). n(2). p(X,Y) :- n(X), n(Y), X = Y.", "n(1). n(2). p(1,1). p(2,2)."},
		{`n(1). n(2). p(X,Y) :- n(X), n(Y), X \= Y.`, "n(1). n(2). p(1,2). p(2,1)."},
		{"n(1). n(a). p(X,Y) :- n(X), n(Y), X < Y.", "n(1). n(a)."},
		{"n(1). n(a). n(b). p(X,Y) :- n(X), n(Y), X =< Y.", "n(1). n(a). n(b). p(1,1)."},
		{"n(1). n(a). p(X,Y) :- n(X), n(Y), X = Y.", "n(1). n(a). p(1,1). p(a,a)."},
		{`n(1). n(a). p(X,Y) :- n(X), n(Y), X \= Y.`, "n(1). n(a). p(1,a). p(a,1)."},
		{"n(0). n(a). p(X) :- n(X), X < 1. q(X) :- n(X), 0 =< X. r(X) :- n(X), -1 < X. s(X) :- n(X), X =< X.", "n(0). n(a). p(0). q(0). r(0). s(0)."},
		{"n(1). n(2). n(3). n(4). p(X) :- n(X), 1 < X, X < 4.", "n(1). n(2). n(3). n(4). p(2). p(3)."},
		{`n(1). n(2). n(3). n(4). n(5). p(X) :- n(X), 1 < X, X \= 3, X =< 4, X \= 2.`, "n(1). n(2). n(3). n(4). n(5). p(4)."},
		{"n(-1). n(-2). n(0). n(1). p(X) :- n(X), X < 0. q(X) :- n(X), X < -1. r(X) :- n(X), X =< -1.", "n(-2). n(-1). n(0). n(1). p(-2). p(-1). q(-2). r(-2). r(-1)."},
	} {
		follows(t, c.text, c.want)
	}
}

// P11.1: each comparison by itself, in a clause without a body, and in one with what stands in it as variables.
func TestComparisons(t *testing.T) {
	for _, c := range []struct {
		l, r  string
		signs string // those that are so
	}{
		{"1", "2", `< =< \=`}, {"2", "1", `\=`}, {"1", "1", "=< ="}, {"0", "0", "=< ="}, {"-1", "1", `< =< \=`}, {"1", "-1", `\=`},
		{"-1073741824", "1073741824", `< =< \=`}, {"1073741824", "-1073741824", `\=`}, {"1073741824", "1073741824", "=< ="}, {"1073741823", "1073741824", `< =< \=`}, {"-1073741824", "-1073741823", `< =< \=`}, {"65536", "1", `\=`}, {"256", "511", `< =< \=`},
		{"a", "a", "="}, {"a", "b", `\=`}, {"b", "a", `\=`}, {"a", "1", `\=`}, {"1", "a", `\=`}, {"0", "a", `\=`}, {"a", "0", `\=`}, {"a", "aa", `\=`}, {"a", "a0", `\=`},
		{"f(1)", "f(1)", "="}, {"f(1)", "f(2)", `\=`}, {"f(1)", "g(1)", `\=`}, {"f(1)", "f", `\=`}, {"f", "f(1)", `\=`}, {"f(1)", "f(1,1)", `\=`}, {"f(1)", "1", `\=`}, {"1", "f(1)", `\=`}, {"f(1)", "f(a)", `\=`},
		{"f(1,2)", "f(2,1)", `\=`}, {"f(1,2,3,4)", "f(1,2,3,4)", "="}, {"f(1,2,3,4)", "f(1,2,3,5)", `\=`}, {"f(f(a),b)", "f(f(a,b))", `\=`}, {"f(g(a),b)", "f(g,a,b)", `\=`}, {"f(g,a,b)", "f(g(a),b)", `\=`},
		{"f(g(h(i(1))))", "f(g(h(i(1))))", "="}, {"f(g(h(i(1))))", "f(g(h(i(2))))", `\=`}, {"f(g(h(i)))", "f(g(h(1)))", `\=`}, {"f(g(1),g(2))", "f(g(1),g(2))", "="}, {"f(g(1),g(2))", "f(g(1),g(1))", `\=`},
	} {
		for _, sign := range []string{"<", "=<", "=", `\=`} {
			want := slices.Contains(strings.Fields(c.signs), sign)
			compared(t, "k :- "+c.l+" "+sign+" "+c.r+".", "", want)
			for _, turn := range []struct{ x, y string }{{"X", c.r}, {c.l, "Y"}, {"X", "Y"}} {
				text := "l(" + c.l + "). r(" + c.r + "). k :- l(X), r(Y), " + turn.x + " " + sign + " " + turn.y + "."
				if !strings.Contains(c.l+c.r, "(") {
					compared(t, text, " l("+c.l+"). r("+c.r+").", want)
				}
			}
		}
	}
}

// compared holds whether k follows, ahead of what follows beside it.
func compared(t *testing.T, text, beside string, so bool) {
	t.Helper()
	want := strings.TrimSpace(beside)
	if so {
		want = "k." + beside
	}
	follows(t, text, want)
}

// P11.1: variables within the terms of a guard.
func TestGuardsWithin(t *testing.T) {
	for _, c := range []struct{ text, want string }{
		{"n(1). n(2). p(X,Y) :- n(X), n(Y), f(X,2) = f(1,Y).", "n(1). n(2). p(1,2)."},
		{`n(1). n(2). p(X,Y) :- n(X), n(Y), f(X,2) \= f(1,Y).`, "n(1). n(2). p(1,1). p(2,1). p(2,2)."},
		{"n(1). n(a). p(X) :- n(X), f(g(h(X))) = f(g(h(a))).", "n(1). n(a). p(a)."},
		{"n(1). n(a). p(X) :- n(X), f(g(h(X,X),X),X) = f(g(h(a,X),a),a).", "n(1). n(a). p(a)."},
		{"n(1). p(X) :- n(X), f(X) < f(2). q(X) :- n(X), X < f(2). r(X) :- n(X), f(X) =< f(X). s(X) :- n(X), f(0) =< X.", "n(1)."},
		{"n(1). p(X) :- n(X), f(X) = X. q(X) :- n(X), f(X) = f(X). r(X) :- n(X), f(X) = g(X). s(X) :- n(X), f(X) = f.", "n(1). q(1)."},
		{"n(a). n(b). p(X) :- n(X), f(X,b) = f(a,b). q(X) :- n(X), X = a. r(X) :- n(X), b = X.", "n(a). n(b). p(a). q(a). r(b)."},
	} {
		follows(t, c.text, c.want)
	}
}

// P11.1: the order of all: by how many Args, then names, then Args, each once.
func TestOrder(t *testing.T) {
	long := strings.Repeat("z", api.MaxName)
	want := []api.Term{
		named("a"), named("a0"), named("aA"), named("a_"), named("aa"), named("aaaaaaaa"), named("aaaaaaaaa"), named("aaaaaaaab"), named("b"), named(long[:7]), named(long[:8]), named(long[:9]), named(long[:15] + "0"), named(long[:15] + "y"), named(long),
		named("a", num(-api.MaxNum)), named("a", num(-1)), named("a", num(0)), named("a", num(1)), named("a", num(api.MaxNum)), named("a", named("a")), named("a", named("b")), named("a", named(long)), named("b", num(0)), named("b", named("a")),
		named("a", num(0), num(0)), named("a", num(0), named("a")), named("a", num(1), num(0)), named("a", named("a"), num(0)), named("a", named("a"), num(1)), named("b", num(0), num(0)),
		named("a", num(0), num(0), num(2)), named("a", num(0), num(1), num(0)), named("a", num(0), num(0), num(0), num(1)), named("a", num(0), num(0), num(1), num(0)),
	}
	for by := 1; by < len(want); by++ {
		var l []api.Clause
		for i := range 2 * len(want) {
			l = append(l, fact(want[i*by%len(want)]))
		}
		for _, x := range want {
			l = append(l, fact(x))
		}
		k, e := allOf(t, l)
		if texts(k) != texts(want) || e != api.OK {
			t.Errorf("%d: %s, %v", by, texts(k), e)
		}
	}
}

// unlikeNames are names that differ from the first in one byte each, or in how long they are.
func unlikeNames(first string) []string {
	l := []string{first}
	for i := range len(first) {
		b := []byte(first)
		b[i] ^= 1
		l = append(l, string(b))
		b[i] ^= 1 ^ 4
		l = append(l, string(b))
		if i > 0 {
			l = append(l, first[:i])
		}
	}
	return l
}

// P11.1: no two names are taken for one, as an atom's, as an argument, and as a variable's.
func TestUnlikeNames(t *testing.T) {
	names := unlikeNames("jkhijkhijkhijkhi")
	for _, s := range names {
		for _, u := range names {
			p := upper(s)
			so := func(x api.Term) []api.Term {
				if s != u {
					return nil
				}
				return []api.Term{x}
			}
			l := []api.Clause{fact(named(s)), {Head: named("a0"), Body: []api.Term{named(u)}}}
			holdsSet(t, l, append(so(named("a0")), named(s)))
			l = []api.Clause{fact(named("f", named(s))), {Head: named("a0"), Body: []api.Term{named("f", named(u))}}}
			holdsSet(t, l, append(so(named("a0")), named("f", named(s))))
			l = []api.Clause{fact(named("f", num(1))), fact(named("f", num(2))), {Head: named("g", aVar(p), aVar(upper(u))), Body: []api.Term{named("f", aVar(p)), named("f", aVar(upper(u)))}}}
			want := []api.Term{named("f", num(1)), named("f", num(2)), named("g", num(1), num(1)), named("g", num(2), num(2))}
			if s != u {
				want = append(want, named("g", num(1), num(2)), named("g", num(2), num(1)))
			}
			holdsSet(t, l, want)
		}
	}
}

func upper(s string) string { return strings.ToUpper(s[:1]) + s[1:] }

// holdsSet holds what follows, in whatever order it is wanted.
func holdsSet(t *testing.T, l []api.Clause, want []api.Term) {
	t.Helper()
	k, e := known.All(l)
	slices.SortFunc(want, func(a, b api.Term) int {
		c, _ := term.Order(a, b)
		return c
	})
	if texts(k) != texts(want) || e != api.OK {
		t.Errorf("%+v: %s, %v, not %s", l, texts(k), e, texts(want))
	}
}

// P11.1: no two numbers are taken for one.
func TestUnlikeNumbers(t *testing.T) {
	numbers := []int{0, -1, -api.MaxNum, 1 - api.MaxNum}
	for i := range 31 {
		numbers = append(numbers, 1<<i, max(-1<<i-1, -api.MaxNum+i))
	}
	for _, n := range numbers {
		for _, m := range numbers {
			l := []api.Clause{fact(named("f", num(n))), {Head: named("a"), Body: []api.Term{named("f", num(m))}}}
			want := []api.Term{named("f", num(n))}
			if n == m {
				want = append(want, named("a"))
			}
			holdsSet(t, l, want)
		}
	}
}

// P11.1: a number and a name, how many Args, and what stands at one place and at another are not taken for each other.
func TestUnlikeShapes(t *testing.T) {
	l := []api.Term{named("f"), named("f", num(0)), named("f", num(1)), named("f", named("f")), named("f", named("a")), named("f", num(0), num(0)), named("f", num(0), named("f")), named("f", num(1), num(0)), named("f", num(0), num(1)), named("f", num(0), num(0), num(0)), named("f", num(0), num(0), num(1)), named("f", num(0), num(1), num(0)), named("f", num(1), num(0), num(0)), named("f", num(0), num(0), num(0), num(0)), named("f", num(0), num(0), num(0), num(1)), named("f", named("f"), named("f")), named("f", named("f"), num(0))}
	for _, x := range l {
		for _, y := range l {
			want := []api.Term{x}
			if texts([]api.Term{x}) == texts([]api.Term{y}) {
				want = append(want, named("k"))
			}
			holdsSet(t, []api.Clause{fact(x), {Head: named("k"), Body: []api.Term{y}}}, want)
		}
	}
}

// P11.1: as many variables as a clause can have: each stands for its own, in the head and in guards.
func TestManyVariables(t *testing.T) {
	var l []api.Clause
	var body []api.Term
	for i := range api.MaxBody {
		f, b := named("f"+strconv.Itoa(i)), named("f"+strconv.Itoa(i))
		for j := range api.MaxArgs {
			f.Args = append(f.Args, num(10*i+j))
			b.Args = append(b.Args, aVar(string(rune('L'-i*api.MaxArgs-j))))
		}
		l, body = append(l, fact(f)), append(body, b)
	}
	for i := range api.MaxBody * api.MaxArgs {
		v, n := body[i/api.MaxArgs].Args[i%api.MaxArgs], num(10*(i/api.MaxArgs)+i%api.MaxArgs)
		so := api.Guard{Kind: api.GuardSame, L: v, R: n}
		not := api.Guard{Kind: api.GuardOther, L: n, R: v}
		for from := range api.MaxBody {
			turned := append(slices.Clone(body[from:]), body[:from]...)
			x := slices.Concat(l, []api.Clause{{Head: named("k", v, num(7), v), Body: turned, Guards: []api.Guard{so}}, {Head: named("l", v), Body: turned, Guards: []api.Guard{so, not}}})
			holdsSet(t, x, []api.Term{l[0].Head, l[1].Head, l[2].Head, named("k", n, num(7), n)})
		}
	}
}

// P11.1: clauses may be hard to go through: many atoms at each place of a body, and guards that are so for few.
func TestManyWays(t *testing.T) {
	text := "d(1). d(2). d(3). d(4). d(5). d(6). d(7). h(X,Y) :- d(X), d(Y)."
	text += strings.Repeat(" x(X,Y) :- h(X,A), h(Y,B), h(C,D), f(X,A,B) = f(Y,C,D), f(C,C,D) = f(D,7,Y).", 21)
	l := clauses(t, text)
	k, e := known.All(l)
	if e != api.OK || len(k) != 57 || texts(k[56:]) != "x(7,7)." {
		t.Errorf("%s, %v", texts(k), e)
	}
}

// P11.1: as many clauses as may be, in a row in which each needs the one behind it.
func TestManyClauses(t *testing.T) {
	var l []api.Clause
	var want []api.Term
	for i := range api.MaxClause {
		x := named("c", num(i))
		if i+1 < api.MaxClause {
			l = append(l, api.Clause{Head: x, Body: []api.Term{named("c", num(i+1))}})
		} else {
			l = append(l, fact(x))
		}
		want = append(want, x)
	}
	holdsSet(t, l, want)
	slices.Reverse(l)
	holdsSet(t, l, want)
	holdsSet(t, l[1:], nil)
}

// P11.1: a long row of steps: one atom more in each.
func TestLongRow(t *testing.T) {
	text := "n(0,1). n(1,2). n(2,3). n(3,4). n(4,5). n(5,6). n(6,0). c(0,0). c(X,B) :- c(A,B), n(A,X), 0 < X. c(0,B) :- c(6,A), n(A,B), B < 7, 0 < B."
	k, e := allOf(t, clauses(t, text))
	if e != api.OK || len(k) != 7+49 {
		t.Errorf("%s, %v", texts(k), e)
	}
}
