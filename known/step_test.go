package known_test

import (
	"fmt"
	"slices"
	"testing"

	"almagest/api"
	"almagest/known"
)

// stepOf holds that Step tells the same again, in order, and changes nothing.
func stepOf(t *testing.T, l []api.Clause, k []api.Term) ([]api.Term, api.Errno) {
	t.Helper()
	ahead := fmt.Sprintf("%+v %+v", l, k)
	x, e := known.Step(l, k)
	x2, e2 := known.Step(l, k)
	if texts(x) != texts(x2) || e != e2 {
		t.Errorf("%s: %s, %v, then %s, %v", ahead, texts(x), e, texts(x2), e2)
	}
	if fmt.Sprintf("%+v %+v", l, k) != ahead {
		t.Errorf("%s: changed", ahead)
	}
	if e != api.OK && x != nil {
		t.Errorf("%s: %s beside %v", ahead, texts(x), e)
	}
	ordered(t, x)
	return x, e
}

// P11.1: what follows in one step, and no more.
func TestStep(t *testing.T) {
	for _, c := range []struct{ text, of, want string }{
		{"", "", ""},
		{"", "a. f(1).", ""},
		{"f(1). g(X) :- f(X).", "", "f(1)."},
		{"f(1). g(X) :- f(X).", "f(1).", "g(1)."},
		{"f(1). g(X) :- f(X).", "f(2).", "f(1). g(2)."},
		{"f(1). g(X) :- f(X).", "f(1). g(1).", ""},
		{"f(1). g(X) :- f(X).", "f(1). f(2). g(2).", "g(1)."},
		{"f(1). g(X) :- f(X).", "g(1).", "f(1)."},
		{"f(1). g(X) :- f(X).", "other(1). f(1,2).", "f(1)."},
		{"a. b. a.", "b.", "a."},
		{"a. b :- a. c :- b. d :- c.", "", "a."},
		{"a. b :- a. c :- b. d :- c.", "a.", "b."},
		{"a. b :- a. c :- b. d :- c.", "b.", "a. c."},
		{"d :- c. c :- b. b :- a. a.", "", "a."},
		{"d :- c. c :- b. b :- a. a.", "a. c.", "b. d."},
		{"d :- c. c :- b. b :- a. a.", "a. b. c.", "d."},
		{"d :- c. c :- b. b :- a. a.", "a. b. c. d.", ""},
		{"d :- c. c :- b. b :- a.", "d.", ""},
		{"p(X,Z) :- e(X,Y), e(Y,Z).", "e(1,2). e(2,3). e(3,4).", "p(1,3). p(2,4)."},
		{"e(X,Z) :- e(X,Y), e(Y,Z).", "e(1,2). e(2,3). e(3,4).", "e(1,3). e(2,4)."},
		{"e(X,Z) :- e(X,Y), e(Y,Z).", "e(1,2). e(1,3). e(2,3). e(2,4). e(3,4).", "e(1,4)."},
		{"e(X,Z) :- e(X,Y), e(Y,Z).", "e(1,2). e(1,3). e(1,4). e(2,3). e(2,4). e(3,4).", ""},
		{"s(X) :- e(X,X).", "s(a). e(1,1). e(1,2). e(a,a).", "s(1)."},
		{"p(X,Y) :- n(X), n(Y), X < Y.", "n(1). n(2). n(a).", "p(1,2)."},
		{`p(X) :- n(X), X \= a.`, "n(1). n(a). n(b).", "p(1). p(b)."},
		{"k :- 1 < 2. l :- 2 < 1.", "", "k."},
		{"k :- 1 < 2. l :- 2 < 1.", "l.", "k."},
		{"p(X,Y,Z) :- a(X), b(Y), c(Z).", "a(1). b(2). c(3).", "p(1,2,3)."},
		{"p(X,Y,Z) :- c(Z), b(Y), a(X).", "a(1). b(2). c(3).", "p(1,2,3)."},
		{"p(X,Y,Z) :- c(Z), b(Y), a(X).", "a(1). b(2).", ""},
	} {
		k := terms(t, c.of)
		x, e := stepOf(t, clauses(t, c.text), k)
		if texts(x) != c.want || e != api.OK {
			t.Errorf("%q, %q: %q, %v, not %q", c.text, c.of, texts(x), e, c.want)
		}
	}
}

// P11.1: where a body has several atoms, each may be the last one that comes.
func TestStepsBehindEachOther(t *testing.T) {
	l := clauses(t, "p(X,Y,Z) :- f(X), f(Y), f(Z).")
	for n := range 3 {
		var k, want []api.Term
		for i := range n + 1 {
			k = append(k, named("f", num(i)))
		}
		for i := range len(k) * len(k) * len(k) {
			want = append(want, named("p", num(i/len(k)/len(k)), num(i/len(k)%len(k)), num(i%len(k))))
		}
		x, e := stepOf(t, l, k)
		if texts(x) != texts(want) || e != api.OK {
			t.Errorf("%d: %s, %v", n, texts(x), e)
		}
		text := []string{"f(0).", "f(0). f(1) :- f(0).", "f(2) :- f(1). f(0). f(1) :- f(0)."}[n]
		all, e := allOf(t, append(clauses(t, text), l...))
		if texts(all) != texts(slices.Concat(k, want)) || e != api.OK {
			t.Errorf("%s: %s, %v", text, texts(all), e)
		}
	}
}

// P11.1: as many atoms as may follow, and one more: in one step, in the last one of several, and told twice.
func TestAllLimit(t *testing.T) {
	most := facts(numbers(api.MaxKnown))
	twice := append(slices.Clone(most), most...)
	text := "d(1). d(2). d(3). d(4). d(5). d(6). d(7). h(X,Y) :- d(X), d(Y)."
	row := "n(0,1). n(1,2). n(2,3). n(3,4). n(4,5). n(5,6). n(6,0). c(0,0). c(X,B) :- c(A,B), n(A,X), 0 < X. c(0,B) :- c(6,A), n(A,B), B < 7, 0 < B."
	for _, c := range []struct {
		l    []api.Clause
		many int
	}{
		{most, api.MaxKnown}, {most[1:], api.MaxKnown - 1}, {twice, api.MaxKnown},
		{append(slices.Clone(most[1:]), clauses(t, "a :- m(1).")...), api.MaxKnown},
		{append(clauses(t, "a :- m(1)."), most[1:]...), api.MaxKnown},
		{append(slices.Clone(most), clauses(t, "a :- b. m(X) :- m(X). m(3) :- m(59).")...), api.MaxKnown},
		{clauses(t, text+" a. b. c. d."), api.MaxKnown},
		{clauses(t, text+" a. b. c. d :- h(7,7)."), api.MaxKnown},
		{clauses(t, row+" a. b. c. d :- c(6,6)."), api.MaxKnown},
	} {
		k, e := allOf(t, c.l)
		if len(k) != c.many || e != api.OK {
			t.Errorf("%+v: %d, %v", c.l, len(k), e)
		}
	}
	for _, l := range [][]api.Clause{
		append(slices.Clone(most), clauses(t, "a.")...), append(clauses(t, "a."), most...),
		append(slices.Clone(most), clauses(t, "a :- m(59).")...), append(clauses(t, "a :- m(59)."), most...),
		append(twice, clauses(t, "b :- a. a.")...),
		append(slices.Clone(most[1:]), clauses(t, "b :- a. a :- m(59).")...),
		clauses(t, text+" a. b. c. d. e."), clauses(t, text+" a. b. c. d :- h(7,7). e :- d."), clauses(t, row+" a. b. c. d :- c(6,6). e :- d."),
		clauses(t, "d(1). d(2). d(3). d(4). h(X,Y,Z) :- d(X), d(Y), d(Z)."),
	} {
		if k, e := allOf(t, l); len(k) != 0 || e != api.ErrLimit {
			t.Errorf("%+v: %s, %v", l, texts(k), e)
		}
	}
}

// P11.1: these and those together, as many as may be, and one more.
func TestStepLimit(t *testing.T) {
	most := numbers(api.MaxKnown)
	for _, c := range []struct {
		text string
		k    []api.Term
		want string
		e    api.Errno
	}{
		{"", most, "", api.OK},
		{"m(X) :- m(X). m(1). m(59). a :- b.", most, "", api.OK},
		{"a.", most, "", api.ErrLimit},
		{"a :- m(59).", most, "", api.ErrLimit},
		{"m(60).", most, "", api.ErrLimit},
		{"m(1). a(X) :- m(X), X = 30. m(2).", most, "", api.ErrLimit},
		{"a. a. a. m(3).", most[1:], "a.", api.OK},
		{"m(0).", most[1:], "m(0).", api.OK},
		{"a :- m(1). m(1).", most[1:], "a.", api.OK},
		{"a. b.", most[1:], "", api.ErrLimit},
		{"a. b :- a.", most[1:], "a.", api.OK},
		{"a. b :- m(1).", most[1:], "", api.ErrLimit},
		{"a. b.", most[2:], "a. b.", api.OK},
		{"x(X) :- m(X).", most[:30], texts(named30()), api.OK},
		{"x(X) :- m(X).", most[:31], "", api.ErrLimit},
		{"x(X) :- m(X). a.", most[:30], "", api.ErrLimit},
		{"x(X,Y) :- m(X), m(Y).", most[:7], texts(pairs(7)), api.OK},
		{"x(X,Y) :- m(X), m(Y).", most[:8], "", api.ErrLimit},
	} {
		x, e := stepOf(t, clauses(t, c.text), c.k)
		if texts(x) != c.want || e != c.e {
			t.Errorf("%q, %s: %s, %v", c.text, texts(c.k), texts(x), e)
		}
	}
	for n := range 3 {
		x, e := stepOf(t, facts(numbers(api.MaxKnown-1+n)), nil)
		if n < 2 && (e != api.OK || texts(x) != texts(numbers(api.MaxKnown-1+n))) || n == 2 && e != api.ErrLimit {
			t.Errorf("%d: %s, %v", n, texts(x), e)
		}
	}
}

func named30() []api.Term {
	var l []api.Term
	for i := range 30 {
		l = append(l, named("x", num(i)))
	}
	return l
}

func pairs(n int) []api.Term {
	var l []api.Term
	for i := range n * n {
		l = append(l, named("x", num(i/n), num(i%n)))
	}
	return l
}
