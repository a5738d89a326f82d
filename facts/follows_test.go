package facts_test

import (
	"cmp"
	"slices"
	"testing"

	"almagest/api"
	"almagest/facts"
	"almagest/term"
)

// dice are numbers that look like any, the same ones each time.
type dice uint32

func (d *dice) below(n int) int {
	*d = *d*1664525 + 1013904223
	return int(*d>>8) % n
}

// term is one of few, so that many are alike.
func (d *dice) term(deep int) api.Term {
	if deep == 0 || d.below(3) == 0 {
		return number(d.below(3) - 1)
	}
	t := named([]string{"a", "b", "ab"}[d.below(3)])
	for range d.below(3) {
		t.Args = append(t.Args, d.term(deep-1))
	}
	return t
}

func (d *dice) fact() api.Fact {
	t := named([]string{"a", "b"}[d.below(2)])
	for range d.below(3) {
		t.Args = append(t.Args, d.term(2))
	}
	from := d.below(4) - 2
	return fact(t, from, from+d.below(2))
}

// compared is Order told a second time.
func compared(a, b api.Fact) int {
	c, _ := term.Order(a.Term, b.Term)
	return cmp.Or(c, cmp.Compare(a.Span.From, b.Span.From), cmp.Compare(a.Span.To, b.Span.To))
}

// place is where a fact stands in a list, told one by one; -1 where it does not.
func place(l []api.Kept, f api.Fact) int {
	return slices.IndexFunc(l, func(k api.Kept) bool { return sameFact(k.Fact, f) })
}

// grown is a list to which Add put what fell, as far as it may; each step is held against what is there.
func grown(t *testing.T, d *dice, steps int) []api.Kept {
	t.Helper()
	var l []api.Kept
	next := 0
	for range steps {
		f := d.fact()
		n := next + d.below(3)
		at := place(l, f)
		x, e := facts.Add(l, n, f)
		if at >= 0 {
			if len(x) != 0 || e != api.ErrBad {
				t.Fatalf("%v is there: %v, %v", f, x, e)
			}
			continue
		}
		if want := slices.Concat(l, []api.Kept{{Seq: n, Fact: f}}); !sameList(x, want) || e != api.OK {
			t.Fatalf("%v: %v, %v", f, x, e)
		}
		found(t, x, f, n)
		l, next = x, n+1
	}
	return l
}

func found(t *testing.T, l []api.Kept, f api.Fact, n int) {
	t.Helper()
	if seq, e := facts.Find(l, f); seq != n || e != api.OK {
		t.Fatalf("%v: %v, %v, not %v", f, seq, e, n)
	}
}

// P9.3: what is added is found under its number, then and later; what was there stays, under its own; what is not added is not found.
func TestAddedIsFound(t *testing.T) {
	d := dice(1)
	for range 12 {
		l := grown(t, &d, 120)
		listTaken(t, l)
		for range 60 {
			f := d.fact()
			if place(l, f) < 0 {
				if n, e := facts.Find(l, f); n != 0 || e != api.ErrNone {
					t.Errorf("%v: %v, %v", f, n, e)
				}
			}
		}
	}
}

// P9.3: as many as MaxFacts are added one by one, and found; one more is not.
func TestAddAll(t *testing.T) {
	var l []api.Kept
	for i, k := range many(api.MaxFacts) {
		x, e := facts.Add(l, 3*i, k.Fact)
		if len(x) != i+1 || e != api.OK {
			t.Fatalf("%d: %v, %v", i, len(x), e)
		}
		l = x
	}
	for i, k := range many(api.MaxFacts) {
		found(t, l, k.Fact, 3*i)
	}
	if x, e := facts.Add(l, api.MaxNum, good()); len(x) != 0 || e != api.ErrLimit {
		t.Errorf("%v, %v", len(x), e)
	}
	if n, e := facts.Find(l, good()); n != 0 || e != api.ErrNone {
		t.Errorf("%v, %v", n, e)
	}
}

// P9.3: each fact that differs from another in one place alone is found as itself.
func TestUnlikeFound(t *testing.T) {
	var l []api.Kept
	for i, f := range unlike() {
		x, e := facts.Add(l, 2*i+1, f)
		if e != api.OK {
			t.Fatalf("%v: %v", f, e)
		}
		found(t, x, f, 2*i+1)
		l = x
	}
	for i, f := range unlike() {
		found(t, l, f, 2*i+1)
	}
}

// P9.1, P9.2: any lists against what is told one by one; what is left is a list that may be, and is sorted as the whole is.
func TestTold(t *testing.T) {
	d := dice(2)
	for range 20 {
		l := grown(t, &d, 60)
		from, name, n := d.below(6)-3, []string{"a", "b", "ab"}[d.below(3)], d.below(4)
		since, e := facts.Since(l, from)
		want := slices.DeleteFunc(slices.Clone(l), func(k api.Kept) bool { return k.Fact.Span.From < from })
		if !sameList(since, want) || e != api.OK {
			t.Errorf("since %d of %v: %v, %v", from, l, since, e)
		}
		byName, e := facts.Named(l, name, n)
		want = slices.DeleteFunc(slices.Clone(l), func(k api.Kept) bool { return k.Fact.Term.Name != name || len(k.Fact.Term.Args) != n })
		if !sameList(byName, want) || e != api.OK {
			t.Errorf("%s, %d of %v: %v, %v", name, n, l, byName, e)
		}
		for _, x := range [][]api.Kept{l, since, byName} {
			listTaken(t, x)
			sortedIs(t, x)
		}
	}
}

func sortedIs(t *testing.T, l []api.Kept) {
	t.Helper()
	var want []api.Fact
	for _, k := range l {
		want = append(want, k.Fact)
	}
	slices.SortFunc(want, compared)
	if x, e := facts.Sorted(l); !slices.EqualFunc(x, want, sameFact) || e != api.OK {
		t.Errorf("%v: %v, %v", l, x, e)
	}
}

// P9.1: Order of any two, both ways round: 0 of like ones alone.
func TestOrderOfAny(t *testing.T) {
	d := dice(3)
	for range 3000 {
		a, b := d.fact(), d.fact()
		c, e := facts.Order(a, b)
		back, g := facts.Order(b, a)
		if c != compared(a, b) || c != -back || (c == 0) != sameFact(a, b) || e != api.OK || g != api.OK {
			t.Errorf("%v, %v: %v and %v", a, b, c, back)
		}
	}
}

// P9.1: Order leads on.
func TestOrderLeadsOn(t *testing.T) {
	d := dice(4)
	for range 3000 {
		l := []api.Fact{d.fact(), d.fact(), d.fact()}
		slices.SortFunc(l, func(a, b api.Fact) int {
			c, _ := facts.Order(a, b)
			return c
		})
		if c, _ := facts.Order(l[0], l[2]); c > 0 {
			t.Errorf("%v", l)
		}
	}
}

// R1: the same call tells the same.
func TestSameAgain(t *testing.T) {
	l := many(50)
	want, _ := facts.Sorted(l)
	for range 20 {
		x, e := facts.Sorted(l)
		if !slices.EqualFunc(x, want, sameFact) || e != api.OK {
			t.Fatalf("%v, %v", x, e)
		}
		listTaken(t, l)
	}
}

// The chapter's example.
func TestExample(t *testing.T) {
	if n, e := facts.Find(listed(at(named("a"))), at(named("b"))); n != 0 || e != api.ErrNone {
		t.Errorf("%v, %v", n, e)
	}
}
