package facts_test

import (
	"math"
	"slices"
	"testing"

	"almagest/api"
	"almagest/facts"
)

// story is a list with gaps between its Seqs, of facts that do not rise.
func story() []api.Kept {
	return []api.Kept{
		{Seq: 2, Fact: fact(named("f", named("z")), 5, 6)},
		{Seq: 3, Fact: fact(named("f"), 7, 7)},
		{Seq: 7, Fact: fact(named("f", named("a")), -4, 9)},
		{Seq: 8, Fact: fact(named("g", named("a")), 5, 9)},
		{Seq: 20, Fact: fact(named("f", named("a")), -4, 8)},
		{Seq: 21, Fact: fact(named("f", named("a"), number(1)), 6, 8)},
		{Seq: 22, Fact: fact(named("f", named("a")), -5, 9)},
		{Seq: 300, Fact: fact(named("f", number(1)), 4, 9)},
		{Seq: 400, Fact: fact(named("ff", number(1)), 5, 5)},
	}
}

// picked are those of a list at the places told.
func picked(l []api.Kept, places ...int) []api.Kept {
	var x []api.Kept
	for _, i := range places {
		x = append(x, l[i])
	}
	return x
}

// P9.1: the Seq of what is there; ErrNone of what is not.
func TestFind(t *testing.T) {
	l := story()
	for _, k := range l {
		if n, e := facts.Find(l, k.Fact); n != k.Seq || e != api.OK {
			t.Errorf("%v: %v, %v", k, n, e)
		}
	}
	if n, e := facts.Find([]api.Kept{{Seq: 0, Fact: good()}}, good()); n != 0 || e != api.OK {
		t.Errorf("%v, %v", n, e)
	}
	for _, f := range []api.Fact{
		fact(named("f", named("z")), 5, 7), fact(named("f", named("z")), 4, 6), fact(named("f", named("y")), 5, 6), fact(named("f"), 7, 8), fact(named("f"), 6, 7),
		fact(named("z"), 5, 6), fact(named("g"), 7, 7), fact(named("f", number(1)), 5, 5), fact(named("f", number(2)), 4, 9), fact(named("f", number(1), named("a")), 6, 8),
	} {
		for _, l := range [][]api.Kept{l, l[:1], {}, nil, many(api.MaxFacts)} {
			if n, e := facts.Find(l, f); n != 0 || e != api.ErrNone {
				t.Errorf("%v: %v, %v", f, n, e)
			}
		}
	}
}

// P9.1: a list with one more, as many Seqs ahead as may be.
func TestAdd(t *testing.T) {
	for _, l := range [][]api.Kept{nil, {}, listed(at(named("a"))), story(), many(20), many(api.MaxFacts - 1)} {
		after := 0
		if len(l) > 0 {
			after = l[len(l)-1].Seq + 1
		}
		for _, n := range []int{after, after + 1, after + 1000, api.MaxNum - 1, api.MaxNum} {
			want := slices.Concat(l, []api.Kept{{Seq: n, Fact: good()}})
			if x, e := facts.Add(l, n, good()); !sameList(x, want) || e != api.OK {
				t.Errorf("%v: %v, %v", n, x, e)
			}
		}
		for _, n := range []int{math.MinInt, -api.MaxNum, -1, after - 1, api.MaxNum + 1, 1 << 32, math.MaxInt} {
			if x, e := facts.Add(l, n, good()); len(x) != 0 || e != api.ErrForm {
				t.Errorf("%v: %v, %v", n, x, e)
			}
		}
	}
	for _, n := range []int{2, 3, 5, 22, 299, 300, 399, 400} {
		if x, e := facts.Add(story(), n, good()); len(x) != 0 || e != api.ErrForm {
			t.Errorf("%v: %v, %v", n, x, e)
		}
	}
}

// P9.1: behind a Seq of MaxNum, and behind one beyond it, no number is left.
func TestAddAtTheEnd(t *testing.T) {
	for _, last := range []int{api.MaxNum, api.MaxNum + 1, math.MaxInt - 1, math.MaxInt} {
		l := []api.Kept{{Seq: last, Fact: at(named("a"))}}
		for _, n := range []int{math.MinInt, -1, 0, 1, api.MaxNum - 1, api.MaxNum, api.MaxNum + 1, math.MaxInt} {
			for _, f := range []api.Fact{good(), at(named("a"))} {
				if x, e := facts.Add(l, n, f); len(x) != 0 || e != api.ErrForm {
					t.Errorf("%v behind %v: %v, %v", n, last, x, e)
				}
			}
		}
	}
	l := []api.Kept{{Seq: api.MaxNum - 1, Fact: at(named("a"))}}
	if x, e := facts.Add(l, api.MaxNum, good()); len(x) != 2 || e != api.OK {
		t.Errorf("%v, %v", x, e)
	}
}

// P9.1: which error of Add is told, where several apply.
func TestAddErrors(t *testing.T) {
	full, most := many(api.MaxFacts), api.MaxFacts
	there, bad := full[most/2].Fact, at(variable("X"))
	short, gap := many(most-1), slices.Clone(full)
	gap[most-1].Seq = api.MaxNum
	broken, over := many(most), many(most+1)
	broken[most-1].Seq = 0
	for i, c := range []struct {
		l []api.Kept
		n int
		f api.Fact
		e api.Errno
	}{
		{short, most, good(), api.OK},
		{short, most, there, api.ErrBad},
		{short, most, short[0].Fact, api.ErrBad},
		{short, most, short[most-2].Fact, api.ErrBad},
		{full, most, good(), api.ErrLimit},
		{full, api.MaxNum, good(), api.ErrLimit},
		{full, most, there, api.ErrBad},
		{full, most, full[0].Fact, api.ErrBad},
		{full, most, full[most-1].Fact, api.ErrBad},
		{full, most - 1, good(), api.ErrForm},
		{full, most - 1, there, api.ErrForm},
		{full, -1, there, api.ErrForm},
		{full, api.MaxNum + 1, good(), api.ErrForm},
		{full, api.MaxNum + 1, there, api.ErrForm},
		{full, most, bad, api.ErrForm},
		{short, most - 2, short[0].Fact, api.ErrForm},
		{gap, api.MaxNum, good(), api.ErrForm},
		{gap, api.MaxNum, there, api.ErrForm},
		{gap, api.MaxNum + 1, there, api.ErrForm},
		{broken, most, there, api.ErrForm},
		{broken, most, good(), api.ErrForm},
		{over, most + 1, good(), api.ErrForm},
		{over, most + 1, there, api.ErrForm},
		{listed(good()), 1, good(), api.ErrBad},
		{listed(good()), 0, good(), api.ErrForm},
		{nil, 0, bad, api.ErrForm},
		{nil, -1, good(), api.ErrForm},
		{nil, 0, good(), api.OK},
	} {
		x, e := facts.Add(c.l, c.n, c.f)
		if e != c.e || e != api.OK && len(x) != 0 || e == api.OK && len(x) != len(c.l)+1 {
			t.Errorf("%d: %d, %v", i, len(x), e)
		}
	}
}

// P9.1: those that begin at a time or later, in their order.
func TestSince(t *testing.T) {
	l := story()
	for _, c := range []struct {
		from int
		want []api.Kept
	}{
		{math.MinInt, l}, {-api.MaxNum, l}, {-6, l}, {-5, l},
		{-4, picked(l, 0, 1, 2, 3, 4, 5, 7, 8)},
		{-3, picked(l, 0, 1, 3, 5, 7, 8)}, {0, picked(l, 0, 1, 3, 5, 7, 8)}, {4, picked(l, 0, 1, 3, 5, 7, 8)},
		{5, picked(l, 0, 1, 3, 5, 8)},
		{6, picked(l, 1, 5)},
		{7, picked(l, 1)},
		{8, nil}, {9, nil}, {10, nil}, {api.MaxNum, nil}, {math.MaxInt, nil},
	} {
		if x, e := facts.Since(l, c.from); !sameList(x, c.want) || e != api.OK {
			t.Errorf("%d: %v, %v", c.from, x, e)
		}
		if x, e := facts.Since(nil, c.from); len(x) != 0 || e != api.OK {
			t.Errorf("%d of none: %v, %v", c.from, x, e)
		}
	}
	for _, from := range []int{-api.MaxNum, -1, 0, 1, api.MaxNum} {
		one := listed(fact(named("a"), from, api.MaxNum))
		for d, want := range map[int]int{-1: 1, 0: 1, 1: 0} {
			if x, e := facts.Since(one, from+d); len(x) != want || e != api.OK {
				t.Errorf("%d and %d: %v, %v", from, d, x, e)
			}
		}
	}
}

// P9.2: those with a name and so many Args, in their order.
func TestNamed(t *testing.T) {
	l := story()
	for _, c := range []struct {
		name string
		n    int
		want []api.Kept
	}{
		{"f", 0, picked(l, 1)},
		{"f", 1, picked(l, 0, 2, 4, 6, 7)},
		{"f", 2, picked(l, 5)},
		{"f", 3, nil}, {"f", api.MaxArgs, nil}, {"f", api.MaxArgs + 1, nil}, {"f", -1, nil}, {"f", math.MaxInt, nil}, {"f", math.MinInt, nil}, {"f", 256, nil}, {"f", 1<<32 + 1, nil},
		{"g", 1, picked(l, 3)},
		{"g", 0, nil}, {"g", 2, nil},
		{"ff", 1, picked(l, 8)},
		{"ff", 0, nil},
		{"fff", 1, nil}, {"a", 0, nil}, {"z", 0, nil}, {"", 0, nil}, {"", 1, nil}, {"F", 1, nil}, {"f ", 1, nil}, {"f\x00", 1, nil}, {"f\x00\x00\x00\x00\x00\x00\x00\x00\x00\x00\x00\x00\x00\x00\x00", 1, nil}, {"X", 0, nil}, {"a long text that is no name", 1, nil},
	} {
		if x, e := facts.Named(l, c.name, c.n); !sameList(x, c.want) || e != api.OK {
			t.Errorf("%q, %d: %v, %v", c.name, c.n, x, e)
		}
		if x, e := facts.Named(nil, c.name, c.n); len(x) != 0 || e != api.OK {
			t.Errorf("%q, %d of none: %v, %v", c.name, c.n, x, e)
		}
	}
	for n := range api.MaxArgs + 1 {
		long := "a234567890123456"
		args := slices.Repeat([]api.Term{number(1)}, n)
		l := listed(at(named(long, args...)), at(named(long[:15], args...)), at(named(long[:15]+"7", args...)))
		if x, e := facts.Named(l, long, n); !sameList(x, l[:1]) || e != api.OK {
			t.Errorf("%d: %v, %v", n, x, e)
		}
	}
}

// P9.2: facts by Order, in whatever order they came.
func TestSorted(t *testing.T) {
	want := rising()
	back := slices.Clone(want)
	slices.Reverse(back)
	turned := slices.Concat(want[len(want)/3:], want[:len(want)/3])
	for i, l := range [][]api.Fact{want, back, turned} {
		x, e := facts.Sorted(listed(l...))
		if !slices.EqualFunc(x, want, sameFact) || e != api.OK {
			t.Errorf("%d: %v, %v", i, x, e)
		}
	}
	for _, l := range [][]api.Kept{nil, {}} {
		if x, e := facts.Sorted(l); len(x) != 0 || e != api.OK {
			t.Errorf("%v, %v", x, e)
		}
	}
	if x, e := facts.Sorted(listed(good())); len(x) != 1 || !sameFact(x[0], good()) || e != api.OK {
		t.Errorf("%v, %v", x, e)
	}
	x, e := facts.Sorted(many(api.MaxFacts))
	for i := range x[1:] {
		if c, _ := facts.Order(x[i], x[i+1]); c != -1 {
			t.Errorf("%v, %v: %v", x[i], x[i+1], c)
		}
	}
	if len(x) != api.MaxFacts || e != api.OK {
		t.Errorf("%v, %v", len(x), e)
	}
}

// kept is a list of its own memory, down to each Args, with room behind all of them.
func kept() []api.Kept {
	room := func(l ...api.Term) []api.Term { return slices.Grow(l, 3) }
	l := make([]api.Kept, 0, 9)
	for i, n := range []int{4, 2, 9, 6, 3} {
		inner := api.Term{Kind: api.TermName, Name: "g", Args: room(number(n), named("h"))}
		l = append(l, api.Kept{Seq: 2 * i, Fact: fact(api.Term{Kind: api.TermName, Name: "f", Args: room(inner, number(n))}, n, n+1)})
	}
	return l
}

func scribbleTerm(t *api.Term) {
	for i := range t.Args {
		scribbleTerm(&t.Args[i])
	}
	for i := range t.Args[:cap(t.Args)] {
		t.Args[:cap(t.Args)][i] = number(99)
	}
	*t = named("scribble")
}

// scribble writes into each list of l, and behind it.
func scribble(l []api.Kept) {
	for i := range l {
		scribbleTerm(&l[i].Fact.Term)
	}
	for i := range l[:cap(l)] {
		l[:cap(l)][i] = api.Kept{Seq: -7}
	}
}

func scribbleFacts(l []api.Fact) {
	for i := range l {
		scribbleTerm(&l[i].Term)
	}
	for i := range l[:cap(l)] {
		l[:cap(l)][i] = api.Fact{}
	}
}

// untouched tells whether l, and all behind it, is as kept made it.
func untouched(l []api.Kept) bool {
	want := kept()
	empty := slices.ContainsFunc(l[len(l):cap(l)], func(k api.Kept) bool { return !sameKept(k, api.Kept{}) })
	for _, k := range l {
		for _, t := range k.Fact.Term.Args {
			empty = empty || slices.ContainsFunc(t.Args[len(t.Args):cap(t.Args)], func(x api.Term) bool { return x.Kind != 0 })
		}
		a := k.Fact.Term.Args
		empty = empty || slices.ContainsFunc(a[len(a):cap(a)], func(x api.Term) bool { return x.Kind != 0 })
	}
	return sameList(l, want) && !empty
}

// R2: no call changes what it was handed, and what is told shares nothing with it, with itself, or with what is told again.
func TestMemory(t *testing.T) {
	l, one := kept(), kept()[1:2]
	f := fact(kept()[0].Fact.Term, 50, 60)
	for i, call := range []func() []api.Kept{
		func() []api.Kept { x, _ := facts.Add(l, 100, f); return x },
		func() []api.Kept { x, _ := facts.Add(l[:0], 100, f); return x },
		func() []api.Kept { x, _ := facts.Add(nil, 100, f); return x },
		func() []api.Kept { x, _ := facts.Since(l, 3); return x },
		func() []api.Kept { x, _ := facts.Since(l, 0); return x },
		func() []api.Kept { x, _ := facts.Since(one, 0); return x },
		func() []api.Kept { x, _ := facts.Named(l, "f", 2); return x },
		func() []api.Kept { x, _ := facts.Named(one, "f", 2); return x },
	} {
		first, second := call(), call()
		want := call()
		if len(first) == 0 || !sameList(first, want) {
			t.Errorf("%d: %v", i, first)
		}
		scribble(first)
		if !untouched(l) || !sameTerm(f.Term, kept()[0].Fact.Term) || !sameList(one, kept()[1:2]) {
			t.Fatalf("%d: what was handed in changed", i)
		}
		if !sameList(second, want) {
			t.Errorf("%d: what was told changed: %v", i, second)
		}
		if again := call(); !sameList(again, want) {
			t.Errorf("%d: what is told again changed: %v", i, again)
		}
	}
	first, _ := facts.Sorted(l)
	second, _ := facts.Sorted(l)
	want, _ := facts.Sorted(l)
	scribbleFacts(first)
	if !untouched(l) || len(second) != len(l) || !slices.EqualFunc(second, want, sameFact) {
		t.Errorf("Sorted: %v", second)
	}
}

// R2: no two lists of one answer are one, though those handed in were.
func TestSharedParts(t *testing.T) {
	part := []api.Term{number(1)}
	f := named("f", named("g", part...), named("g", part...))
	l := listed(fact(f, 1, 1), fact(f, 2, 2), fact(f, 3, 3))
	want, more := f.Args[0], fact(f, 4, 4)
	added, _ := facts.Add(l, 3, more)
	since, _ := facts.Since(l, 0)
	byName, _ := facts.Named(l, "f", 2)
	for i, x := range [][]api.Kept{added, since, byName} {
		for k := range x {
			x[k].Fact.Term.Args[0].Args[0] = number(7)
			if rest := x[k].Fact.Term.Args[1]; !sameTerm(rest, want) {
				t.Errorf("%d: %v", i, rest)
			}
			if k+1 < len(x) && !sameTerm(x[k+1].Fact.Term.Args[0], want) {
				t.Errorf("%d: %v", i, x[k+1])
			}
		}
	}
	sorted, _ := facts.Sorted(l)
	for k := range sorted {
		sorted[k].Term.Args[0].Args[0] = number(7)
		if !sameTerm(sorted[k].Term.Args[1], want) || k+1 < len(sorted) && !sameTerm(sorted[k+1].Term.Args[0], want) {
			t.Errorf("%v", sorted)
		}
	}
	if part[0].N != 1 {
		t.Errorf("%v", part)
	}
}

// R2: May, Check, Order and Find change nothing, and errors neither.
func TestAsked(t *testing.T) {
	l := kept()
	f, g := fact(l[0].Fact.Term, 50, 60), l[3].Fact
	for range 3 {
		facts.May(f)
		facts.Check(l)
		facts.Order(f, g)
		facts.Find(l, f)
		facts.Find(l, g)
		facts.Add(l, 100, g)
		facts.Add(l, 3, f)
		facts.Since(l, api.MaxNum)
		facts.Named(l, "f", 1)
	}
	if !untouched(l) || !sameTerm(f.Term, kept()[0].Fact.Term) {
		t.Errorf("%v, %v", l, f)
	}
}
