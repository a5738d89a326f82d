package weave_test

import (
	"slices"
	"testing"

	"almagest/api"
	"almagest/span"
	"almagest/weave"
)

// some goes through all ways to choose n of as many as l has, till f has enough, and tells whether it had.
func some(l [][]int, n int, f func(spans []int) bool) bool {
	spans := make([]int, n)
	var choose func(at int) bool
	choose = func(at int) bool {
		if at == n {
			return f(spans)
		}
		for i := range l {
			spans[at] = i
			if choose(at + 1) {
				return true
			}
		}
		return false
	}
	return choose(0)
}

// netOf is what is so of some spans.
func netOf(l [][]int, spans []int) []int {
	var x []int
	for _, a := range spans {
		for _, b := range spans {
			x = append(x, l[a][b])
		}
	}
	return x
}

// among tells whether what is so of some spans is in a net's sets.
func among(x []int, net []int) bool {
	for i, s := range x {
		if s&net[i] == 0 {
			return false
		}
	}
	return true
}

// hollow is a net that no spans have, though each three of its four do: a and b, that are apart, both start or end c, so one of them starts it, and what d is to that one and to the other does not go with what it is to c.
func hollow(t *testing.T) []int {
	t.Helper()
	apart, c, d := of(t, "before after"), of(t, "starts ends"), of(t, "meets overlapped")
	cd := of(t, "ended overlapped")
	l := []int{
		equal, apart, c, d,
		back(apart), equal, c, d,
		back(c), back(c), equal, cd,
		back(d), back(d), back(cd), equal,
	}
	known := lies(t, small(8))
	if some(known, 4, func(spans []int) bool { return among(netOf(known, spans), l) }) {
		t.Errorf("some spans have %v", l)
	}
	return l
}

// P8.3: Then of each three relations in any brackets.
func TestBrackets(t *testing.T) {
	for r := range 13 {
		for q := range 13 {
			for p := range 13 {
				bracketsAgree(t, 1<<r, 1<<q, 1<<p)
			}
		}
	}
}

// P8.3: Then of any three sets, the empty one among them.
func TestBracketsOfSets(t *testing.T) {
	d := dice(3)
	for range 4000 {
		s, u, v := d.set(), d.set(), d.set()
		bracketsAgree(t, s, u, v)
		bracketsAgree(t, s, 0, v)
	}
}

func bracketsAgree(t *testing.T, s, u, v int) {
	t.Helper()
	su, e1 := weave.Then(s, u)
	left, e2 := weave.Then(su, v)
	uv, e3 := weave.Then(u, v)
	right, e4 := weave.Then(s, uv)
	if left != right || e1 != api.OK || e2 != api.OK || e3 != api.OK || e4 != api.OK {
		t.Errorf("{%s}, {%s}, {%s}: {%s} and {%s}", words(s), words(u), words(v), words(left), words(right))
	}
}

// P8.2, P8.3: equal changes nothing, and turned, the other one goes first.
func TestThenTurned(t *testing.T) {
	d := dice(4)
	for range 2000 {
		s, u := d.set(), d.set()
		thenIs(t, s, equal, s)
		thenIs(t, equal, s, s)
		there, _ := weave.Then(s, u)
		thenIs(t, back(u), back(s), back(there))
	}
}

// P8.3: what is so of any spans, of one to three all of them, of more some: a net loses nothing of it, be it told in whole, in part, or among other relations.
func TestNetOfSpans(t *testing.T) {
	for _, c := range []struct{ n, numbers, each int }{{1, 3, 1}, {2, 4, 1}, {3, 6, 1}, {4, 6, 23}, {5, 5, 41}} {
		d := dice(5)
		known := lies(t, small(c.numbers))
		seen := 0
		some(known, c.n, func(spans []int) bool {
			if seen++; seen%c.each == 0 {
				netHas(t, c.n, netOf(known, spans), &d)
			}
			return false
		})
	}
}

func netHas(t *testing.T, n int, x []int, d *dice) {
	t.Helper()
	netIs(t, n, x, x)
	wide, part := slices.Clone(x), slices.Clone(x)
	for i := range x {
		wide[i] |= d.set()
		if d.next()%2 == 0 {
			part[i] = all
		}
	}
	for _, l := range [][]int{wide, part} {
		if left, e := weave.Net(n, l); e != api.OK || !among(x, left) {
			t.Errorf("%v of %v: %v, %v", x, l, left, e)
		}
	}
}

// P8.3: spans at the ends of all numbers, and far from each other.
func TestNetOfFarSpans(t *testing.T) {
	const most = api.MaxNum
	spans := []api.Span{{From: -most, To: most}, {From: -most, To: -most + 1}, {From: -most + 1, To: most}, {From: most - 1, To: most}, {From: -1, To: 0}}
	var x []int
	for _, l := range lies(t, spans) {
		x = append(x, l...)
	}
	netIs(t, 5, x, x)
}

// P8.2, P8.3: of up to three spans just that is left which some spans have, and ErrBad is told just where none do.
func TestNetOfThree(t *testing.T) {
	known := lies(t, small(6))
	d := dice(6)
	for n := 1; n <= 3; n++ {
		kept, failed := 0, 0
		for range 150 {
			l := make([]int, n*n)
			for i := range l {
				if l[i] = d.set(); i/n == i%n && d.next()%8 > 0 {
					l[i] |= equal
				}
			}
			want := make([]int, n*n)
			some(known, n, func(spans []int) bool {
				if x := netOf(known, spans); among(x, l) {
					for i := range x {
						want[i] |= x[i]
					}
				}
				return false
			})
			if want[0] == 0 {
				failed++
				netFails(t, n, l, api.ErrBad)
				continue
			}
			kept++
			netIs(t, n, l, want)
		}
		if kept < 10 || failed < 10 {
			t.Errorf("%d spans: some have %d, none %d", n, kept, failed)
		}
	}
}

// P8.2: what is left loses nothing more; and spans in another order have the same.
func TestNetAgain(t *testing.T) {
	d := dice(7)
	for range 400 {
		l := open(5)
		for range 7 {
			if at := d.next() % 25; at/5 != at%5 {
				l[at] = d.set()
			}
		}
		left, e := weave.Net(5, l)
		other, g := weave.Net(5, reversed(l))
		if e != g || e == api.OK && !slices.Equal(reversed(left), other) {
			t.Errorf("%v: %v, %v, and reversed %v, %v", l, left, e, other, g)
		}
		if e == api.OK {
			netIs(t, 5, left, left)
		}
	}
}

// reversed is a net with the last span first: so each row, and all rows, go the other way.
func reversed(l []int) []int {
	x := slices.Clone(l)
	slices.Reverse(x)
	return x
}

// R1: the same call tells the same.
func TestSameAgain(t *testing.T) {
	l := row(5, of(t, "meets overlaps during"))
	first, _ := weave.Net(5, l)
	for range 50 {
		netIs(t, 5, l, first)
		thenIs(t, of(t, "overlaps"), of(t, "starts ended"), of(t, "before meets overlaps"))
	}
}

// P8.1: relations of sets are span's, by its names.
func TestSpansNames(t *testing.T) {
	for i, name := range relations() {
		r, e := span.Of(name)
		if e != api.OK {
			t.Fatal(name, e)
		}
		setIs(t, []int{r}, 1<<i)
	}
}
