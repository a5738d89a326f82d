package weave_test

import (
	"math"
	"slices"
	"strings"
	"testing"

	"almagest/api"
	"almagest/span"
	"almagest/weave"
)

// all has each relation.
const all = 8191

// relations stand in the order of their numbers.
func relations() []string {
	return strings.Fields("before meets overlaps starts during ends equal ended holds started overlapped met after")
}

// of is the set of relations by their names.
func of(t *testing.T, names string) int {
	t.Helper()
	s := 0
	for _, name := range strings.Fields(names) {
		i := slices.Index(relations(), name)
		if i < 0 {
			t.Fatalf("%s is no relation", name)
		}
		s |= 1 << i
	}
	return s
}

// words are the names of a set's relations.
func words(s int) string {
	var l []string
	for i, name := range relations() {
		if s>>i&1 == 1 {
			l = append(l, name)
		}
	}
	return strings.Join(l, " ")
}

// small are all spans, no points, of so many numbers. Six are enough for three spans to lie to each other in each way that there is: they have six ends.
func small(numbers int) []api.Span {
	var l []api.Span
	for from := range numbers {
		for to := from + 1; to < numbers; to++ {
			l = append(l, api.Span{From: from, To: to})
		}
	}
	return l
}

// lie is the set of the one relation that a has to b, by the words of span's chapter.
func lie(t *testing.T, a, b api.Span) int {
	t.Helper()
	l, e := span.All(a, b)
	if len(l) != 1 || e != api.OK {
		t.Fatalf("%v, %v: %v, %v", a, b, l, e)
	}
	return 1 << (l[0] - 1)
}

// lies are the sets of each two of some spans.
func lies(t *testing.T, spans []api.Span) [][]int {
	t.Helper()
	l := make([][]int, len(spans))
	for i, a := range spans {
		for _, b := range spans {
			l[i] = append(l[i], lie(t, a, b))
		}
	}
	return l
}

// shown is what small spans show: of each two relations (sets of one) all that the first one can have to the third.
func shown(t *testing.T) map[[2]int]int {
	t.Helper()
	known := map[[2]int]int{}
	l := lies(t, small(6))
	for a := range l {
		for b := range l {
			for c := range l {
				known[[2]int{l[a][b], l[b][c]}] |= l[a][c]
			}
		}
	}
	return known
}

// then is the second telling of Then.
func then(known map[[2]int]int, s, u int) int {
	x := 0
	for r := range 13 {
		for q := range 13 {
			if s>>r&1 == 1 && u>>q&1 == 1 {
				x |= known[[2]int{1 << r, 1 << q}]
			}
		}
	}
	return x
}

// dice are the same in each run.
type dice uint64

func (d *dice) next() int {
	*d = *d*6364136223846793005 + 1442695040888963407
	return int(*d >> 33)
}

// set is any one, many among them with few relations, and many with nearly all.
func (d *dice) set() int {
	x := d.next() & all
	switch d.next() % 4 {
	case 0:
		return x & d.next() & d.next()
	case 1:
		return (x | d.next() | d.next()) & all
	}
	return x
}

// These hold an answer to what it must be.

func thenIs(t *testing.T, s, u, want int) {
	t.Helper()
	if x, e := weave.Then(s, u); x != want || e != api.OK {
		t.Errorf("{%s} then {%s}: {%s}, %v, not {%s}", words(s), words(u), words(x), e, words(want))
	}
}

func turnIs(t *testing.T, s, want int) {
	t.Helper()
	if x, e := weave.Turn(s); x != want || e != api.OK {
		t.Errorf("{%s} turned: {%s}, %v, not {%s}", words(s), words(x), e, words(want))
	}
}

func setIs(t *testing.T, l []int, want int) {
	t.Helper()
	if s, e := weave.Set(l); s != want || e != api.OK {
		t.Errorf("the set of %v: %d, %v, not %d", l, s, e, want)
	}
}

func listIs(t *testing.T, s int, want []int) {
	t.Helper()
	if l, e := weave.List(s); !slices.Equal(l, want) || e != api.OK {
		t.Errorf("the list of %d: %v, %v, not %v", s, l, e, want)
	}
}

// P8.1: bit r - 1 for each relation r.
func TestBits(t *testing.T) {
	l := []int{api.RelBefore, api.RelMeets, api.RelOverlaps, api.RelStarts, api.RelDuring, api.RelEnds, api.RelEqual, api.RelEnded, api.RelHolds, api.RelStarted, api.RelOverlapped, api.RelMet, api.RelAfter}
	for i, r := range l {
		setIs(t, []int{r}, 1<<i)
		listIs(t, 1<<i, []int{r})
		if s := of(t, relations()[i]); s != 1<<i {
			t.Errorf("%s: %d", relations()[i], s)
		}
	}
	setIs(t, l, all)
	listIs(t, all, l)
	listIs(t, all-1, l[1:])
	listIs(t, all>>1, l[:12])
}

// P8.1: the sets of some relations: none, the same ones twice, in any order.
func TestSet(t *testing.T) {
	for _, c := range []struct {
		l    []int
		want int
	}{
		{nil, 0},
		{[]int{}, 0},
		{[]int{api.RelBefore, api.RelAfter}, 1<<12 | 1},
		{[]int{api.RelAfter, api.RelBefore}, 1<<12 | 1},
		{[]int{api.RelBefore, api.RelBefore}, 1},
		{[]int{api.RelAfter, api.RelAfter, api.RelAfter}, 1 << 12},
		{[]int{api.RelMeets, api.RelEqual, api.RelMeets}, 1<<6 | 1<<1},
		{slices.Repeat([]int{api.RelHolds, api.RelStarts}, 1<<16), 1<<8 | 1<<3},
	} {
		setIs(t, c.l, c.want)
	}
	listIs(t, 0, nil)
}

// P8.1: each set there and back, its List rising.
func TestEachSet(t *testing.T) {
	for s := range all + 1 {
		var want []int
		for r := api.RelBefore; r <= api.RelAfter; r++ {
			if s>>(r-1)&1 == 1 {
				want = append(want, r)
			}
		}
		listIs(t, s, want)
		setIs(t, want, s)
		slices.Reverse(want)
		setIs(t, want, s)
		setIs(t, append(want, want...), s)
	}
}

// P8.1: each relation turned as span turns it, and each set all of its own.
func TestTurn(t *testing.T) {
	for s := range all + 1 {
		want := 0
		for r := api.RelBefore; r <= api.RelAfter; r++ {
			if s>>(r-1)&1 == 1 {
				back, e := span.Turn(r)
				if e != api.OK {
					t.Fatal(r, e)
				}
				want |= 1 << (back - 1)
			}
		}
		turnIs(t, s, want)
		turnIs(t, want, s)
	}
	for _, c := range []struct{ s, want string }{
		{"", ""},
		{"before", "after"},
		{"met", "meets"},
		{"equal", "equal"},
		{"before starts equal", "equal started after"},
		{"overlaps during ends", "ended holds overlapped"},
		{words(all), words(all)},
	} {
		turnIs(t, of(t, c.s), of(t, c.want))
	}
}

// P8.1: two spans of which one has a relation of some set to the other, that has one of the set turned.
func TestTurnOfSpans(t *testing.T) {
	for _, a := range small(5) {
		for _, b := range small(5) {
			turnIs(t, lie(t, a, b), lie(t, b, a))
		}
	}
}

// P8.2: Then of each two relations is what all small spans show.
func TestThenOfRelations(t *testing.T) {
	known := shown(t)
	if len(known) != 13*13 {
		t.Errorf("of %d two relations something is shown", len(known))
	}
	for two, want := range known {
		thenIs(t, two[0], two[1], want)
	}
}

// P8.2: some of them by their names.
func TestThenNamed(t *testing.T) {
	lap := "overlaps starts during ends equal ended holds started overlapped"
	for _, c := range []struct{ s, u, want string }{
		{"before", "before", "before"},
		{"before", "after", words(all)},
		{"after", "before", words(all)},
		{"before", "during", "before meets overlaps starts during"},
		{"before", "holds", "before"},
		{"before", "met", "before meets overlaps starts during"},
		{"after", "during", "during ends overlapped met after"},
		{"meets", "meets", "before"},
		{"meets", "met", "ends equal ended"},
		{"met", "meets", "starts equal started"},
		{"meets", "overlapped", "overlaps starts during"},
		{"overlaps", "overlaps", "before meets overlaps"},
		{"overlaps", "overlapped", lap},
		{"overlapped", "overlaps", lap},
		{"overlaps", "during", "overlaps starts during"},
		{"overlaps", "holds", "before meets overlaps ended holds"},
		{"starts", "starts", "starts"},
		{"starts", "started", "starts equal started"},
		{"starts", "ended", "before meets overlaps"},
		{"ends", "ended", "ends equal ended"},
		{"ends", "started", "overlapped met after"},
		{"started", "ends", "overlapped"},
		{"ended", "starts", "overlaps"},
		{"during", "holds", words(all)},
		{"holds", "during", lap},
		{"during", "during", "during"},
		{"holds", "holds", "holds"},
		{"", "before", ""},
		{"before", "", ""},
		{"", "", ""},
		{"before meets", "before starts", "before meets"},
		{"starts ends", "started ended", "before meets overlaps starts ends equal ended started overlapped met after"},
		{"during equal", "meets equal", "before meets during equal"},
	} {
		thenIs(t, of(t, c.s), of(t, c.u), of(t, c.want))
	}
}

// P8.2: Then of sets has what Then of their relations has; that of the empty set is empty.
func TestThenOfSets(t *testing.T) {
	known := shown(t)
	d := dice(1)
	for range 4000 {
		s, u := d.set(), d.set()
		thenIs(t, s, u, then(known, s, u))
	}
	for s := range all + 1 {
		thenIs(t, s, 0, 0)
		thenIs(t, 0, s, 0)
	}
	thenIs(t, all, all, all)
	for r := range 13 {
		thenIs(t, all, 1<<r, then(known, all, 1<<r))
		thenIs(t, 1<<r, all, then(known, 1<<r, all))
	}
}

// noRelations and noSets are numbers of no relation, and of no set.
func noRelations() []int {
	return []int{api.RelNone, api.RelAfter + 1, -1, -api.RelEqual, -api.RelAfter, 15, 16, 17, 32, 33, 64, 65, 71, 256 + api.RelEqual, 1<<16 + api.RelEqual, 1<<32 + api.RelEqual, -1<<32 + api.RelEqual, math.MaxInt, math.MinInt}
}

func noSets() []int {
	return []int{-1, all + 1, -2, -all, -all - 1, all + 2, all * 2, 1 << 15, 1<<16 - 1, 1 << 16, 1<<16 + 64, 1 << 31, 1 << 32, 1<<32 + 64, -1<<32 + 64, -1 << 16, math.MaxInt, math.MinInt, math.MinInt + 64}
}

// P8.1: a number that is no relation's, alone and as one of many; the ends of all just met.
func TestNoRelations(t *testing.T) {
	for _, r := range noRelations() {
		for _, l := range [][]int{{r}, {r, r}, {r, 1, 2}, {1, r, 2}, {1, 2, r}, append(slices.Repeat([]int{7}, 1<<12), r)} {
			if s, e := weave.Set(l); s != 0 || e != api.ErrForm {
				t.Errorf("%v: %d, %v", l[len(l)-1:], s, e)
			}
		}
	}
	setIs(t, []int{api.RelBefore}, 1)
	setIs(t, []int{api.RelAfter}, 4096)
}

// P8.1, P8.2: a number that is no set's, as the first, as the second, as both; 0 and 8191 just met.
func TestNoSets(t *testing.T) {
	for _, s := range noSets() {
		if l, e := weave.List(s); len(l) != 0 || e != api.ErrForm {
			t.Errorf("List of %d: %v, %v", s, l, e)
		}
		if x, e := weave.Turn(s); x != 0 || e != api.ErrForm {
			t.Errorf("Turn of %d: %d, %v", s, x, e)
		}
		for _, u := range append(noSets(), 0, 1, 64, 4096, all) {
			if x, e := weave.Then(s, u); x != 0 || e != api.ErrForm {
				t.Errorf("%d then %d: %d, %v", s, u, x, e)
			}
			if x, e := weave.Then(u, s); x != 0 || e != api.ErrForm {
				t.Errorf("%d then %d: %d, %v", u, s, x, e)
			}
		}
	}
	for _, s := range []int{0, all} {
		_, e := weave.List(s)
		_, g := weave.Turn(s)
		_, h := weave.Then(s, s)
		if e != api.OK || g != api.OK || h != api.OK {
			t.Errorf("%d: %v, %v, %v", s, e, g, h)
		}
	}
}

// R2: what is handed in stays, and who writes into what is told, or behind it, changes nothing that is told later.
func TestOwnMemory(t *testing.T) {
	given := []int{3, 1, 3, 2, -1, -1}[:4]
	setIs(t, given, 7)
	if !slices.Equal(given[:6], []int{3, 1, 3, 2, -1, -1}) {
		t.Errorf("%v", given[:6])
	}
	first, _ := weave.List(all)
	second, _ := weave.List(all)
	first = append(first, 0)
	for i := range first[:cap(first)] {
		first[:cap(first)][i] = -1
	}
	if len(second) != 13 || second[0] != 1 || second[12] != 13 {
		t.Errorf("%v", second)
	}
	listIs(t, all, second)
}
