package weave_test

import (
	"math"
	"slices"
	"testing"

	"almagest/api"
	"almagest/weave"
)

const equal = 1 << (api.RelEqual - 1)

// open is the net of n spans that tells nothing.
func open(n int) []int {
	return slices.Repeat([]int{all}, n*n)
}

// row is a net of n spans, each two of which, one behind the other, have such a set; of the others nothing is told.
func row(n int, s int) []int {
	l := open(n)
	for i := range n - 1 {
		l[i*n+i+1] = s
	}
	return l
}

// with is l, one set changed.
func with(l []int, at int, s int) []int {
	x := slices.Clone(l)
	x[at] = s
	return x
}

func netIs(t *testing.T, n int, l, want []int) {
	t.Helper()
	if x, e := weave.Net(n, l); !slices.Equal(x, want) || e != api.OK {
		t.Errorf("%d, %v: %v, %v, not %v", n, l, x, e, want)
	}
}

func netFails(t *testing.T, n int, l []int, want api.Errno) {
	t.Helper()
	if x, e := weave.Net(n, l); len(x) != 0 || e != want {
		t.Errorf("%d, %v: %v, %v, not %v", n, l, x, e, want)
	}
}

// closed is the second telling of Net: nothing comes beside an empty set. It goes through all in another order, the others ahead of what is asked, and by what small spans show.
func closed(known map[[2]int]int, n int, l []int) []int {
	x := slices.Clone(l)
	for before := []int(nil); !slices.Equal(before, x); {
		before = slices.Clone(x)
		for k := n - 1; k >= 0; k-- {
			for j := range n {
				for i := range n {
					x[i*n+j] &= then(known, x[i*n+k], x[k*n+j])
				}
			}
		}
		for i := range n {
			x[i*n+i] &= equal
			for j := range n {
				x[i*n+j] &= back(x[j*n+i])
			}
		}
	}
	if slices.Contains(x, 0) {
		return nil
	}
	return x
}

// back is a set turned: the relations' numbers go the other way.
func back(s int) int {
	x := 0
	for r := range 13 {
		x |= s >> r & 1 << (12 - r)
	}
	return x
}

func netIsClosed(t *testing.T, known map[[2]int]int, n int, l []int) bool {
	t.Helper()
	want := closed(known, n, l)
	if want == nil {
		netFails(t, n, l, api.ErrBad)
		return false
	}
	netIs(t, n, l, want)
	return true
}

// P8.2: one span.
func TestNetOfOne(t *testing.T) {
	for s := range all + 1 {
		if s&equal == 0 {
			netFails(t, 1, []int{s}, api.ErrBad)
		} else {
			netIs(t, 1, []int{s}, []int{equal})
		}
	}
}

// P8.2: two spans: each has what the other one has, turned.
func TestNetOfTwo(t *testing.T) {
	for s := range all + 1 {
		if s == 0 {
			netFails(t, 2, []int{equal, 0, all, equal}, api.ErrBad)
			netFails(t, 2, []int{equal, all, 0, equal}, api.ErrBad)
			continue
		}
		want := []int{equal, s, back(s), equal}
		netIs(t, 2, want, want)
		netIs(t, 2, []int{all, s, all, all}, want)
		netIs(t, 2, []int{all, all, back(s), all}, want)
	}
	for _, c := range []struct{ there, back, left string }{
		{"before meets", "after holds", "before"},
		{"before meets", "met holds", "meets"},
		{"before equal", "after equal", "before equal"},
		{"before", "before", ""},
		{"before meets", "holds starts", ""},
		{"starts", "started starts", "starts"},
	} {
		s, u, left := of(t, c.there), of(t, c.back), of(t, c.left)
		if left == 0 {
			netFails(t, 2, []int{equal, s, u, equal}, api.ErrBad)
			continue
		}
		netIs(t, 2, []int{equal, s, u, equal}, []int{equal, left, back(left), equal})
	}
}

// P8.2: what three spans and more keep and lose.
func TestNetLoses(t *testing.T) {
	before, after, meets, met := of(t, "before"), of(t, "after"), of(t, "meets"), of(t, "met")
	netIs(t, 3, row(3, before), []int{equal, before, before, after, equal, before, after, after, equal})
	netIs(t, 3, row(3, meets), []int{equal, meets, before, met, equal, meets, after, met, equal})
	netIs(t, 4, row(4, meets), []int{
		equal, meets, before, before,
		met, equal, meets, before,
		after, met, equal, meets,
		after, after, met, equal,
	})
	during, holds := of(t, "during"), of(t, "holds")
	want := open(5)
	for i := range 5 {
		for j := range 5 {
			switch {
			case i < j:
				want[i*5+j] = during
			case i > j:
				want[i*5+j] = holds
			default:
				want[i*5+j] = equal
			}
		}
	}
	netIs(t, 5, row(5, during), want)
	// a meets b, as c does, so a and c end together.
	ends := of(t, "ends equal ended")
	netIs(t, 3, []int{all, meets, all, all, all, met, all, all, all}, []int{equal, meets, ends, met, equal, met, ends, meets, equal})
	// Something is lost of each of three sets.
	netIs(t, 3, []int{
		equal, of(t, "overlaps equal"), of(t, "before after"),
		all, equal, of(t, "overlaps starts"),
		all, all, equal,
	}, []int{
		equal, of(t, "overlaps"), before,
		of(t, "overlapped"), equal, of(t, "overlaps"),
		after, of(t, "overlapped"), equal,
	})
}

// P8.2: nets that lose nothing, and of which nothing is known: all but (i, i).
func TestNetKeeps(t *testing.T) {
	for n := 1; n <= 5; n++ {
		want := open(n)
		for i := range n {
			want[i*n+i] = equal
		}
		netIs(t, n, open(n), want)
		netIs(t, n, want, want)
		same := slices.Repeat([]int{equal}, n*n)
		netIs(t, n, same, same)
		netIs(t, n, row(n, equal), same)
	}
}

// P8.2: a set (i, i) without equal, or empty, wherever it stands; with equal it loses the others.
func TestNetOfItself(t *testing.T) {
	for n := 1; n <= 5; n++ {
		whole, _ := weave.Net(n, open(n))
		for i := range n {
			at := i*n + i
			for _, s := range []int{0, all &^ equal, 1, 4096, of(t, "starts started ends ended")} {
				netFails(t, n, with(open(n), at, s), api.ErrBad)
				netFails(t, n, with(whole, at, s), api.ErrBad)
			}
			for _, s := range []int{equal, all, equal | 1, equal | 4096} {
				netIs(t, n, with(open(n), at, s), whole)
			}
		}
	}
}

// P8.2: ErrBad of a set that is empty at once, wherever it stands.
func TestNetEmptyAtOnce(t *testing.T) {
	for n := 1; n <= 5; n++ {
		for at := range n * n {
			netFails(t, n, with(open(n), at, 0), api.ErrBad)
		}
		netFails(t, n, make([]int, n*n), api.ErrBad)
	}
}

// P8.2: ErrBad of sets that come to be empty by the others alone.
func TestNetEmptyByOthers(t *testing.T) {
	before, after := of(t, "before"), of(t, "after")
	netFails(t, 2, []int{equal, before, before, equal}, api.ErrBad)
	for n := 3; n <= 5; n++ {
		// Each is before the next one, and the last one before the first.
		netFails(t, n, with(row(n, before), (n-1)*n, before), api.ErrBad)
		netFails(t, n, with(row(n, before), n-1, after), api.ErrBad)
		netFails(t, n, with(row(n, before), n-1, all&^before), api.ErrBad)
		netFails(t, n, with(row(n, of(t, "during starts ends")), n-1, of(t, "holds equal")), api.ErrBad)
		netFails(t, n, with(row(n, equal), n-1, all&^equal), api.ErrBad)
	}
	// a meets b, and c does, but c is not at a's end.
	netFails(t, 3, []int{all, of(t, "meets"), of(t, "starts overlaps"), all, all, of(t, "met"), all, all, all}, api.ErrBad)
}

// P8.2: sets are lost by three spans each alone: a net that no spans have may keep all.
func TestNetByThree(t *testing.T) {
	l := hollow(t)
	netIs(t, 4, l, l)
}

// P8.2: any nets, of one to five spans, against the second telling.
func TestNetAny(t *testing.T) {
	known := shown(t)
	d := dice(2)
	for n := 1; n <= 5; n++ {
		kept, failed := 0, 0
		for range 1500 / n {
			l := open(n)
			for at := range l {
				if x := d.set(); d.next()%(n*n) < 4 {
					l[at] = x
				}
				if at/n == at%n && d.next()%8 > 0 {
					l[at] |= equal
				}
			}
			if netIsClosed(t, known, n, l) {
				kept++
			} else {
				failed++
			}
		}
		if kept < 30 || failed < 30 {
			t.Errorf("%d spans: of %d something is kept, of %d nothing", n, kept, failed)
		}
	}
}

// P8.2: n of 1 and 5 just met and one beyond, n times n sets, one more and one fewer.
func TestNetForms(t *testing.T) {
	for n := 1; n <= 5; n++ {
		if l, e := weave.Net(n, open(n)); len(l) != n*n || e != api.OK {
			t.Errorf("%d: %v, %v", n, l, e)
		}
		for sets := range 37 {
			if sets != n*n {
				netFails(t, n, slices.Repeat([]int{all}, sets), api.ErrForm)
				netFails(t, n, make([]int, sets), api.ErrForm)
			}
		}
		netFails(t, n, nil, api.ErrForm)
	}
	for _, n := range []int{0, 6, -1, -2, -5, 7, 100, 256, 1 << 16, 1 << 32, 1<<32 + 1, -1 << 32, 1<<32 + 2, math.MaxInt, math.MinInt, math.MinInt + 1} {
		for _, sets := range []int{0, 1, 4, 9, 25, 36, 49} {
			netFails(t, n, slices.Repeat([]int{equal}, sets), api.ErrForm)
		}
		netFails(t, n, nil, api.ErrForm)
	}
	netFails(t, 6, open(6), api.ErrForm)
	netFails(t, 100, open(100), api.ErrForm)
}

// P8.2: a number that is no set's, wherever it stands, ahead of an empty set.
func TestNetNoSets(t *testing.T) {
	for n := 1; n <= 5; n++ {
		for at := range n * n {
			for _, s := range noSets() {
				netFails(t, n, with(open(n), at, s), api.ErrForm)
				netFails(t, n, with(make([]int, n*n), at, s), api.ErrForm)
			}
		}
	}
}

// R2: what is handed in stays, be something lost of it or not, and who writes into what is told, or behind it, changes nothing else.
func TestNetOwnMemory(t *testing.T) {
	want := []int{equal, 1, 4096, equal}
	for _, given := range [][]int{{all, 1, all, all}, {equal, 1, 4096, equal}} {
		ahead := slices.Clone(given)
		first, _ := weave.Net(2, given)
		second, _ := weave.Net(2, given)
		first = append(first, 0)
		for i := range first[:cap(first)] {
			first[:cap(first)][i] = -1
		}
		if !slices.Equal(given, ahead) || !slices.Equal(second, want) {
			t.Errorf("%v, %v: %v", ahead, given, second)
		}
		netIs(t, 2, given, want)
	}
	bad := []int{all, 1, 1, all}
	netFails(t, 2, bad, api.ErrBad)
	if !slices.Equal(bad, []int{all, 1, 1, all}) {
		t.Errorf("%v", bad)
	}
}
