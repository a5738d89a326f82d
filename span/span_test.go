package span_test

import (
	"math"
	"slices"
	"strings"
	"testing"

	"almagest/api"
	"almagest/read"
	"almagest/span"
)

func of(from int, to int) api.Span { return api.Span{From: from, To: to} }

// relation is one of the thirteen as the chapter tells it, with two spans (no points) that lie so.
type relation struct {
	name   string
	turned string
	a, b   api.Span
	so     func(a, b api.Span) bool
}

// thirteen stand in the order of their numbers, RelBefore ahead of all.
func thirteen() []relation {
	before := func(a, b api.Span) bool { return a.To < b.From }
	meets := func(a, b api.Span) bool { return a.To == b.From }
	overlaps := func(a, b api.Span) bool { return a.From < b.From && b.From < a.To && a.To < b.To }
	starts := func(a, b api.Span) bool { return a.From == b.From && a.To < b.To }
	during := func(a, b api.Span) bool { return b.From < a.From && a.To < b.To }
	ends := func(a, b api.Span) bool { return a.To == b.To && b.From < a.From }
	equal := func(a, b api.Span) bool { return a == b }
	turn := func(so func(a, b api.Span) bool) func(a, b api.Span) bool {
		return func(a, b api.Span) bool { return so(b, a) }
	}
	return []relation{
		{"before", "after", of(-5, -3), of(-2, 3), before},
		{"meets", "met", of(-5, -2), of(-2, 3), meets},
		{"overlaps", "overlapped", of(-4, 1), of(-2, 3), overlaps},
		{"starts", "started", of(-2, 1), of(-2, 3), starts},
		{"during", "holds", of(-1, 2), of(-2, 3), during},
		{"ends", "ended", of(0, 3), of(-2, 3), ends},
		{"equal", "equal", of(-2, 3), of(-2, 3), equal},
		{"ended", "ends", of(-6, 3), of(-2, 3), turn(ends)},
		{"holds", "during", of(-4, 5), of(-2, 3), turn(during)},
		{"started", "starts", of(-2, 5), of(-2, 3), turn(starts)},
		{"overlapped", "overlaps", of(1, 7), of(-2, 3), turn(overlaps)},
		{"met", "meets", of(3, 5), of(-2, 3), turn(meets)},
		{"after", "before", of(4, 8), of(-2, 3), turn(before)},
	}
}

// numbered is the number that has such a name.
func numbered(name string) int {
	return api.RelBefore + slices.IndexFunc(thirteen(), func(r relation) bool { return r.name == name })
}

// small are all spans of small numbers, points among them.
func small() []api.Span {
	var l []api.Span
	for from := -4; from <= 4; from++ {
		for to := from; to <= 4; to++ {
			l = append(l, of(from, to))
		}
	}
	return l
}

// lies holds that just these relations are so, asked one by one and all told.
func lies(t *testing.T, a, b api.Span, want []int) {
	t.Helper()
	if l, e := span.All(a, b); e != api.OK || !slices.Equal(l, want) {
		t.Errorf("All of %v, %v: %v, %v, not %v", a, b, l, e, want)
	}
	for r := api.RelBefore; r <= api.RelAfter; r++ {
		if so, e := span.Is(r, a, b); e != api.OK || so != slices.Contains(want, r) {
			t.Errorf("%d of %v, %v: %v, %v", r, a, b, so, e)
		}
	}
}

// P7.1: the numbers stand as api has them.
func TestNumbers(t *testing.T) {
	l := []int{api.RelBefore, api.RelMeets, api.RelOverlaps, api.RelStarts, api.RelDuring, api.RelEnds, api.RelEqual, api.RelEnded, api.RelHolds, api.RelStarted, api.RelOverlapped, api.RelMet, api.RelAfter}
	for i, r := range thirteen() {
		if l[i] != numbered(r.name) {
			t.Errorf("%s is %d", r.name, l[i])
		}
	}
}

// P7.1: two spans that lie in each of the thirteen ways, and no other.
func TestEach(t *testing.T) {
	for _, r := range thirteen() {
		lies(t, r.a, r.b, []int{numbered(r.name)})
		lies(t, r.b, r.a, []int{numbered(r.turned)})
	}
	lies(t, of(1, 2), of(3, 4), []int{api.RelBefore})
}

// P7.1: of each two small spans just those relations that the chapter's words tell.
func TestSmall(t *testing.T) {
	all := thirteen()
	for _, a := range small() {
		for _, b := range small() {
			var want []int
			for i, r := range all {
				if r.so(a, b) {
					want = append(want, api.RelBefore+i)
				}
			}
			lies(t, a, b, want)
		}
	}
}

// P7.1: points lie in several ways.
func TestPoints(t *testing.T) {
	for _, c := range []struct {
		a, b api.Span
		want string
	}{
		{of(2, 2), of(2, 2), "meets equal met"},
		{of(0, 0), of(0, 0), "meets equal met"},
		{of(-1, -1), of(0, 0), "before"},
		{of(0, 0), of(-1, -1), "after"},
		{of(0, 0), of(1, 3), "before"},
		{of(1, 1), of(1, 3), "meets starts"},
		{of(2, 2), of(1, 3), "during"},
		{of(3, 3), of(1, 3), "ends met"},
		{of(4, 4), of(1, 3), "after"},
		{of(1, 3), of(0, 0), "after"},
		{of(1, 3), of(1, 1), "started met"},
		{of(1, 3), of(2, 2), "holds"},
		{of(1, 3), of(3, 3), "meets ended"},
		{of(1, 3), of(4, 4), "before"},
		{of(-api.MaxNum, -api.MaxNum), of(-api.MaxNum, -api.MaxNum), "meets equal met"},
		{of(api.MaxNum, api.MaxNum), of(api.MaxNum, api.MaxNum), "meets equal met"},
		{of(api.MaxNum, api.MaxNum), of(-api.MaxNum, -api.MaxNum), "after"},
	} {
		var want []int
		for _, name := range strings.Fields(c.want) {
			want = append(want, numbered(name))
		}
		lies(t, c.a, c.b, want)
	}
}

// P7.1: numbers far from each other are held against each other as near ones are.
func TestFar(t *testing.T) {
	const most = api.MaxNum
	for _, c := range []struct {
		a, b api.Span
		want int
	}{
		{of(-most, most), of(-most, most), api.RelEqual},
		{of(-most, most-1), of(-most, most), api.RelStarts},
		{of(-most+1, most), of(-most, most), api.RelEnds},
		{of(-most+1, most-1), of(-most, most), api.RelDuring},
		{of(-most, most-1), of(-most+1, most), api.RelOverlaps},
		{of(-most, 0), of(0, most), api.RelMeets},
		{of(-most, -1), of(0, most), api.RelBefore},
		{of(-most, -most+1), of(most-1, most), api.RelBefore},
	} {
		lies(t, c.a, c.b, []int{c.want})
		lies(t, c.b, c.a, []int{numbered(thirteen()[c.want-api.RelBefore].turned)})
	}
}

// P7.1: from the lesser From to the greater To, of spans that lie in each of the thirteen ways, and of points.
func TestHull(t *testing.T) {
	const most = api.MaxNum
	hulls := []api.Span{of(-5, 3), of(-5, 3), of(-4, 3), of(-2, 3), of(-2, 3), of(-2, 3), of(-2, 3), of(-6, 3), of(-4, 5), of(-2, 5), of(-2, 7), of(-2, 5), of(-2, 8)}
	type pair struct{ a, b, want api.Span }
	l := []pair{
		{of(0, 0), of(0, 0), of(0, 0)},
		{of(-1, -1), of(1, 1), of(-1, 1)},
		{of(2, 2), of(1, 3), of(1, 3)},
		{of(-most, -most), of(most, most), of(-most, most)},
		{of(-most, most), of(0, 1), of(-most, most)},
		{of(most, most), of(most, most), of(most, most)},
	}
	for i, r := range thirteen() {
		l = append(l, pair{r.a, r.b, hulls[i]})
	}
	for _, c := range l {
		if h, e := span.Hull(c.a, c.b); h != c.want || e != api.OK {
			t.Errorf("%v, %v: %v, %v", c.a, c.b, h, e)
		}
		if h, e := span.Hull(c.b, c.a); h != c.want || e != api.OK {
			t.Errorf("%v, %v: %v, %v", c.b, c.a, h, e)
		}
	}
	for _, a := range small() {
		for _, b := range small() {
			if h, e := span.Hull(a, b); h != of(min(a.From, b.From), max(a.To, b.To)) || e != api.OK {
				t.Errorf("%v, %v: %v, %v", a, b, h, e)
			}
		}
	}
}

// P7.1: each relation's name, which one each name names, and which one it is turned round.
func TestNames(t *testing.T) {
	for i, r := range thirteen() {
		n := api.RelBefore + i
		if s, e := span.Name(n); s != r.name || e != api.OK {
			t.Errorf("the name of %d: %q, %v", n, s, e)
		}
		if x, e := span.Of(r.name); x != n || e != api.OK {
			t.Errorf("%s: %d, %v", r.name, x, e)
		}
		if x, e := span.Turn(n); x != numbered(r.turned) || e != api.OK {
			t.Errorf("%s turned: %d, %v", r.name, x, e)
		}
		if p, _, e := read.Pattern("a @" + r.name + " b"); p.Rel != n || e != api.OK {
			t.Errorf("%s is read as %d, %v", r.name, p.Rel, e)
		}
	}
}

// nobody is no relation's name.
func nobody(t *testing.T, s string) {
	t.Helper()
	if r, e := span.Of(s); r != 0 || e != api.ErrNone {
		t.Errorf("%q: %d, %v", s, r, e)
	}
}

// P7.1: texts that name no relation.
func TestNobody(t *testing.T) {
	all := thirteen()
	named := func(s string) bool {
		return slices.ContainsFunc(all, func(r relation) bool { return r.name == s })
	}
	for _, s := range []string{"", " ", "\x00", "a", "none", "finishes", "contains", "1", "13", "be fore", strings.Repeat("a", api.MaxName), strings.Repeat("a", api.MaxName+1), strings.Repeat("before", 1<<16)} {
		nobody(t, s)
	}
	for _, r := range all {
		nobody(t, strings.ToUpper(r.name))
		nobody(t, "@"+r.name)
		for i := range len(r.name) {
			nobody(t, r.name[:i]+strings.ToUpper(r.name[i:i+1])+r.name[i+1:])
			if short := r.name[:i]; !named(short) {
				nobody(t, short)
			}
			if rest := r.name[i+1:]; !named(rest) {
				nobody(t, rest)
			}
		}
		for b := range 256 {
			if s := r.name + string([]byte{byte(b)}); !named(s) {
				nobody(t, s)
			}
			nobody(t, string([]byte{byte(b)})+r.name)
		}
		for _, more := range []int{api.MaxName, api.MaxName + 1, 256, 256 + len(r.name), 1 << 16} {
			for _, c := range []string{"\x00", " ", "s"} {
				nobody(t, r.name+strings.Repeat(c, more-len(r.name)))
			}
		}
		for _, other := range all {
			nobody(t, r.name+other.name)
		}
	}
}

// good are spans up to each limit, bad those beyond one.
func good() []api.Span {
	const most = api.MaxNum
	return append(small(), of(-most, most), of(-most, -most), of(most, most), of(-most, 0), of(0, most))
}

func bad() []api.Span {
	const most = api.MaxNum
	return []api.Span{
		of(1, 0), of(0, -1), of(3, -3), of(-3, -4), of(most, -most), of(most, most-1), of(-most+1, -most),
		of(-most-1, 0), of(-most-1, -most), of(-most-1, most), of(-most-1, -most-1),
		of(0, most+1), of(most, most+1), of(-most, most+1), of(most+1, most+1), of(-most-1, most+1),
		of(most+1, 0), of(0, -most-1), of(most+1, -most-1), of(most+1, most), of(-most, -most-1),
		of(math.MinInt, 0), of(0, math.MaxInt), of(math.MinInt, math.MaxInt), of(math.MaxInt, math.MinInt), of(math.MinInt, math.MinInt), of(math.MaxInt, math.MaxInt),
		of(-1<<32, 0), of(0, 1<<32), of(1<<32, 1<<32), of(-1<<31, 0), of(0, 1<<31),
	}
}

// P7.1: spans that may be, and such as may not.
func TestCheck(t *testing.T) {
	for _, a := range good() {
		if e := span.Check(a); e != api.OK {
			t.Errorf("%v: %v", a, e)
		}
	}
	for _, a := range bad() {
		if e := span.Check(a); e != api.ErrForm {
			t.Errorf("%v: %v", a, e)
		}
	}
}

// refused holds that two spans are of no form to any call.
func refused(t *testing.T, a, b api.Span) {
	t.Helper()
	for r := api.RelBefore; r <= api.RelAfter; r++ {
		notSo(t, r, a, b)
	}
	if l, e := span.All(a, b); len(l) != 0 || e != api.ErrForm {
		t.Errorf("All of %v, %v: %v, %v", a, b, l, e)
	}
	if h, e := span.Hull(a, b); h != of(0, 0) || e != api.ErrForm {
		t.Errorf("Hull of %v, %v: %v, %v", a, b, h, e)
	}
}

func notSo(t *testing.T, r int, a, b api.Span) {
	t.Helper()
	if so, e := span.Is(r, a, b); so || e != api.ErrForm {
		t.Errorf("%d of %v, %v: %v, %v", r, a, b, so, e)
	}
}

// P7.1: spans that may not be, as the first, as the second, and as both.
func TestBadSpans(t *testing.T) {
	for _, a := range bad() {
		for _, b := range good() {
			refused(t, a, b)
			refused(t, b, a)
		}
		for _, b := range bad() {
			refused(t, a, b)
		}
	}
}

// P7.1: numbers that are no relation's; RelBefore and RelAfter just met.
func TestBadRelations(t *testing.T) {
	for _, r := range []int{api.RelNone, api.RelAfter + 1, -1, -api.RelEqual, -api.RelAfter, 15, 16, 17, 256 + api.RelEqual, 1<<32 + api.RelEqual, math.MaxInt, math.MinInt} {
		for _, a := range good() {
			notSo(t, r, a, a)
			notSo(t, r, a, of(0, 1))
		}
		notSo(t, r, of(1, 0), of(0, 1))
		notSo(t, r, of(0, 1), of(1, 0))
		if s, e := span.Name(r); s != "" || e != api.ErrForm {
			t.Errorf("the name of %d: %q, %v", r, s, e)
		}
		if x, e := span.Turn(r); x != 0 || e != api.ErrForm {
			t.Errorf("%d turned: %d, %v", r, x, e)
		}
	}
	for _, c := range []struct {
		r, turned int
		name      string
		a, b      api.Span
	}{
		{api.RelBefore, api.RelAfter, "before", of(0, 1), of(2, 3)},
		{api.RelAfter, api.RelBefore, "after", of(2, 3), of(0, 1)},
	} {
		if so, e := span.Is(c.r, c.a, c.b); !so || e != api.OK {
			t.Errorf("%s: %v, %v", c.name, so, e)
		}
		if s, e := span.Name(c.r); s != c.name || e != api.OK {
			t.Errorf("%s: %q, %v", c.name, s, e)
		}
		if x, e := span.Turn(c.r); x != c.turned || e != api.OK {
			t.Errorf("%s: %d, %v", c.name, x, e)
		}
	}
}

// R2: who writes into what is told, or behind it, changes nothing that is told later.
func TestOwnMemory(t *testing.T) {
	a := of(1, 1)
	first, _ := span.All(a, a)
	second, _ := span.All(a, a)
	for i := range first {
		first[i] = -1
	}
	first = append(first, -1)
	for i := range first[:cap(first)] {
		first[:cap(first)][i] = -1
	}
	want := []int{api.RelMeets, api.RelEqual, api.RelMet}
	if !slices.Equal(second, want) {
		t.Errorf("%v", second)
	}
	lies(t, a, a, want)
}
