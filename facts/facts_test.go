package facts_test

import (
	"cmp"
	"math"
	"slices"
	"strings"
	"testing"

	"almagest/api"
	"almagest/facts"
)

func variable(name string) api.Term { return api.Term{Kind: api.TermVar, Name: name} }

func number(n int) api.Term { return api.Term{Kind: api.TermNum, N: n} }

func named(name string, args ...api.Term) api.Term {
	return api.Term{Kind: api.TermName, Name: name, Args: args}
}

func fact(t api.Term, from, to int) api.Fact {
	return api.Fact{Term: t, Span: api.Span{From: from, To: to}}
}

// at is a fact of a name alone, and of no time to speak of.
func at(t api.Term) api.Fact { return fact(t, 3, 5) }

// good is a fact that no other test has.
func good() api.Fact { return fact(named("good", number(1), named("g")), 7, 9) }

// listed numbers facts from 0 on.
func listed(l ...api.Fact) []api.Kept {
	var x []api.Kept
	for i, f := range l {
		x = append(x, api.Kept{Seq: i, Fact: f})
	}
	return x
}

// many are so many facts, no two alike, whose order is not that of their Seqs.
func many(n int) []api.Kept {
	var x []api.Kept
	for i := range n {
		x = append(x, api.Kept{Seq: i, Fact: fact(named("m", number(i^85)), i*3%11, 20)})
	}
	return x
}

func sameTerm(a, b api.Term) bool {
	return a.Kind == b.Kind && a.Name == b.Name && a.N == b.N && slices.EqualFunc(a.Args, b.Args, sameTerm)
}

func sameFact(a, b api.Fact) bool { return sameTerm(a.Term, b.Term) && a.Span == b.Span }

func sameKept(a, b api.Kept) bool { return a.Seq == b.Seq && sameFact(a.Fact, b.Fact) }

func sameList(a, b []api.Kept) bool { return slices.EqualFunc(a, b, sameKept) }

// tower is so many names within each other, core the innermost.
func tower(deep int, core api.Term) api.Term {
	for range deep - 1 {
		core = named("t", core)
	}
	return core
}

// bush has just so many terms (6 to 25), and is at most 4 deep; core is its last one.
func bush(size int, core api.Term) api.Term {
	left := size - 5
	t := named("b")
	for range 4 {
		k := min(left, 4)
		left -= k
		x := named("c")
		for range k {
			x.Args = append(x.Args, number(k))
		}
		t.Args = append(t.Args, x)
	}
	for i := range left {
		t.Args[0].Args[i] = named("d", number(0))
	}
	for x := &t; ; x = &x.Args[len(x.Args)-1] {
		if len(x.Args) == 0 {
			*x = core
			return t
		}
	}
}

// taken holds each call with f against OK.
func taken(t *testing.T, what string, f api.Fact) {
	t.Helper()
	if e := facts.May(f); e != api.OK {
		t.Errorf("%s: May: %v", what, e)
	}
	if c, e := facts.Order(f, f); c != 0 || e != api.OK {
		t.Errorf("%s: Order: %v, %v", what, c, e)
	}
	if c, e := facts.Order(f, good()); c == 0 || e != api.OK {
		t.Errorf("%s: Order, first: %v, %v", what, c, e)
	}
	if c, e := facts.Order(good(), f); c == 0 || e != api.OK {
		t.Errorf("%s: Order, second: %v, %v", what, c, e)
	}
	if n, e := facts.Find(nil, f); n != 0 || e != api.ErrNone {
		t.Errorf("%s: Find: %v, %v", what, n, e)
	}
	if l, e := facts.Add(listed(good()), 1, f); !sameList(l, listed(good(), f)) || e != api.OK {
		t.Errorf("%s: Add: %v, %v", what, l, e)
	}
	l := listed(f, good())
	if e := facts.Check(l); e != api.OK {
		t.Errorf("%s: Check: %v", what, e)
	}
	if n, e := facts.Find(l, good()); n != 1 || e != api.OK {
		t.Errorf("%s: Find in a list: %v, %v", what, n, e)
	}
	if x, e := facts.Since(l, math.MinInt); !sameList(x, l) || e != api.OK {
		t.Errorf("%s: Since: %v, %v", what, x, e)
	}
	if x, e := facts.Named(l, f.Term.Name, len(f.Term.Args)); !sameList(x, l[:1]) || e != api.OK {
		t.Errorf("%s: Named: %v, %v", what, x, e)
	}
	if x, e := facts.Sorted(l); len(x) != 2 || e != api.OK {
		t.Errorf("%s: Sorted: %v, %v", what, x, e)
	}
}

// refused holds each call with f, wherever it stands, against ErrForm, beside it the zero value.
func refused(t *testing.T, what string, f api.Fact) {
	t.Helper()
	if e := facts.May(f); e != api.ErrForm {
		t.Errorf("%s: May: %v", what, e)
	}
	for i, two := range [][2]api.Fact{{f, good()}, {good(), f}, {f, f}} {
		if c, e := facts.Order(two[0], two[1]); c != 0 || e != api.ErrForm {
			t.Errorf("%s: Order, %d: %v, %v", what, i, c, e)
		}
	}
	for i, l := range [][]api.Kept{nil, listed(good()), many(20), many(api.MaxFacts)} {
		if n, e := facts.Find(l, f); n != 0 || e != api.ErrForm {
			t.Errorf("%s: Find in list %d: %v, %v", what, i, n, e)
		}
		if x, e := facts.Add(l, api.MaxNum, f); len(x) != 0 || e != api.ErrForm {
			t.Errorf("%s: Add to list %d: %v, %v", what, i, x, e)
		}
	}
	listRefused(t, what+", alone", listed(f))
	listRefused(t, what+", twice", listed(f, f))
	for _, i := range []int{0, 1, 10, 19} {
		l := many(20)
		l[i].Fact = f
		listRefused(t, what+" in a list", l)
	}
}

// listRefused holds each call with l against ErrForm, beside it the zero value.
func listRefused(t *testing.T, what string, l []api.Kept) {
	t.Helper()
	if e := facts.Check(l); e != api.ErrForm {
		t.Errorf("%s: Check: %v", what, e)
	}
	for _, f := range []api.Fact{good(), many(1)[0].Fact} {
		if n, e := facts.Find(l, f); n != 0 || e != api.ErrForm {
			t.Errorf("%s: Find: %v, %v", what, n, e)
		}
		for _, n := range []int{0, 5, api.MaxFacts + 5, api.MaxNum} {
			if x, e := facts.Add(l, n, f); len(x) != 0 || e != api.ErrForm {
				t.Errorf("%s: Add: %v, %v", what, x, e)
			}
		}
	}
	for _, n := range []int{math.MinInt, 5, math.MaxInt} {
		if x, e := facts.Since(l, n); len(x) != 0 || e != api.ErrForm {
			t.Errorf("%s: Since: %v, %v", what, x, e)
		}
		if x, e := facts.Named(l, "m", n); len(x) != 0 || e != api.ErrForm {
			t.Errorf("%s: Named: %v, %v", what, x, e)
		}
	}
	if x, e := facts.Named(l, "m", 1); len(x) != 0 || e != api.ErrForm {
		t.Errorf("%s: Named: %v, %v", what, x, e)
	}
	if x, e := facts.Sorted(l); len(x) != 0 || e != api.ErrForm {
		t.Errorf("%s: Sorted: %v, %v", what, x, e)
	}
}

// P9.1: each limit of a fact, just met and one beyond.
func TestLimits(t *testing.T) {
	const most = api.MaxNum
	long := strings.Repeat("x", api.MaxName-1)
	args := []api.Term{number(1), number(2), number(3), number(4), number(5)}
	for _, c := range []struct {
		what      string
		met, over api.Fact
	}{
		{"MaxName", at(named("a" + long)), at(named("a" + long + "x"))},
		{"MaxName within", at(named("a", named("a"+long))), at(named("a", named("a"+long+"x")))},
		{"MaxNum", at(named("a", number(most))), at(named("a", number(most+1)))},
		{"MaxNum below 0", at(named("a", number(-most))), at(named("a", number(-most-1)))},
		{"MaxArgs", at(named("a", args[:4]...)), at(named("a", args...))},
		{"MaxArgs within", at(named("a", named("a", args[:4]...))), at(named("a", named("a", args...)))},
		{"MaxDepth of names", at(tower(api.MaxDepth, named("a"))), at(tower(api.MaxDepth+1, named("a")))},
		{"MaxDepth of a number", at(tower(api.MaxDepth, number(1))), at(tower(api.MaxDepth+1, number(1)))},
		{"MaxSize", at(bush(api.MaxSize, number(1))), at(bush(api.MaxSize+1, number(1)))},
		{"From at To", fact(named("a"), 4, 4), fact(named("a"), 5, 4)},
		{"From and To at 0", fact(named("a"), 0, 0), fact(named("a"), 1, 0)},
		{"From below all", fact(named("a"), -most, 0), fact(named("a"), -most-1, 0)},
		{"both below all", fact(named("a"), -most, -most), fact(named("a"), -most-1, -most-1)},
		{"To above all", fact(named("a"), 0, most), fact(named("a"), 0, most+1)},
		{"both above all", fact(named("a"), most, most), fact(named("a"), most+1, most+1)},
		{"all there is", fact(named("a"), -most, most), fact(named("a"), most, -most)},
	} {
		taken(t, c.what, c.met)
		refused(t, c.what, c.over)
	}
}

// P9.1: a term must be a name, and ground; and term and span must be of their form.
func TestWrongForms(t *testing.T) {
	one := []api.Term{number(1)}
	for _, c := range []struct {
		what string
		f    api.Fact
	}{
		{"nothing", api.Fact{}},
		{"no term", at(api.Term{})},
		{"a variable", at(variable("X"))},
		{"a number", at(number(1))},
		{"a number 0", at(number(0))},
		{"a variable as the first one", at(named("a", variable("X"), number(1)))},
		{"a variable as the last one", at(named("a", number(1), number(1), number(1), variable("X")))},
		{"a variable deep within", at(tower(api.MaxDepth, variable("X")))},
		{"a variable at the end of many", at(bush(api.MaxSize, variable("X")))},
		{"no kind", at(api.Term{Name: "a"})},
		{"a kind above", at(api.Term{Kind: 4, Name: "a"})},
		{"a kind below", at(api.Term{Kind: -1, Name: "a"})},
		{"a kind beyond a byte", at(api.Term{Kind: 256 + api.TermName, Name: "a"})},
		{"a name without letters", at(named(""))},
		{"a variable as a name", at(named("A"))},
		{"a name as a variable", at(named("a", variable("x")))},
		{"a name with N", at(api.Term{Kind: api.TermName, Name: "a", N: 1})},
		{"a number with a Name", at(named("a", api.Term{Kind: api.TermNum, Name: "b", N: 1}))},
		{"a number with Args", at(named("a", api.Term{Kind: api.TermNum, N: 1, Args: one}))},
		{"nothing within", at(named("a", number(1), api.Term{}))},
		{"a byte 0", at(named("a\x00"))},
		{"a byte that is no letter", at(named("a\xff"))},
		{"the greatest number", at(named("a", number(math.MaxInt)))},
		{"the least number", at(named("a", number(math.MinInt)))},
		{"a From beyond a word", fact(named("a"), 1<<32, 1<<32+1)},
		{"the least From", fact(named("a"), math.MinInt, 0)},
		{"the greatest To", fact(named("a"), 0, math.MaxInt)},
		{"all numbers", fact(named("a"), math.MinInt, math.MaxInt)},
		{"the wrong way round", fact(named("a"), 1, -1)},
		{"neither term nor span", fact(variable("X"), 2, 1)},
	} {
		refused(t, c.what, c.f)
	}
}

// R1: terms within themselves, or of more parts than can be gone through, are refused; so are lists of any length.
func TestEnds(t *testing.T) {
	ring := []api.Term{named("a")}
	ring[0].Args = ring
	refused(t, "within itself", at(ring[0]))
	refused(t, "around one within itself", at(named("a", ring...)))
	wide := named("a")
	for range 5000 {
		wide = named("a", wide, wide, wide, wide)
	}
	refused(t, "shared parts", at(wide))
	refused(t, "many Args", at(named("a", make([]api.Term, 1<<20)...)))
	refused(t, "a long name", at(named(strings.Repeat("a", 1<<24))))
	refused(t, "a deep one", at(tower(1<<16-2, number(1))))
	listRefused(t, "a long list", many(1<<16))
	listRefused(t, "a long list of nothing", make([]api.Kept, 1<<20))
	l := make([]api.Kept, api.MaxFacts)
	for i := range l {
		l[i] = api.Kept{Seq: i, Fact: at(wide)}
	}
	listRefused(t, "many of shared parts", l)
}

// R2: a nil list and an empty one are one.
func TestEmptyArgs(t *testing.T) {
	none := api.Term{Kind: api.TermName, Name: "a", Args: []api.Term{}}
	f, g := at(named("f", named("a"), number(2))), at(named("f", none, api.Term{Kind: api.TermNum, N: 2, Args: []api.Term{}}))
	taken(t, "empty Args", g)
	taken(t, "empty Args of all", at(none))
	if c, e := facts.Order(f, g); c != 0 || e != api.OK {
		t.Errorf("Order: %v, %v", c, e)
	}
	if n, e := facts.Find(listed(good(), f), g); n != 1 || e != api.OK {
		t.Errorf("Find: %v, %v", n, e)
	}
	if n, e := facts.Find(listed(good(), g), f); n != 1 || e != api.OK {
		t.Errorf("Find: %v, %v", n, e)
	}
	if l, e := facts.Add(listed(g), 1, f); len(l) != 0 || e != api.ErrBad {
		t.Errorf("Add: %v, %v", l, e)
	}
	listRefused(t, "both", listed(f, g))
}

// rising are facts by Order: terms, then From, then To.
func rising() []api.Fact {
	a, z := named("a"), named("z")
	fn := func(l ...api.Term) api.Term { return named("f", l...) }
	return []api.Fact{
		fact(a, -api.MaxNum, -api.MaxNum), fact(a, -api.MaxNum, api.MaxNum), fact(a, -1, -1), fact(a, -1, 0), fact(a, -1, 9), fact(a, 0, 0), fact(a, 0, 1), fact(a, 1, 1), fact(a, 1, 256), fact(a, 2, 2), fact(a, 256, 256), fact(a, api.MaxNum, api.MaxNum),
		fact(named("a0"), 0, 0), fact(named("aA"), -5, 0), fact(named("a_"), -7, 0), fact(named("aa"), -9, 0), fact(named("aaaaaaaa"), -11, 0), fact(named("aaaaaaaaaaaaaaaa"), -12, 0), fact(named("aaaaaaaaaaaaaaab"), -13, 0), fact(named("aaaaaaab"), -14, 0),
		fact(z, -20, 0), fact(z, -20, 1), fact(z, -19, -19),
		fact(named("a", number(-1)), -30, 0), fact(named("a", number(5)), -40, 0), fact(named("a", a), -50, 0), fact(named("a", z), -60, 0), fact(named("a", named("a", a)), -70, 0),
		fact(fn(number(1)), -80, 0), fact(fn(number(1)), -80, 2), fact(fn(number(1)), -79, 1), fact(fn(number(2)), -90, 0), fact(fn(number(256)), -95, 0),
		fact(fn(number(1), z), -100, 0), fact(fn(number(2), a), -110, 0), fact(fn(a, number(0)), -120, 0), fact(fn(a, z), -130, 0), fact(fn(z, a), -140, 0),
		fact(fn(a, a, a), -150, 0), fact(fn(a, a, a, a), -160, 0),
	}
}

// P9.1: facts as they rise, both ways round, and each alike with itself.
func TestOrder(t *testing.T) {
	l := rising()
	for i, a := range l {
		for k, b := range l {
			if c, e := facts.Order(a, b); c != cmp.Compare(i, k) || e != api.OK {
				t.Errorf("%v, %v: %v, %v", a, b, c, e)
			}
		}
	}
}

// P9.1: which Seqs a list may have.
func TestSeqs(t *testing.T) {
	const most = api.MaxNum
	f := rising()
	for _, c := range []struct {
		seqs []int
		e    api.Errno
	}{
		{nil, api.OK},
		{[]int{0}, api.OK},
		{[]int{1}, api.OK},
		{[]int{-1}, api.ErrForm},
		{[]int{math.MinInt}, api.ErrForm},
		{[]int{most}, api.OK},
		{[]int{most - 1, most}, api.OK},
		{[]int{most, most + 1}, api.OK},
		{[]int{math.MaxInt}, api.OK},
		{[]int{math.MaxInt, math.MaxInt}, api.ErrForm},
		{[]int{math.MaxInt, math.MinInt}, api.ErrForm},
		{[]int{0, math.MaxInt}, api.OK},
		{[]int{0, 1, 2, 3}, api.OK},
		{[]int{3, 7, 8, 100}, api.OK},
		{[]int{0, 0}, api.ErrForm},
		{[]int{1, 0}, api.ErrForm},
		{[]int{0, -1}, api.ErrForm},
		{[]int{-1, 0}, api.ErrForm},
		{[]int{-2, -1}, api.ErrForm},
		{[]int{0, 1, 2, 2}, api.ErrForm},
		{[]int{0, 1, 3, 2}, api.ErrForm},
		{[]int{0, 2, 1, 3}, api.ErrForm},
		{[]int{1, 0, 2, 3}, api.ErrForm},
		{[]int{5, 6, 7, 0}, api.ErrForm},
		{[]int{0, 1 << 32, 1}, api.ErrForm},
	} {
		var l []api.Kept
		for k, seq := range c.seqs {
			l = append(l, api.Kept{Seq: seq, Fact: f[k]})
		}
		if c.e != api.OK {
			listRefused(t, "Seqs", l)
			continue
		}
		listTaken(t, l)
	}
}

// listTaken holds what each call tells of a list that may be.
func listTaken(t *testing.T, l []api.Kept) {
	t.Helper()
	if e := facts.Check(l); e != api.OK {
		t.Errorf("%v: Check: %v", l, e)
	}
	for _, k := range l {
		if n, e := facts.Find(l, k.Fact); n != k.Seq || e != api.OK {
			t.Errorf("%v: Find: %v, %v", k, n, e)
		}
	}
	if n, e := facts.Find(l, good()); n != 0 || e != api.ErrNone {
		t.Errorf("%v: Find: %v, %v", l, n, e)
	}
	if x, e := facts.Since(l, math.MinInt); !sameList(x, l) || e != api.OK {
		t.Errorf("%v: Since: %v, %v", l, x, e)
	}
	if x, e := facts.Since(l, math.MaxInt); len(x) != 0 || e != api.OK {
		t.Errorf("%v: Since: %v, %v", l, x, e)
	}
	if x, e := facts.Named(l, "good", 2); len(x) != 0 || e != api.OK {
		t.Errorf("%v: Named: %v, %v", l, x, e)
	}
	if x, e := facts.Sorted(l); len(x) != len(l) || e != api.OK {
		t.Errorf("%v: Sorted: %v, %v", l, x, e)
	}
}

// P9.1: as many as MaxFacts may be, one more may not.
func TestHowMany(t *testing.T) {
	for _, n := range []int{0, 1, 2, api.MaxFacts - 1, api.MaxFacts} {
		listTaken(t, many(n))
	}
	listTaken(t, nil)
	listTaken(t, []api.Kept{})
	listRefused(t, "one more", many(api.MaxFacts+1))
	listRefused(t, "twice as many", many(2*api.MaxFacts))
}

// unlike are facts each two of which differ in one place, or in how their parts stand.
func unlike() []api.Fact {
	a, b := named("a"), named("b")
	l := []api.Fact{
		fact(a, 3, 5), fact(a, 3, 6), fact(a, 4, 5), fact(a, 5, 5), fact(a, 3, 3), fact(a, -3, 5), fact(a, -5, -3), fact(a, 3, 1<<20+5), fact(a, 4, 6),
		at(named("f", a)), at(named("f", a, a)), at(named("f", number(0))), at(named("f", number(0), number(0))), at(named("f", a, number(0))), at(named("f", number(0), a)), at(named("f", a, number(1))),
		at(named("f", named("g", a), b)), at(named("f", named("g"), named("a", b))), at(named("f", named("g", a, b))), at(named("f", named("g"), a, b)), at(named("f", named("g", named("a", b)))), at(named("f", b, named("g", a))),
		at(named("g", named("f", a), b)), at(named("f", named("g", b), a)),
		at(bush(api.MaxSize, number(1))), at(bush(api.MaxSize, number(2))), at(bush(api.MaxSize, a)), at(bush(api.MaxSize, b)), at(bush(api.MaxSize-1, number(1))),
	}
	for i := range 30 {
		l = append(l, at(named("n", number(1<<i))), at(named("n", number(-1<<i))))
	}
	l = append(l, at(named("n", number(api.MaxNum))), at(named("n", number(-api.MaxNum))), at(named("n", number(0))))
	long := "c" + strings.Repeat("x", api.MaxName-1)
	for i := range long {
		l = append(l, at(named(long[:i]+"y"+long[i+1:])), at(named("c", named("h", named(long[:i]+"z"+long[i+1:])))))
		if i > 0 {
			l = append(l, at(named(long[:i])), at(named("c", named("h", named(long[:i])))))
		}
	}
	return append(l, at(named(long)))
}

// P9.1: facts are alike only if they are so in all: each two may be in one list, and none twice.
func TestUnlike(t *testing.T) {
	l := unlike()
	listTaken(t, listed(l...))
	for i, a := range l {
		for k, b := range l {
			two := []api.Kept{{Seq: 4, Fact: a}, {Seq: 6, Fact: b}}
			n, e := facts.Find([]api.Kept{{Seq: 4, Fact: b}}, a)
			if i == k {
				listRefused(t, "twice", two)
				if n != 4 || e != api.OK {
					t.Errorf("%v: %v, %v", a, n, e)
				}
				continue
			}
			if c := facts.Check(two); c != api.OK || n != 0 || e != api.ErrNone {
				t.Errorf("%v, %v: %v, %v, %v", a, b, c, n, e)
			}
			if x, e := facts.Add(two[:1], 6, b); !sameList(x, two) || e != api.OK {
				t.Errorf("%v, %v: %v, %v", a, b, x, e)
			}
		}
	}
}

// P9.1: two alike, wherever they stand, and among as many as may be.
func TestAlike(t *testing.T) {
	for _, n := range []int{2, 20, api.MaxFacts} {
		for _, two := range [][2]int{{0, 1}, {0, n - 1}, {n - 2, n - 1}, {n / 3, n / 2}} {
			if two[0] == two[1] {
				continue
			}
			l := many(n)
			l[two[1]].Fact = l[two[0]].Fact
			listRefused(t, "alike", l)
		}
	}
	l := many(20)
	for i := range l {
		l[i].Fact = good()
	}
	listRefused(t, "all alike", l)
}

// P9.1: names that differ in one byte, whichever it is, and wherever, are unlike.
func TestUnlikeBytes(t *testing.T) {
	const bytes = "abcdefghijklmnopqrstuvwxyzABCDEFGHIJKLMNOPQRSTUVWXYZ0123456789_"
	long := strings.Repeat("n", api.MaxName)
	for i := range api.MaxName {
		var whole, inner []api.Fact
		for k := range len(bytes) {
			if i == 0 && k >= 26 {
				break
			}
			name := long[:i] + bytes[k:k+1] + long[i+1:]
			whole = append(whole, at(named(name)))
			inner = append(inner, at(named("f", number(1), named("g", named(name)))))
		}
		listTaken(t, listed(whole...))
		listTaken(t, listed(inner...))
	}
}
