package meet_test

import (
	"cmp"
	"math/bits"
	"slices"
	"strings"
	"testing"

	"almagest/api"
	"almagest/bind"
	"almagest/facts"
	"almagest/meet"
	"almagest/show"
	"almagest/span"
	"almagest/term"
	"almagest/unify"
)

// dice fall the same in each run.
type dice struct{ last uint64 }

func (d *dice) below(n int) int {
	d.last = d.last*6364136223846793005 + 1442695040888963407
	return int(d.last>>33) % n
}

func (d *dice) value() api.Term {
	x := []api.Term{num(0), num(1), named("a"), num(0)}[d.below(4)]
	if d.below(8) == 0 {
		return named("f", x)
	}
	return x
}

// arg is a value, or a variable, or one within a name.
func (d *dice) arg() api.Term {
	x := aVar(string(rune('X' + d.below(3))))
	switch d.below(8) {
	case 0:
		return d.value()
	case 1:
		return named("f", x)
	}
	return x
}

func (d *dice) term(arg func() api.Term) api.Term {
	t := named(string(rune('f' + d.below(2))))
	for range []int{0, 1, 1, 1, 1, 1, 1, 2}[d.below(8)] {
		t.Args = append(t.Args, arg())
	}
	return t
}

// facts are some, by Seqs with gaps.
func (d *dice) facts(n int) []api.Kept {
	var l []api.Kept
	seq := d.below(4)
	for range max(d.below(n+1), d.below(n+1)) {
		from := d.below(9)
		f := api.Fact{Term: d.term(d.value), Span: api.Span{From: from, To: from + d.below(2)*d.below(4)}}
		if more, e := facts.Add(l, seq, f); e == api.OK {
			l = more
			seq += 1 + d.below(3)
		}
	}
	return l
}

// pattern has so many terms at most, and no more than so deep.
func (d *dice) pattern(n int, deep int) api.Pattern {
	if n < 2 || deep < 2 || d.below(5) == 0 {
		return api.Pattern{Kind: api.PatTerm, Term: d.term(d.arg)}
	}
	kind := api.PatSeq + d.below(5)
	if n < 3 && kind == api.PatNot {
		kind = api.PatSeq
	}
	left := 1 + d.below(n-1)
	if kind == api.PatNot {
		left = 1 + d.below(n-2)
		between := 1 + d.below(n-1-left)
		return unless(d.pattern(left, deep-1), d.pattern(between, deep-1), d.pattern(n-left-between, deep-1))
	}
	p := two(kind, d.pattern(left, deep-1), d.pattern(n-left, deep-1))
	if kind == api.PatRel {
		p.Rel = api.RelBefore + d.below(api.RelAfter)
	}
	return p
}

// again tells All once more, part by part, by the words of the document.
func again(l []api.Kept, p api.Pattern) ([]api.Match, api.Errno) {
	m, e := parts(l, p)
	slices.SortFunc(m, order)
	return m, e
}

func parts(l []api.Kept, p api.Pattern) ([]api.Match, api.Errno) {
	var all []api.Match
	if p.Kind == api.PatTerm {
		for _, k := range l {
			if b, e := unify.Match(nil, p.Term, k.Fact.Term); e == api.OK {
				all = append(all, api.Match{Binds: b, Span: k.Fact.Span, Used: []int{k.Seq}})
			}
		}
		return all, api.OK
	}
	x, e := parts(l, p.L[0])
	y, e2 := parts(l, p.R[0])
	var z []api.Match
	var e3 api.Errno
	if p.Kind == api.PatNot {
		z, e3 = parts(l, p.C[0])
	}
	if e != api.OK || e2 != api.OK || e3 != api.OK {
		return nil, api.ErrLimit
	}
	if p.Kind == api.PatOr {
		all = slices.Concat(x, y)
	} else {
		all = joined(p, x, y, z)
	}
	there := map[string]bool{}
	all = slices.DeleteFunc(all, func(m api.Match) bool {
		s := matchText(m)
		was := there[s]
		there[s] = true
		return was
	})
	if len(all) > api.MaxMatch {
		return nil, api.ErrLimit
	}
	return all, api.OK
}

// joined are those of two sides, and nothing of z between.
func joined(p api.Pattern, x, y, z []api.Match) []api.Match {
	var all []api.Match
	for _, a := range x {
		for _, b := range y {
			both, e := bind.Join(a.Binds, b.Binds)
			is, _ := span.Is(max(p.Rel, api.RelBefore), a.Span, b.Span)
			behind := a.Span.To < b.Span.From
			if e != api.OK || p.Kind == api.PatRel && !is || (p.Kind == api.PatSeq || p.Kind == api.PatNot) && !behind {
				continue
			}
			between := func(c api.Match) bool {
				_, e := bind.Join(both, c.Binds)
				return e == api.OK && c.Span.From > a.Span.To && c.Span.To < b.Span.From
			}
			if slices.ContainsFunc(z, between) {
				continue
			}
			h, _ := span.Hull(a.Span, b.Span)
			all = append(all, api.Match{Binds: both, Span: h, Used: slices.Concat(a.Used, b.Used)})
		}
	}
	return all
}

// order tells Order once more.
func order(a, b api.Match) int {
	for i := range min(len(a.Used), len(b.Used)) {
		if c := cmp.Compare(a.Used[i], b.Used[i]); c != 0 {
			return c
		}
	}
	if c := cmp.Compare(len(a.Used), len(b.Used)); c != 0 {
		return c
	}
	if a.Span.From != b.Span.From {
		return cmp.Compare(a.Span.From, b.Span.From)
	}
	if a.Span.To != b.Span.To {
		return cmp.Compare(a.Span.To, b.Span.To)
	}
	for i := range min(len(a.Binds), len(b.Binds)) {
		if c := strings.Compare(a.Binds[i].Name, b.Binds[i].Name); c != 0 {
			return c
		}
		if c, _ := term.Order(a.Binds[i].Term, b.Binds[i].Term); c != 0 {
			return c
		}
	}
	return cmp.Compare(len(a.Binds), len(b.Binds))
}

func factTexts(l []api.Kept) string {
	var s []string
	for _, k := range l {
		s = append(s, matchText(api.Match{Span: k.Fact.Span, Used: []int{k.Seq}})+" "+text(k.Fact.Term))
	}
	return strings.Join(s, "; ")
}

func patternText(p api.Pattern) string {
	s, _ := show.Pattern(p)
	return s
}

// P13.1: any facts and patterns, against a second telling; With of any number.
func TestToldAgain(t *testing.T) {
	d := &dice{1}
	sizes := map[int]int{}
	for range 20000 {
		l, p := d.facts(14), d.pattern(1+d.below(6), 5)
		m, e := meet.All(l, p)
		want, e2 := again(l, p)
		if e != e2 || matchTexts(m) != matchTexts(want) {
			t.Fatalf("%s; %s: %s, %v, not %s, %v", factTexts(l), patternText(p), matchTexts(m), e, matchTexts(want), e2)
		}
		sizes[min(bits.Len(uint(len(m))), 6)]++
		n := d.below(30) - 2
		some, e := meet.With(l, p, n)
		want = slices.DeleteFunc(want, func(m api.Match) bool { return !slices.ContainsFunc(m.Used, func(s int) bool { return s >= n }) })
		if e != e2 || matchTexts(some) != matchTexts(want) {
			t.Fatalf("%s; %s, %d: %s, %v, not %s, %v", factTexts(l), patternText(p), n, matchTexts(some), e, matchTexts(want), e2)
		}
	}
	for n := range 7 {
		if sizes[n] < 100 {
			t.Errorf("%d of %d bits alone", sizes[n], n)
		}
	}
}

// P13.1: something that must not be between, against a second telling: sides and it bind one thing or another.
func TestNotAgain(t *testing.T) {
	d := &dice{2}
	some, fewer := 0, 0
	for range 10000 {
		l := d.facts(20)
		p := unless(d.pattern(1+d.below(3), 3), d.pattern(1+d.below(4), 4), d.pattern(1+d.below(3), 3))
		m, e := meet.All(l, p)
		want, e2 := again(l, p)
		if e != e2 || matchTexts(m) != matchTexts(want) {
			t.Fatalf("%s; %s: %s, %v, not %s, %v", factTexts(l), patternText(p), matchTexts(m), e, matchTexts(want), e2)
		}
		all, _ := meet.All(l, two(api.PatSeq, p.L[0], p.R[0]))
		if len(m) > 0 {
			some++
		}
		if len(m) < len(all) {
			fewer++
		}
	}
	if some < 1000 || fewer < 500 {
		t.Errorf("%d, %d", some, fewer)
	}
}

// P13.1: the limit, against a second telling.
func TestLimitAgain(t *testing.T) {
	d := &dice{3}
	limits := 0
	for range 150 {
		l := numbered(points("f", 5+d.below(12), 0), points("g", 5+d.below(9), d.below(20)), points("h", 5+d.below(9), d.below(20)))
		p := pattern(t, []string{"f(X) & g(Y) & h(Z)", "f(X) & (g(Y) | h(Y)) & h(Z)", "f(X) ; g(Y) & h(Z)", `(f(X) | g(X)) ; \+(h(X)) ; (h(Y) | f(Y)) & g(Z)`, "(f(X) & g(Y) | g(X) & h(Y)) & h(Z)", `(f(X) & f(Y)) ; \+(g(X) & g(Z)) ; (h(Z) & h(Y))`, "(f(X) | f(X) & g(Y)) & (g(Y) & h(Z) | h(Z))"}[d.below(7)])
		m, e := meet.All(l, p)
		want, e2 := again(l, p)
		if e != e2 || matchTexts(m) != matchTexts(want) {
			t.Fatalf("%s; %s: %d, %v, not %d, %v", factTexts(l), patternText(p), len(m), e, len(want), e2)
		}
		if e == api.ErrLimit {
			limits++
		}
	}
	if limits < 30 || limits > 120 {
		t.Errorf("%d", limits)
	}
}

// P13.2: any two matches, against a second telling; one is ahead of the other just where that is behind it, and of three the first is ahead of the last.
func TestOrderAgain(t *testing.T) {
	d := &dice{4}
	fall := func() api.Match {
		m := matchOf(nil, d.below(3), d.below(3), nil)
		for range d.below(3) {
			m.Used = append(m.Used, d.below(2))
		}
		for i := range 3 {
			if d.below(2) == 0 {
				m.Binds = append(m.Binds, api.Bind{Name: string(rune('A' + i)), Term: []api.Term{d.value(), d.term(d.value), d.term(d.arg), aVar("X")}[d.below(4)]})
			}
		}
		return m
	}
	seen := map[int]int{}
	for range 50000 {
		a, b, c := fall(), fall(), fall()
		if d.below(2) == 0 {
			b.Used = a.Used
			if d.below(2) == 0 {
				b.Span = a.Span
			}
		}
		n := meet.Order(a, b)
		seen[n]++
		if n != order(a, b) || meet.Order(b, a) != -n || meet.Order(a, a) != 0 {
			t.Fatalf("%s, %s: %d", matchText(a), matchText(b), n)
		}
		if k := meet.Order(b, c); n != 0 && n == k && meet.Order(a, c) != n {
			t.Fatalf("%s, %s, %s", matchText(a), matchText(b), matchText(c))
		}
	}
	if seen[0] < 200 || len(seen) != 3 {
		t.Errorf("%v", seen)
	}
}

// P13.3: what a match has used is there, and by these facts alone it is a match; its span is their hull.
func TestUsedIsThere(t *testing.T) {
	d := &dice{5}
	some := 0
	for range 5000 {
		l, p := d.facts(10), d.pattern(1+d.below(5), 4)
		m, e := meet.All(l, p)
		if e != api.OK {
			continue
		}
		for _, x := range m[:min(len(m), 5)] {
			some++
			h := api.Span{From: api.MaxNum, To: -api.MaxNum}
			for _, n := range x.Used {
				i, there := slices.BinarySearchFunc(l, n, func(k api.Kept, n int) int { return cmp.Compare(k.Seq, n) })
				if !there {
					t.Fatalf("%s; %s: %s", factTexts(l), patternText(p), matchText(x))
				}
				h = api.Span{From: min(h.From, l[i].Fact.Span.From), To: max(h.To, l[i].Fact.Span.To)}
			}
			alone := slices.DeleteFunc(slices.Clone(l), func(k api.Kept) bool { return !slices.Contains(x.Used, k.Seq) })
			few, _ := meet.All(alone, p)
			if h != x.Span || !slices.ContainsFunc(few, func(y api.Match) bool { return matchText(x) == matchText(y) }) {
				t.Fatalf("%s; %s: %s", factTexts(l), patternText(p), matchText(x))
			}
		}
	}
	if some < 3000 {
		t.Errorf("%d", some)
	}
}

// sorted are the texts of matches, with what is used by rising Seqs.
func sorted(l []api.Match) []string {
	var s []string
	for _, m := range l {
		m.Used = slices.Sorted(slices.Values(m.Used))
		s = append(s, matchText(m))
	}
	slices.Sort(s)
	return s
}

// P13.3: And is the same both ways, but for Used; where both sides are terms, that is turned round.
func TestAndBothWays(t *testing.T) {
	d := &dice{6}
	some := 0
	for range 5000 {
		l, p, q := d.facts(9), d.pattern(1+d.below(3), 3), d.pattern(1+d.below(3), 3)
		m, e := meet.All(l, two(api.PatAnd, p, q))
		n, e2 := meet.All(l, two(api.PatAnd, q, p))
		if e != e2 || !slices.Equal(sorted(m), sorted(n)) {
			t.Fatalf("%s; %s, %s: %s, %v, not %s, %v", factTexts(l), patternText(p), patternText(q), matchTexts(m), e, matchTexts(n), e2)
		}
		if p.Kind == api.PatTerm && q.Kind == api.PatTerm {
			for i := range n {
				slices.Reverse(n[i].Used)
			}
			slices.SortFunc(n, order)
			if matchTexts(m) != matchTexts(n) {
				t.Fatalf("%s; %s, %s: %s, not %s", factTexts(l), patternText(p), patternText(q), matchTexts(m), matchTexts(n))
			}
		}
		if len(m) > 1 {
			some++
		}
	}
	if some < 700 {
		t.Errorf("%d", some)
	}
}
