package guard_test

import (
	"math/bits"
	"slices"
	"testing"

	"almagest/api"
	"almagest/bind"
	"almagest/guard"
	"almagest/known"
	"almagest/term"
)

// dice fall the same in each run.
type dice struct{ last uint64 }

func (d *dice) below(n int) int {
	d.last = d.last*6364136223846793005 + 1442695040888963407
	return int(d.last>>33) % n
}

func (d *dice) value() api.Term {
	return []api.Term{num(0), num(1), num(2), named("a")}[d.below(4)]
}

// name is one of a few variables'.
func (d *dice) name() string { return string(rune('V' + d.below(5))) }

// arg is a value, or a variable.
func (d *dice) arg() api.Term {
	if d.below(4) > 0 {
		return aVar(d.name())
	}
	return d.value()
}

func (d *dice) atom(arg func() api.Term) api.Term {
	t := named(string(rune('f' + d.below(2))))
	for range (1 + d.below(5)) / 2 {
		t.Args = append(t.Args, arg())
	}
	return t
}

// known are some atoms, rising.
func (d *dice) known() []api.Term {
	var l []api.Term
	for range d.below(80) {
		l = append(l, d.atom(d.value))
	}
	slices.SortFunc(l, order)
	return slices.CompactFunc(l, func(a, b api.Term) bool { return order(a, b) == 0 })
}

func order(a, b api.Term) int {
	c, _ := term.Order(a, b)
	return c
}

// binds stand for values, and at times for names with Args.
func (d *dice) binds() []api.Bind {
	var l []api.Bind
	for i := range 5 {
		x := d.value()
		if d.below(4) == 0 {
			x = named("f", x)
		}
		if d.below(5) == 0 {
			l = append(l, api.Bind{Name: string(rune('V' + i)), Term: x})
		}
	}
	return l
}

func (d *dice) side() api.Term {
	if d.below(4) > 0 {
		return d.arg()
	}
	return named("f", d.arg())
}

func (d *dice) guards() []api.Guard {
	var l []api.Guard
	for range d.below(api.MaxGuards + 1) {
		g := api.Guard{Kind: api.GuardKnown, L: d.atom(d.arg)}
		switch d.below(6) {
		case 0:
			g.Kind = api.GuardUnknown
		case 1, 2:
			g = api.Guard{Kind: api.GuardLess + d.below(4), L: d.side(), R: d.side()}
		}
		l = append(l, g)
	}
	return l
}

// again tells Holds once more, bind by bind, by the words of the document.
func again(k []api.Term, l []api.Bind, g []api.Guard) ([][]api.Bind, api.Errno) {
	all := [][]api.Bind{l}
	for _, x := range g {
		var next [][]api.Bind
		there := map[string]bool{}
		for _, m := range all {
			for _, n := range by(k, m, x) {
				s := bindText(n)
				if !there[s] {
					next = append(next, n)
				}
				there[s] = true
			}
		}
		if len(next) > api.MaxMatch {
			return nil, api.ErrLimit
		}
		all = next
	}
	return all, api.OK
}

// by are the binds that are m and more by which one guard holds.
func by(k []api.Term, m []api.Bind, g api.Guard) [][]api.Bind {
	a, e := bind.Apply(m, g.L)
	if e != api.OK {
		return nil
	}
	switch g.Kind {
	case api.GuardKnown:
		l, _ := known.Ask(k, a)
		var all [][]api.Bind
		for _, n := range l {
			if both, e := bind.Join(m, n); e == api.OK {
				all = append(all, both)
			}
		}
		return all
	case api.GuardUnknown:
		if ground, _ := term.Ground(a); ground && !slices.ContainsFunc(k, func(x api.Term) bool { return order(x, a) == 0 }) {
			return [][]api.Bind{m}
		}
		return nil
	}
	b, e := bind.Apply(m, g.R)
	if e != api.OK || !isSo(g.Kind, a, b) {
		return nil
	}
	return [][]api.Bind{m}
}

// isSo tells Compare once more; what errs is not so.
func isSo(kind int, a, b api.Term) bool {
	for _, x := range []api.Term{a, b} {
		if ground, e := term.Ground(x); !ground || e != api.OK {
			return false
		}
	}
	numbers := a.Kind == api.TermNum && b.Kind == api.TermNum
	switch kind {
	case api.GuardLess:
		return numbers && a.N < b.N
	case api.GuardMost:
		return numbers && a.N <= b.N
	case api.GuardSame:
		return text(a) == text(b)
	}
	return text(a) != text(b)
}

// P12.1, P12.2: any atoms, binds and guards, against a second telling.
func TestToldAgain(t *testing.T) {
	d := &dice{1}
	sizes := map[int]int{}
	for range 10000 {
		k, l, g := d.known(), d.binds(), d.guards()
		m, e := guard.Holds(k, l, g)
		want, e2 := again(k, l, g)
		if e != e2 || bindTexts(m) != bindTexts(want) {
			t.Fatalf("%s; %s; %+v: %s, %v, not %s, %v", texts(k), bindText(l), g, bindTexts(m), e, bindTexts(want), e2)
		}
		sizes[min(bits.Len(uint(len(m))), 5)]++
	}
	for n := range 6 {
		if sizes[n] < 50 {
			t.Errorf("%d of %d bits alone", sizes[n], n)
		}
	}
}

// P12.2: the limit, against a second telling.
func TestLimitAgain(t *testing.T) {
	d := &dice{2}
	limits := 0
	for range 100 {
		var k []api.Term
		for i := range 7 + d.below(14) {
			k = append(k, named("f", num(i)))
		}
		for i := range 5 + d.below(10) {
			k = append(k, named("g", num(i)))
		}
		g := guards(t, "known f(X), known g(Y), known f(Z)")
		g = slices.Insert(g, d.below(4), guards(t, []string{"X < 9", "known g(W)", "known g(Z)", `Y \= X`, "unknown f(Y)", "unknown g(9)"}[d.below(6)])...)
		m, e := guard.Holds(k, nil, g)
		want, e2 := again(k, nil, g)
		if e != e2 || bindTexts(m) != bindTexts(want) {
			t.Fatalf("%s; %+v: %d, %v, not %d, %v", texts(k), g, len(m), e, len(want), e2)
		}
		if e == api.ErrLimit {
			limits++
		}
	}
	if limits < 15 || limits > 85 {
		t.Errorf("%d", limits)
	}
}

// P12.1: Compare of any terms, against a second telling, and what it has to itself: same or other, less or most the other way.
func TestCompareAgain(t *testing.T) {
	d := &dice{3}
	grow := func() api.Term {
		x := d.value()
		for range d.below(4) {
			x = named(string(rune('f'+d.below(2))), append(list(d.below(2), d.value()), x)...)
		}
		return x
	}
	for range 20000 {
		a, b := grow(), grow()
		if d.below(3) == 0 {
			b = a
		}
		for _, kind := range kinds() {
			so, e := compareOf(t, kind, a, b)
			none := kind <= api.GuardMost && (a.Kind != api.TermNum || b.Kind != api.TermNum)
			if so != isSo(kind, a, b) || none != (e == api.ErrNone) || !none && e != api.OK {
				t.Fatalf("%d, %s, %s: %v, %v", kind, text(a), text(b), so, e)
			}
		}
		same, _ := guard.Compare(api.GuardSame, a, b)
		other, _ := guard.Compare(api.GuardOther, a, b)
		less, _ := guard.Compare(api.GuardLess, a, b)
		most, e := guard.Compare(api.GuardMost, b, a)
		if same == other || e == api.OK && less == most {
			t.Fatalf("%s, %s: %v, %v, %v, %v", text(a), text(b), same, other, less, most)
		}
	}
}

// P12.3: all binds told are l and more, and each guard holds by each of them as it stands; guards one behind the other are guards behind what those ahead leave.
func TestFollows(t *testing.T) {
	d := &dice{4}
	for range 5000 {
		k, l, g := d.known(), d.binds(), d.guards()
		m, e := guard.Holds(k, l, g)
		if e != api.OK {
			continue
		}
		for _, x := range m {
			if both, e := bind.Join(l, x); e != api.OK || bindText(both) != bindText(x) {
				t.Fatalf("%s, then %s", bindText(l), bindText(x))
			}
			n, e := guard.Holds(k, x, g)
			if e != api.OK || bindTexts(n) != bindText(x) {
				t.Fatalf("%+v by %s: %s, %v", g, bindText(x), bindTexts(n), e)
			}
		}
		at := d.below(len(g) + 1)
		ahead, _ := guard.Holds(k, l, g[:at])
		var all [][]api.Bind
		for _, x := range ahead {
			n, e := guard.Holds(k, x, g[at:])
			if e != api.OK {
				t.Fatalf("%+v by %s: %v", g, bindText(x), e)
			}
			all = append(all, n...)
		}
		if bindTexts(all) != bindTexts(m) {
			t.Fatalf("%+v: %s, not %s", g, bindTexts(all), bindTexts(m))
		}
	}
}
