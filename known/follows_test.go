package known_test

import (
	"fmt"
	"slices"
	"strconv"
	"testing"

	"almagest/api"
	"almagest/bind"
	"almagest/check"
	"almagest/known"
	"almagest/term"
)

// dice fall the same in each run.
type dice struct{ last uint64 }

func (d *dice) below(n int) int {
	d.last = d.last*6364136223846793005 + 1442695040888963407
	return int(d.last>>33) % n
}

// values are what variables may stand for in what the dice make.
func values() []api.Term { return []api.Term{num(0), num(1), named("a")} }

// arg is a value, or one of the first so many variables.
func (d *dice) arg(vars int) api.Term {
	if vars > 0 && d.below(4) > 0 {
		return aVar(string(rune('X' + d.below(vars))))
	}
	return values()[d.below(len(values()))]
}

func (d *dice) atom(vars int) api.Term {
	t := named(string(rune('f' + d.below(3))))
	for range d.below(3) {
		t.Args = append(t.Args, d.arg(vars))
	}
	return t
}

func (d *dice) side() api.Term {
	if d.below(3) > 0 {
		return d.arg(3)
	}
	return named("f", d.arg(3), d.arg(3))
}

// clause makes them anew till one is safe.
func (d *dice) clause() api.Clause {
	for {
		var c api.Clause
		for range d.below(4) {
			c.Body = append(c.Body, d.atom(3))
		}
		for range d.below(6) - 2 {
			c.Guards = append(c.Guards, api.Guard{Kind: api.GuardLess + d.below(4), L: d.side(), R: d.side()})
		}
		c.Head = d.atom(3)
		if check.Clause(c) == api.OK {
			return c
		}
	}
}

func (d *dice) clauses(n int) []api.Clause {
	var l []api.Clause
	for range n {
		l = append(l, d.clause())
	}
	return l
}

// ground is a clause with values in the place of its variables.
type ground struct {
	head string
	body []string
}

// grounds has a clause for all values of X, Y, Z by which its guards are so, told once more by the lower layers.
func grounds(l []api.Clause) []ground {
	var all []ground
	v := values()
	for _, c := range l {
		for i := range len(v) * len(v) * len(v) {
			m := []api.Bind{{Name: "X", Term: v[i%len(v)]}, {Name: "Y", Term: v[i/len(v)%len(v)]}, {Name: "Z", Term: v[i/len(v)/len(v)]}}
			put := func(t api.Term) string {
				x, _ := bind.Apply(m, t)
				return texts([]api.Term{x})
			}
			if slices.ContainsFunc(c.Guards, func(g api.Guard) bool { return !isSo(m, g) }) {
				continue
			}
			x := ground{head: put(c.Head)}
			for _, b := range c.Body {
				x.body = append(x.body, put(b))
			}
			all = append(all, x)
		}
	}
	return all
}

// isSo is guard.Compare (12), told once more.
func isSo(m []api.Bind, g api.Guard) bool {
	a, _ := bind.Apply(m, g.L)
	b, _ := bind.Apply(m, g.R)
	c, e := term.Order(a, b)
	if e != api.OK {
		return false
	}
	numbers := a.Kind == api.TermNum && b.Kind == api.TermNum
	switch g.Kind {
	case api.GuardLess:
		return numbers && c < 0
	case api.GuardMost:
		return numbers && c <= 0
	case api.GuardSame:
		return c == 0
	}
	return c != 0
}

type set map[string]bool

func setOf(l []api.Term) set {
	s := set{}
	for _, t := range l {
		s[texts([]api.Term{t})] = true
	}
	return s
}

// next are the heads of those whose body is in s.
func next(l []ground, s set) set {
	x := set{}
	for _, g := range l {
		if !slices.ContainsFunc(g.body, func(b string) bool { return !s[b] }) {
			x[g.head] = true
		}
	}
	return x
}

func (s set) rising() []string {
	var l []string
	for x := range s {
		l = append(l, x)
	}
	slices.Sort(l)
	return l
}

func (s set) has(l set) bool {
	for x := range l {
		if !s[x] {
			return false
		}
	}
	return true
}

// leastOf adds what follows till there is nothing more.
func leastOf(l []ground) set {
	s := set{}
	for {
		x := next(l, s)
		if s.has(x) {
			return s
		}
		for a := range x {
			s[a] = true
		}
	}
}

// P11.1, P11.3: any clauses, against a second telling of what follows of all, and of some in one step.
func TestToldAgain(t *testing.T) {
	d := &dice{1}
	sizes := map[int]int{}
	for range 6000 {
		l := d.clauses(d.below(12))
		for range d.below(5) {
			l = append(l, fact(d.atom(0)))
		}
		g := grounds(l)
		want := leastOf(g)
		k, e := known.All(l)
		if e != api.OK || !slices.Equal(setOf(k).rising(), want.rising()) || len(k) != len(want) {
			t.Fatalf("%+v: %s, %v, not %v", l, texts(k), e, want.rising())
		}
		ordered(t, k)
		sizes[min(len(k), 7)]++
		some := slices.DeleteFunc(slices.Clone(k), func(api.Term) bool { return d.below(3) == 0 })
		stepAgain(t, l, g, some)
		stepAgain(t, l, g, nil)
		if x, e := known.Step(l, k); len(x) != 0 || e != api.OK {
			t.Fatalf("%+v: %s, then %s, %v", l, texts(k), texts(x), e)
		}
	}
	for n := range 8 {
		if sizes[n] < 100 {
			t.Errorf("%d of %d alone", sizes[n], n)
		}
	}
}

func stepAgain(t *testing.T, l []api.Clause, g []ground, k []api.Term) {
	t.Helper()
	want := next(g, setOf(k))
	for x := range setOf(k) {
		delete(want, x)
	}
	x, e := known.Step(l, k)
	if e != api.OK || !slices.Equal(setOf(x).rising(), want.rising()) || len(x) != len(want) {
		t.Fatalf("%+v of %s: %s, %v, not %v", l, texts(k), texts(x), e, want.rising())
	}
	ordered(t, x)
}

// P11.3: All is the least set: what it has is in each one that its clauses add nothing to, of all sets of their heads.
func TestLeast(t *testing.T) {
	d := &dice{2}
	tried := 0
	for range 3000 {
		l := d.clauses(1 + d.below(6))
		g := grounds(l)
		heads := set{}
		for _, x := range g {
			heads[x.head] = true
		}
		base := heads.rising()
		if len(base) > 9 {
			continue
		}
		tried++
		k, e := known.All(l)
		if e != api.OK {
			t.Fatalf("%+v: %v", l, e)
		}
		leastAmong(t, l, g, base, setOf(k))
	}
	if tried < 500 {
		t.Errorf("%d alone", tried)
	}
}

func leastAmong(t *testing.T, l []api.Clause, g []ground, base []string, k set) {
	t.Helper()
	closed := 0
	for bits := range 1 << len(base) {
		s := set{}
		for i, x := range base {
			if bits>>i&1 == 1 {
				s[x] = true
			}
		}
		if !s.has(next(g, s)) {
			continue
		}
		closed++
		if !s.has(k) {
			t.Fatalf("%+v: %v has not all of %v", l, s.rising(), k.rising())
		}
	}
	if !k.has(next(g, k)) || closed == 0 {
		t.Fatalf("%+v: to %v something is added", l, k.rising())
	}
}

// steps goes on by Step alone.
func steps(l []api.Clause) ([]api.Term, api.Errno) {
	var k []api.Term
	for {
		x, e := known.Step(l, k)
		if e != api.OK || len(x) == 0 {
			return k, e
		}
		k = append(k, x...)
		slices.SortFunc(k, func(a, b api.Term) int {
			c, _ := term.Order(a, b)
			return c
		})
	}
}

// P11.3: All is where Step leads from nothing; the order of clauses, of bodies and of guards is nothing to it, and more clauses take nothing away.
func TestSteps(t *testing.T) {
	d := &dice{3}
	limits := 0
	for range 1500 {
		l := d.clauses(d.below(12))
		if d.below(3) == 0 {
			l = append(l, facts(numbers(40+d.below(21)))...)
		}
		k, e := known.All(l)
		x, e2 := steps(l)
		if e == api.ErrLimit {
			limits++
			x = nil
		}
		if e != e2 || texts(k) != texts(x) {
			t.Fatalf("%+v: %s, %v, by steps %s, %v", l, texts(k), e, texts(x), e2)
		}
		turned := slices.Clone(l)
		slices.Reverse(turned)
		for i := range turned {
			turned[i].Body = slices.Clone(turned[i].Body)
			turned[i].Guards = slices.Clone(turned[i].Guards)
			slices.Reverse(turned[i].Body)
			slices.Reverse(turned[i].Guards)
		}
		x, e2 = known.All(turned)
		if e != e2 || texts(k) != texts(x) {
			t.Fatalf("%+v: %s, %v, turned %s, %v", l, texts(k), e, texts(x), e2)
		}
		x, e2 = known.All(append(l, d.clause()))
		if e2 == api.OK && (e != api.OK || !setOf(x).has(setOf(k))) || e == api.ErrLimit && e2 != api.ErrLimit {
			t.Fatalf("%+v: %s, %v, with one more %s, %v", l, texts(k), e, texts(x), e2)
		}
	}
	if limits < 20 {
		t.Errorf("%d alone", limits)
	}
}

// roomy is the same term with room behind each list, so that it would be seen if somebody wrote there.
func roomy(t api.Term) api.Term {
	args := make([]api.Term, 0, len(t.Args)+2)
	for _, a := range t.Args {
		args = append(args, roomy(a))
	}
	t.Args = args
	return t
}

func roomyTerms(l []api.Term) []api.Term {
	x := make([]api.Term, 0, len(l)+2)
	for _, t := range l {
		x = append(x, roomy(t))
	}
	return x
}

func roomyClauses(l []api.Clause) []api.Clause {
	x := make([]api.Clause, 0, len(l)+2)
	for _, c := range l {
		g := make([]api.Guard, 0, len(c.Guards)+2)
		for _, y := range c.Guards {
			g = append(g, api.Guard{Kind: y.Kind, L: roomy(y.L), R: roomy(y.R)})
		}
		x = append(x, api.Clause{Head: roomy(c.Head), Body: roomyTerms(c.Body), Guards: g})
	}
	return x
}

// wholeTerms and wholeClauses tell all of a list, the room behind it too.
func wholeTerms(l []api.Term) string {
	s := strconv.Itoa(len(l))
	for _, t := range l[:cap(l)] {
		s += fmt.Sprint(" ", t.Kind, t.Name, t.N, "(", wholeTerms(t.Args), ")")
	}
	return s
}

func wholeClauses(l []api.Clause) string {
	s := strconv.Itoa(len(l))
	for _, c := range l[:cap(l)] {
		s += " " + wholeTerms([]api.Term{c.Head}) + wholeTerms(c.Body) + strconv.Itoa(len(c.Guards))
		for _, g := range c.Guards[:cap(c.Guards)] {
			s += strconv.Itoa(g.Kind) + wholeTerms([]api.Term{g.L, g.R})
		}
	}
	return s
}

// scribble writes into all of a list, and behind it.
func scribble(l []api.Term) {
	for i := range l[:cap(l)] {
		scribble(l[:cap(l)][i].Args)
		l[:cap(l)][i] = api.Term{Kind: 9, Name: "SCRIBBLE", N: 9}
	}
}

func scribbleBinds(l [][]api.Bind) {
	for i, m := range l {
		for j := range m[:cap(m)] {
			scribble(m[:cap(m)][j].Term.Args)
			m[:cap(m)][j] = api.Bind{Name: "SCRIBBLE"}
		}
		l[i] = nil
	}
}

// R2: what is handed in is neither changed nor kept; what is told shares nothing with it, nor with what is told another time.
func TestMemory(t *testing.T) {
	l := roomyClauses(clauses(t, "f(1,b). f(a,c). g(X,d,Y) :- f(X,Y), h(Y), X = X. h(b). h(c) :- h(b), 1 < 2."))
	k := roomyTerms(terms(t, "h(b). f(1,b). f(a,b)."))
	a := roomy(one(t, "f(X,Y)"))
	whole := func() string { return wholeClauses(l) + wholeTerms(k) + wholeTerms([]api.Term{a}) }
	ahead := whole()
	calls := map[string]func() ([]api.Term, api.Errno){
		"All":  func() ([]api.Term, api.Errno) { return known.All(l) },
		"Step": func() ([]api.Term, api.Errno) { return known.Step(l, k) },
	}
	for name, call := range calls {
		x, e := call()
		y, e2 := call()
		if e != api.OK || e2 != api.OK || len(x) < 3 || whole() != ahead {
			t.Fatalf("%s: %s, %v, %v, %v", name, texts(x), e, e2, whole() == ahead)
		}
		was := wholeTerms(y)
		scribble(x)
		if whole() != ahead || wholeTerms(y) != was {
			t.Errorf("%s: shares what it tells", name)
		}
		for i := range y {
			was := texts(y[i+1:])
			scribble(y[i].Args)
			_ = append(y[i].Args, named("behind"))
			if texts(y[i+1:]) != was {
				t.Errorf("%s: %d shares with those behind it", name, i)
			}
		}
	}
	m, e := known.Ask(k, a)
	n, e2 := known.Ask(k, a)
	if e != api.OK || e2 != api.OK || bindTexts(m) != "X=1 Y=b; X=a Y=b" || whole() != ahead {
		t.Fatalf("Ask: %v, %v, %v", m, e, whole() == ahead)
	}
	scribbleBinds(m)
	scribbleBinds(n[:1])
	if whole() != ahead || bindTexts(n[1:]) != "X=a Y=b" {
		t.Errorf("Ask: shares what it tells")
	}
}

// P11.1, P11.2: the chapter's example.
func TestExample(t *testing.T) {
	l := clauses(t, "f(1). g(X) :- f(X).")
	k, e := known.All(l)
	if e != api.OK || texts(k) != "f(1). g(1)." {
		t.Fatalf("%s, %v", texts(k), e)
	}
	m, e := known.Ask(k, one(t, "g(X)"))
	if e != api.OK || bindTexts(m) != "X=1" {
		t.Errorf("%v, %v", m, e)
	}
}
