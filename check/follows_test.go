package check_test

import (
	"fmt"
	"slices"
	"testing"

	"almagest/api"
	"almagest/check"
	"almagest/show"
)

// dice are numbers that look like any, the same ones each time.
type dice uint32

func (d *dice) below(n int) int {
	*d = *d*1664525 + 1013904223
	return int(*d>>8) % n
}

func (d *dice) one(names ...string) string { return names[d.below(len(names))] }

// arg is a variable, a number, a name, or one around a variable.
func (d *dice) arg() api.Term {
	switch d.below(12) {
	case 0:
		return num(d.below(2))
	case 1:
		return named("c")
	case 2:
		return named("f", aVar(d.one("X", "Y")))
	}
	return aVar(d.one("X", "Y"))
}

// atom has no Args in its Args.
func (d *dice) atom(names ...string) api.Term {
	t := named(d.one(names...))
	for range d.below(3) * d.below(2) {
		a := d.arg()
		a.Args = nil
		t.Args = append(t.Args, a)
	}
	return t
}

func (d *dice) pattern(deep int, names ...string) api.Pattern {
	if deep == 0 || d.below(3) == 0 {
		t := named(d.one(names...), d.arg(), d.arg())
		t.Args = t.Args[:d.below(3)*d.below(2)]
		return of(t)
	}
	l, r := d.pattern(deep-1, names...), d.pattern(deep-1, names...)
	switch kind := api.PatSeq + d.below(5); kind {
	case api.PatNot:
		return not(l, d.pattern(deep-1, names...), r)
	case api.PatRel:
		return rel(l, api.RelBefore+d.below(api.RelAfter), r)
	default:
		return two(kind, l, r)
	}
}

func (d *dice) comparison() api.Guard {
	return api.Guard{Kind: api.GuardLess + d.below(4), L: d.arg(), R: d.arg()}
}

// clause is over its own names, but now and then over another.
func (d *dice) clause(names ...string) api.Clause {
	c := api.Clause{Head: d.atom(names...)}
	for range d.below(3) {
		c.Body = append(c.Body, d.atom(names...))
	}
	for range d.below(2) * d.below(2) {
		c.Guards = append(c.Guards, d.comparison())
	}
	return c
}

func (d *dice) rule(heads, terms, known []string) api.Rule {
	r := api.Rule{Head: d.atom(heads...), Body: d.pattern(2, terms...), Within: d.below(3), Policy: d.below(3)}
	for range d.below(3) {
		switch d.below(4) {
		case 0, 1:
			r.Guards = append(r.Guards, api.Guard{Kind: api.GuardKnown, L: d.atom(known...)})
		case 2:
			r.Guards = append(r.Guards, api.Guard{Kind: api.GuardUnknown, L: d.atom(known...)})
		default:
			r.Guards = append(r.Guards, d.comparison())
		}
	}
	return r
}

// program has names of three kinds, now and then one for two. Unsafe clauses and rules are mostly left out, so that what is behind them is seen.
func (d *dice) program() api.Program {
	known := []string{"k", "m"}
	heads := []string{"a", "b", "c", "d"}
	terms := []string{"a", "b", "c", "x", "y"}
	switch d.below(6) {
	case 0:
		known = append(known, "y")
	case 1:
		known = append(known, "d")
	case 2:
		terms = append(terms, "k")
	}
	keep := d.below(8) == 0
	var p api.Program
	for range d.below(3) {
		if c := d.clause(known...); keep || clauseSafe(c) {
			p.Clauses = append(p.Clauses, c)
		}
	}
	for range d.below(9) {
		if r := d.rule(heads, terms, known); keep || ruleSafe(r) {
			p.Rules = append(p.Rules, r)
		}
	}
	return p
}

// names is a second telling of sets: by texts.
type names map[string]bool

func (s names) with(l names) names {
	all := names{}
	for x := range s {
		all[x] = true
	}
	for x := range l {
		all[x] = true
	}
	return all
}

func (s names) all(l names) bool {
	for x := range l {
		if !s[x] {
			return false
		}
	}
	return true
}

func variables(terms ...api.Term) names {
	s := names{}
	for _, t := range terms {
		if t.Kind == api.TermVar {
			s[t.Name] = true
		}
		s = s.with(variables(t.Args...))
	}
	return s
}

func binds(p api.Pattern) names {
	if p.Kind == api.PatTerm {
		return variables(p.Term)
	}
	l, r := binds(p.L[0]), binds(p.R[0])
	if p.Kind != api.PatOr {
		return l.with(r)
	}
	both := names{}
	for x := range l {
		if r[x] {
			both[x] = true
		}
	}
	return both
}

func ruleSafe(r api.Rule) bool {
	body, every := binds(r.Body), binds(r.Body)
	for _, g := range r.Guards {
		if g.Kind == api.GuardKnown {
			every = every.with(variables(g.L))
		}
	}
	for i, g := range r.Guards {
		ahead := body
		for _, h := range r.Guards[:i] {
			if h.Kind == api.GuardKnown {
				ahead = ahead.with(variables(h.L))
			}
		}
		if g.Kind != api.GuardKnown && !ahead.all(variables(g.L, g.R)) {
			return false
		}
	}
	for _, a := range r.Head.Args {
		if len(variables(a)) > 0 && (a.Kind != api.TermVar || !every[a.Name]) {
			return false
		}
	}
	return true
}

func clauseSafe(c api.Clause) bool {
	asked := variables(c.Head)
	for _, g := range c.Guards {
		asked = asked.with(variables(g.L, g.R))
	}
	return variables(c.Body...).all(asked)
}

func key(t api.Term) string { return fmt.Sprint(t.Name, "/", len(t.Args)) }

func termsOf(p api.Pattern) []api.Term {
	if p.Kind == api.PatTerm {
		return []api.Term{p.Term}
	}
	var l []api.Term
	for _, part := range slices.Concat(p.L, p.R, p.C) {
		l = append(l, termsOf(part)...)
	}
	return l
}

// kindsMixed holds each two uses against each other.
func kindsMixed(p api.Program) bool {
	clauses, heads, terms, asked := names{}, names{}, names{}, names{}
	for _, c := range p.Clauses {
		clauses[key(c.Head)] = true
		for _, t := range c.Body {
			clauses[key(t)] = true
		}
	}
	for _, r := range p.Rules {
		heads[key(r.Head)] = true
		for _, t := range termsOf(r.Body) {
			terms[key(t)] = true
		}
		for _, g := range r.Guards {
			if g.Kind >= api.GuardKnown {
				asked[key(g.L)] = true
			}
		}
	}
	for x := range heads.with(terms).with(asked) {
		if clauses[x] && (heads[x] || terms[x]) || heads[x] && asked[x] {
			return true
		}
	}
	return false
}

// level tells a predicate's level by those of all that it leads to, and false if a way leads back to one on it; -1 of no rule's.
func level(p api.Program, x string, way []string) (int, bool) {
	if slices.Contains(way, x) {
		return 0, false
	}
	most := -1
	for _, r := range p.Rules {
		if key(r.Head) != x {
			continue
		}
		n, ok := ruleLevel(p, r, append(slices.Clone(way), x))
		if !ok {
			return 0, false
		}
		most = max(most, n)
	}
	return most, true
}

func ruleLevel(p api.Program, r api.Rule, way []string) (int, bool) {
	most := 0
	for _, t := range termsOf(r.Body) {
		n, ok := level(p, key(t), way)
		if !ok {
			return 0, false
		}
		most = max(most, n+1)
	}
	return most, true
}

// toldAgain is what Levels must tell.
func toldAgain(p api.Program) ([]int, api.Errno) {
	if show.Check(p) != api.OK {
		return nil, api.ErrForm
	}
	for _, c := range p.Clauses {
		if !clauseSafe(c) {
			return nil, api.ErrSafe
		}
	}
	for _, r := range p.Rules {
		if !ruleSafe(r) {
			return nil, api.ErrSafe
		}
	}
	if kindsMixed(p) {
		return nil, api.ErrKind
	}
	var l []int
	for _, r := range p.Rules {
		n, ok := ruleLevel(p, r, []string{key(r.Head)})
		if !ok {
			return nil, api.ErrRound
		}
		l = append(l, n)
	}
	return l, api.OK
}

// rises holds P10.3 of levels: each is above all that it waits for, and one more than one of them, or 0.
func rises(t *testing.T, p api.Program, l []int) {
	t.Helper()
	for i, r := range p.Rules {
		most := -1
		for k, s := range p.Rules {
			for _, x := range termsOf(r.Body) {
				if key(x) == key(s.Head) {
					most = max(most, l[k])
				}
			}
		}
		if l[i] != most+1 {
			t.Fatalf("%s: %v: rule %d is not %d", told(p), l, i, most+1)
		}
	}
}

// P10.1 to P10.3: any programs against the second telling; none of the errors that such have, and no small height, is left out.
func TestTold(t *testing.T) {
	d := dice(1)
	seen := map[api.Errno]int{}
	heights := map[int]int{}
	for range 12000 {
		p := d.program()
		ahead := told(p)
		want, wrong := toldAgain(p)
		l, e := check.Levels(p)
		if f := check.Program(p); e != wrong || f != wrong || !slices.Equal(l, want) {
			t.Fatalf("%s: %v; %v, %v, not %v, %v", ahead, f, l, e, want, wrong)
		}
		if told(p) != ahead {
			t.Fatalf("%s: changed to %s", ahead, told(p))
		}
		seen[e]++
		if e == api.OK {
			rises(t, p, l)
			heights[slices.Max(append(l, 0))]++
		}
	}
	for _, e := range []api.Errno{api.OK, api.ErrSafe, api.ErrKind, api.ErrRound} {
		if seen[e] < 300 {
			t.Errorf("%v: %d times", e, seen[e])
		}
	}
	for n := range 3 {
		if heights[n] < 100 {
			t.Errorf("height %d: %d times", n, heights[n])
		}
	}
}

// P10.1: any rules and clauses alone.
func TestToldAlone(t *testing.T) {
	d := dice(2)
	seen := map[string]int{}
	for range 12000 {
		r := d.rule([]string{"a", "b"}, []string{"a", "x"}, []string{"k"})
		want := api.ErrSafe
		if ruleSafe(r) {
			want = api.OK
		}
		if e := kept(t, check.Rule, r); e != want {
			t.Fatalf("%s: %v, not %v", told(r), e, want)
		}
		seen[fmt.Sprint("rule ", want)]++
		c := d.clause("k", "m")
		want = api.ErrSafe
		if clauseSafe(c) {
			want = api.OK
		}
		if e := kept(t, check.Clause, c); e != want {
			t.Fatalf("%s: %v, not %v", told(c), e, want)
		}
		seen[fmt.Sprint("clause ", want)]++
	}
	for _, s := range []string{"rule 0", "rule 6", "clause 0", "clause 6"} {
		if seen[s] < 1000 {
			t.Errorf("%s: %d times", s, seen[s])
		}
	}
}

// anyOf waits for some of three predicates, by bits, each in another place.
func anyOf(bits int) api.Pattern {
	x, a, b, c := of(named("x")), of(named("a")), of(named("b")), of(named("c"))
	if bits&1 != 0 {
		x = two(api.PatOr, x, a)
	}
	if bits&2 != 0 {
		x = not(x, b, of(named("y")))
	}
	if bits&4 != 0 {
		x = rel(c, api.RelMet, x)
	}
	return x
}

// P10.2, P10.3: all programs of three rules over three heads, whatever of these each waits for.
func TestAllOfThree(t *testing.T) {
	var rules []api.Rule
	for _, head := range []string{"a", "b", "c"} {
		for bits := range 8 {
			rules = append(rules, api.Rule{Head: named(head), Body: anyOf(bits)})
		}
	}
	for _, x := range rules {
		for _, y := range rules {
			for _, z := range rules {
				p := api.Program{Rules: []api.Rule{x, y, z}}
				want, wrong := toldAgain(p)
				l, e := check.Levels(p)
				if e != wrong || !slices.Equal(l, want) {
					t.Fatalf("%s: %v, %v, not %v, %v", told(p), l, e, want, wrong)
				}
			}
		}
	}
}

// P10.3: what depends on more is no lower: a rule more, or a part more, takes no other rule down.
func TestLevelsGrow(t *testing.T) {
	d := dice(3)
	for range 2000 {
		p := d.program()
		l, e := check.Levels(p)
		if e != api.OK || len(p.Rules) == 0 {
			continue
		}
		more := api.Program{Clauses: p.Clauses, Rules: slices.Clone(p.Rules)}
		i := d.below(len(p.Rules))
		more.Rules[i].Body = two(api.PatSeq, p.Rules[i].Body, of(named(d.one("a", "b", "c", "d"), num(1))))
		m, e := check.Levels(more)
		if e != api.OK {
			continue
		}
		for k := range l {
			if m[k] < l[k] {
				t.Fatalf("%s: %v, then %v", told(more), l, m)
			}
		}
	}
}

// P10.2: levels go with their rules, in whichever order these stand.
func TestLevelsGoAlong(t *testing.T) {
	d := dice(4)
	for range 2000 {
		p := d.program()
		l, e := check.Levels(p)
		back := api.Program{Clauses: slices.Clone(p.Clauses), Rules: slices.Clone(p.Rules)}
		slices.Reverse(back.Clauses)
		slices.Reverse(back.Rules)
		m, f := check.Levels(back)
		slices.Reverse(m)
		if e != f || !slices.Equal(l, m) {
			t.Fatalf("%s: %v, %v; turned round %v, %v", told(p), l, e, m, f)
		}
	}
}

// roomy is a program whose lists have room behind them, with something in it.
func roomy() api.Program {
	terms := []api.Term{aVar("X"), aVar("Y"), aVar("Z"), aVar("Z")}
	b := api.Pattern{Kind: api.PatTerm, Term: api.Term{Kind: api.TermName, Name: "b", Args: terms[:2]}}
	parts := []api.Pattern{b, b, b, {Kind: -1}}
	body := api.Pattern{Kind: api.PatNot, L: parts[:1], C: parts[1:2], R: parts[2:3]}
	guards := []api.Guard{{Kind: api.GuardKnown, L: named("k", aVar("Z"))}, less(), {Kind: -1}}
	rules := []api.Rule{{Head: named("a", terms[:3]...), Body: body, Guards: guards[:2]}, {Head: named("d"), Body: of(named("a", terms[:3]...))}, {Within: -1}}
	clauses := []api.Clause{{Head: named("k", aVar("Z")), Body: []api.Term{named("m", aVar("Z")), {}}[:1], Guards: guards[1:2]}, {}}
	return api.Program{Clauses: clauses[:1], Rules: rules[:2]}
}

// whole is all of roomy, with what is behind its lists.
func whole(p api.Program) string {
	r := p.Rules[0]
	return told([]any{p.Clauses[:cap(p.Clauses)], p.Rules[:cap(p.Rules)], p.Clauses[0].Body[:2], r.Guards[:3], r.Body.L[:4], r.Body.L[0].Term.Args[:4], r.Head.Args[:4]})
}

// R2: nothing that is handed in changes, nor what is behind it; what is told shares nothing with what is told again.
func TestMemory(t *testing.T) {
	p := roomy()
	ahead := whole(p)
	for range 3 {
		first, e := check.Levels(p)
		second, f := check.Levels(p)
		if !slices.Equal(first, []int{0, 1}) || e != api.OK || f != api.OK {
			t.Fatalf("%v, %v, %v", first, e, f)
		}
		for i := range first[:cap(first)] {
			first[:cap(first)][i] = -7
		}
		_ = append(first, 9)
		if !slices.Equal(second, []int{0, 1}) {
			t.Errorf("%v", second)
		}
		if e, f, g := check.Program(p), check.Rule(p.Rules[0]), check.Clause(p.Clauses[0]); e != api.OK || f != api.OK || g != api.OK {
			t.Errorf("%v, %v, %v", e, f, g)
		}
		if whole(p) != ahead {
			t.Fatalf("%s: changed to %s", ahead, whole(p))
		}
	}
}

// R1: what was asked ahead does not matter, nor what was wrong in it.
func TestSameAgain(t *testing.T) {
	d := dice(5)
	var programs []api.Program
	var first []string
	tell := func(p api.Program) string {
		l, e := check.Levels(p)
		return fmt.Sprint(l, e, check.Program(p))
	}
	for range 300 {
		p := d.program()
		programs = append(programs, p)
		first = append(first, tell(p))
	}
	for n := range 5 {
		for i := range programs {
			i = (i*7 + n) % len(programs)
			if s := tell(programs[i]); s != first[i] {
				t.Fatalf("%s: %s, then %s", told(programs[i]), first[i], s)
			}
		}
	}
}
