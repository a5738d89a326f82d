package meet_test

import (
	"slices"
	"testing"

	"almagest/api"
	"almagest/meet"
)

func leaf(s string, args ...api.Term) api.Pattern {
	return api.Pattern{Kind: api.PatTerm, Term: named(s, args...)}
}

func two(kind int, l, r api.Pattern) api.Pattern {
	return api.Pattern{Kind: kind, L: []api.Pattern{l}, R: []api.Pattern{r}}
}

// unless is L, behind it R, and no C between.
func unless(l, c, r api.Pattern) api.Pattern {
	p := two(api.PatNot, l, r)
	p.C = []api.Pattern{c}
	return p
}

// sized has so many terms, 1 to 16, no more than 5 deep.
func sized(n int) api.Pattern {
	if n == 1 {
		return leaf("a")
	}
	return two(api.PatOr, sized(n/2), sized(n-n/2))
}

// tall is so deep.
func tall(n int) api.Pattern {
	p := leaf("a")
	for range n - 1 {
		p = two(api.PatOr, leaf("a"), p)
	}
	return p
}

// round is a pattern within itself, on a side.
func round(side func(p *api.Pattern) []api.Pattern) api.Pattern {
	p := unless(leaf("a"), leaf("c"), leaf("b"))
	side(&p)[0] = p
	return p
}

// notPatterns may not be: each for one cause.
func notPatterns() []api.Pattern {
	var l []api.Pattern
	for _, side := range sides() {
		l = append(l, round(side))
	}
	for _, kind := range []int{api.PatNone, -1, api.PatRel + 1, 1 << 40, -1 << 63} {
		p := two(kind, leaf("a"), leaf("b"))
		l = append(l, api.Pattern{Kind: kind}, api.Pattern{Kind: kind, Term: named("a")}, p)
	}
	for _, x := range append(notTerms(), aVar("X"), num(1)) {
		l = append(l, api.Pattern{Kind: api.PatTerm, Term: x})
	}
	for _, spoil := range spoils() {
		for kind := api.PatTerm; kind <= api.PatRel; kind++ {
			p := proper(kind)
			if spoil(&p) {
				l = append(l, p)
			}
		}
	}
	for _, rel := range []int{-1, api.RelNone, api.RelAfter + 1, 1 << 40, -1 << 63} {
		p := proper(api.PatRel)
		p.Rel = rel
		l = append(l, p)
	}
	return append(l, sized(api.MaxParts+1), tall(api.MaxDeep+1), unless(sized(4), sized(5), sized(4)), unless(leaf("a"), tall(api.MaxDeep), leaf("b")), two(api.PatSeq, tall(api.MaxDeep), leaf("b")))
}

func sides() []func(p *api.Pattern) []api.Pattern {
	return []func(p *api.Pattern) []api.Pattern{
		func(p *api.Pattern) []api.Pattern { return p.L },
		func(p *api.Pattern) []api.Pattern { return p.R },
		func(p *api.Pattern) []api.Pattern { return p.C },
	}
}

// proper is one that may be.
func proper(kind int) api.Pattern {
	switch kind {
	case api.PatTerm:
		return leaf("a")
	case api.PatNot:
		return unless(leaf("a"), leaf("c"), leaf("b"))
	}
	p := two(kind, leaf("a"), leaf("b"))
	if kind == api.PatRel {
		p.Rel = api.RelEqual
	}
	return p
}

// spoils make one that may be one that may not; they tell false where that kind stays one that may be.
func spoils() []func(p *api.Pattern) bool {
	return []func(p *api.Pattern) bool{
		func(p *api.Pattern) bool { p.Rel = api.RelBefore; return p.Kind != api.PatRel },
		func(p *api.Pattern) bool { p.Term = named("a"); return p.Kind != api.PatTerm },
		func(p *api.Pattern) bool { p.Term.N = 1; return true },
		func(p *api.Pattern) bool { p.L = append(p.L, leaf("d")); return true },
		func(p *api.Pattern) bool { p.R = append(p.R, leaf("d")); return true },
		func(p *api.Pattern) bool { p.C = append(p.C, leaf("d")); return true },
		func(p *api.Pattern) bool { p.L = append(p.L, leaf("d"), leaf("d")); return true },
		func(p *api.Pattern) bool { p.L = nil; return p.Kind != api.PatTerm },
		func(p *api.Pattern) bool { p.R = nil; return p.Kind != api.PatTerm },
		func(p *api.Pattern) bool { p.C = nil; return p.Kind == api.PatNot },
		func(p *api.Pattern) bool { p.R = make([]api.Pattern, 1<<18); return true },
	}
}

// badFacts may not be, each for one cause.
func badFacts() []api.Fact {
	at := api.Span{From: 1, To: 2}
	var l []api.Fact
	for _, x := range append(notTerms(), aVar("X"), num(1), named("a", aVar("X")), named("a", num(1), named("b", aVar("X")))) {
		l = append(l, api.Fact{Term: x, Span: at})
	}
	for _, s := range []api.Span{{From: 2, To: 1}, {From: 0, To: -1}, {From: -api.MaxNum - 1, To: 0}, {From: 0, To: api.MaxNum + 1}, {From: 1 << 62, To: 1 << 62}, {From: -1 << 63, To: 1<<63 - 1}} {
		l = append(l, api.Fact{Term: named("a"), Span: s})
	}
	return l
}

// badLists may not be, each for one cause.
func badLists(t *testing.T) [][]api.Kept {
	l := [][]api.Kept{numbered(points("a", api.MaxFacts+1, 0)), make([]api.Kept, 1<<18)}
	for _, s := range []string{"a 1; a 1", "a 1; b 1; a 1", "f(1) 1 2; f(1) 1 2", "#3 a 1; #3 b 1", "#3 a 1; #2 b 1", "#0 a 1; #5 b 1; #4 c 1", "#-1 a 1", "#-9223372036854775808 a 1"} {
		l = append(l, kept(t, s))
	}
	for _, f := range badFacts() {
		good := kept(t, "b 1; c 2")
		l = append(l, []api.Kept{{Seq: 0, Fact: f}}, append(good, api.Kept{Seq: 2, Fact: f}), []api.Kept{{Seq: 0, Fact: f}, {Seq: 1, Fact: good[0].Fact}})
	}
	return l
}

// refused holds that both calls tell an error, and nothing beside it.
func refused(t *testing.T, what string, i int, l []api.Kept, p api.Pattern, want api.Errno) {
	t.Helper()
	if m, e := meet.All(l, p); m != nil || e != want {
		t.Errorf("%s, %d: %d, %v", what, i, len(m), e)
	}
	for _, n := range []int{-1 << 63, 0, 1, 1<<63 - 1} {
		if m, e := meet.With(l, p, n); m != nil || e != want {
			t.Errorf("%s, %d, %d: %d, %v", what, i, n, len(m), e)
		}
	}
}

// P13.1: a list that may not be is ErrForm, whatever the pattern asks for.
func TestBadLists(t *testing.T) {
	for i, l := range badLists(t) {
		for _, s := range []string{"a", "zzz", "a ; b", "a | b", `a ; \+(b) ; zzz`, "a & b & c"} {
			refused(t, s, i, l, pattern(t, s), api.ErrForm)
		}
	}
}

// P13.1: a pattern that may not be is ErrForm, alone and on each side of each kind.
func TestBadPatterns(t *testing.T) {
	for kind := api.PatTerm; kind <= api.PatRel; kind++ {
		if _, e := allOf(t, kept(t, "a 1; b 1; c 1"), proper(kind)); e != api.OK {
			t.Errorf("%d: %v", kind, e)
		}
	}
	for i, p := range notPatterns() {
		refused(t, "alone", i, kept(t, "a 1; b 2"), p, api.ErrForm)
		refused(t, "without facts", i, nil, p, api.ErrForm)
		for kind := api.PatSeq; kind <= api.PatRel; kind++ {
			for k, side := range sides() {
				x := proper(kind)
				if s := side(&x); len(s) > 0 {
					s[0] = p
					refused(t, "within", 100*i+10*kind+k, kept(t, "a 1; b 2"), x, api.ErrForm)
				}
			}
		}
	}
	refused(t, "none", 0, nil, api.Pattern{}, api.ErrForm)
}

// crowd has more matches than may be.
func crowd(t *testing.T) ([]api.Kept, api.Pattern) {
	return numbered(points("f", 40, 0), points("g", 40, 0)), pattern(t, "f(X) & g(Y)")
}

// P13.1: where ErrForm and ErrLimit apply, ErrForm is told.
func TestOrderOfErrors(t *testing.T) {
	l, p := crowd(t)
	refused(t, "the limit", 0, l, p, api.ErrLimit)
	for i, q := range notPatterns() {
		refused(t, "a pattern behind", i, l, two(api.PatSeq, p, q), api.ErrForm)
		refused(t, "a pattern ahead", i, l, two(api.PatSeq, q, p), api.ErrForm)
		refused(t, "a pattern between", i, l, unless(p, q, leaf("a")), api.ErrForm)
	}
	for i, f := range badFacts() {
		refused(t, "a fact behind", i, append(slices.Clone(l), api.Kept{Seq: len(l), Fact: f}), p, api.ErrForm)
	}
	refused(t, "alike", 0, append(slices.Clone(l), api.Kept{Seq: len(l), Fact: l[0].Fact}), p, api.ErrForm)
	refused(t, "a Seq", 0, append(slices.Clone(l), api.Kept{Seq: len(l) - 1, Fact: api.Fact{Term: named("a")}}), p, api.ErrForm)
}

// P13.1: each limit of what a list and a pattern may be, just met.
func TestLimitsMet(t *testing.T) {
	l := numbered(points("a", api.MaxFacts, -5))
	m, e := allOf(t, l, pattern(t, "a(X)"))
	if len(m) != api.MaxFacts || e != api.OK {
		t.Errorf("%d, %v", len(m), e)
	}
	for _, p := range []api.Pattern{sized(api.MaxParts), tall(api.MaxDeep), unless(sized(4), sized(4), sized(4)), unless(tall(api.MaxDeep-1), tall(api.MaxDeep-4), leaf("a"))} {
		if _, e := allOf(t, kept(t, "a 1; a 5"), p); e != api.OK {
			t.Errorf("%v: %v", p, e)
		}
	}
	most := deep(api.MaxDepth, num(api.MaxNum))
	full := wide(api.MaxSize, num(-api.MaxNum))
	facts := []api.Kept{{Seq: 0, Fact: api.Fact{Term: most, Span: api.Span{From: -api.MaxNum, To: api.MaxNum}}}, {Seq: 1<<63 - 1, Fact: api.Fact{Term: full, Span: api.Span{From: api.MaxNum, To: api.MaxNum}}}}
	p := two(api.PatAnd, api.Pattern{Kind: api.PatTerm, Term: deep(api.MaxDepth, aVar("D"))}, api.Pattern{Kind: api.PatTerm, Term: wide(api.MaxSize, aVar("W"))})
	m, e = allOf(t, facts, p)
	if matchTexts(m) != "0,9223372036854775807 -1073741824..1073741824 D=1073741824 W=-1073741824" || e != api.OK {
		t.Errorf("%s, %v", matchTexts(m), e)
	}
	m, e = allOf(t, facts, pattern(t, "f(A) & f(B,C,D,E)"))
	if len(m) != 1 || text(m[0].Binds[0].Term) != text(most.Args[0]) || text(m[0].Binds[4].Term) != text(full.Args[3]) || e != api.OK {
		t.Errorf("%s, %v", matchTexts(m), e)
	}
}
