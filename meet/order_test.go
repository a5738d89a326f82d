package meet_test

import (
	"cmp"
	"slices"
	"strings"
	"testing"

	"almagest/api"
	"almagest/meet"
)

// binds are those of a text as "X=1 Y=f(a)".
func binds(t *testing.T, text string) []api.Bind {
	t.Helper()
	var l []api.Bind
	for _, s := range strings.Fields(text) {
		name, x, _ := strings.Cut(s, "=")
		l = append(l, api.Bind{Name: name, Term: one(t, x)})
	}
	return l
}

func matchOf(used []int, from int, to int, l []api.Bind) api.Match {
	return api.Match{Binds: l, Span: api.Span{From: from, To: to}, Used: used}
}

// rise holds that each is ahead of all behind it, and alike with itself alone.
func rise(t *testing.T, what string, l []api.Match) {
	t.Helper()
	for i, a := range l {
		for k, b := range l {
			if c := meet.Order(a, b); c != cmp.Compare(i, k) {
				t.Errorf("%s: %d (%s), %d (%s): %d", what, i, matchText(a), k, matchText(b), c)
			}
		}
	}
}

// P13.2: by what is used, number by number; one that begins another is ahead of it.
func TestOrderByUsed(t *testing.T) {
	least, most := -1<<63, 1<<63-1
	var l []api.Match
	// Spans and binds fall, so they must not count.
	for i, used := range [][]int{nil, {least}, {least, most}, {-1}, {-1, -1}, {0}, {0, least}, {0, 0}, {0, 0, 0}, {0, 0, 1}, {0, 1}, {0, 1, 0}, {0, 2}, {0, 10}, {1}, {1, 0, 0, 0, 0, 0, 0, 0, 0, 0, 0, 0, 0}, {1, 1}, {2}, {9, 9, 9}, {10}, {most}, {most, least}, {most, most}} {
		l = append(l, matchOf(used, -i, -2*i, []api.Bind{{Name: "X", Term: num(-i)}}))
	}
	rise(t, "used", l)
	long := make([]int, 1<<16)
	behind := slices.Clone(long)
	behind[1<<16-1] = 1
	rise(t, "long", []api.Match{matchOf(long[1:], 0, 0, nil), matchOf(long, 0, 0, nil), matchOf(behind, 0, 0, nil)})
}

// P13.2: by the span, From ahead of To, whatever a span may be.
func TestOrderBySpan(t *testing.T) {
	least, most := -1<<63, 1<<63-1
	var l []api.Match
	for i, s := range []api.Span{{From: least, To: most}, {From: -5, To: -9}, {From: -5, To: -5}, {From: -5, To: 7}, {From: -1, To: -2}, {From: 0, To: least}, {From: 0, To: 0}, {From: 0, To: 1}, {From: 0, To: most}, {From: 1, To: 0}, {From: 1, To: 1}, {From: 1 << 40, To: -1 << 40}, {From: most, To: least}, {From: most, To: most}} {
		l = append(l, matchOf([]int{3, 4}, s.From, s.To, []api.Bind{{Name: "X", Term: num(-i)}}))
	}
	rise(t, "span", l)
}

// P13.2: by the binds, name by name, and of each name term by term; one that begins another is ahead of it.
func TestOrderByBinds(t *testing.T) {
	var l []api.Match
	for _, s := range []string{"", "A=B", "A=B C=1", "A=C", "A=C D=1", "A=-5", "A=1", "A=1 B=C", "A=1 B=1", "A=1 B=1 C=1", "A=1 B=2", "A=1 B=a", "A=1 C=0", "A=2", "A=2 B=0", "A=10", "A=a", "A=a X=1", "A=b", "A=ba", "A=bb", "A=c", "A=a(X)", "A=a(1)", "A=a(b)", "A=a(c)", "A=a(a(1))", "A=a(a(2))", "A=b(0)", "A=a(X,X)", "A=a(X,Y)", "A=a(1,1)", "A=a(1,a)", "A=a(2,0)", "A0=0", "AA=0", "AB=0", "A_=0", "Aa=0", "B=1", "B=1 C=1", "B=2", "X=1", "X=1 Y=1", "X=1 Y=2", "X=1 Y=2 Z=0", "X=1 Z=0", "X=2 Y=1", "Y=1", "Z=1"} {
		l = append(l, matchOf([]int{3, 4}, 5, 6, binds(t, s)))
	}
	rise(t, "binds", l)
}

// P13.2: what is used counts first, then the span, then the binds.
func TestOrderInTurn(t *testing.T) {
	var l []api.Match
	for _, used := range [][]int{{1}, {1, 2}, {2}} {
		for _, s := range []api.Span{{From: 1, To: 4}, {From: 1, To: 5}, {From: 2, To: 3}} {
			for _, b := range []string{"", "X=1", "X=1 Y=0", "X=2", "Y=1"} {
				l = append(l, matchOf(used, s.From, s.To, binds(t, b)))
			}
		}
	}
	rise(t, "in turn", l)
}

// P13.2: a nil list and an empty one are one.
func TestOrderEmpty(t *testing.T) {
	a := matchOf(nil, 1, 2, nil)
	b := matchOf([]int{}, 1, 2, []api.Bind{})
	c := matchOf([]int{1}, 1, 2, []api.Bind{{Name: "X", Term: named("a")}})
	d := matchOf([]int{1}, 1, 2, []api.Bind{{Name: "X", Term: api.Term{Kind: api.TermName, Name: "a", Args: []api.Term{}}}})
	for _, x := range [][2]api.Match{{a, b}, {b, a}, {c, d}, {d, c}, {{}, {}}} {
		if n := meet.Order(x[0], x[1]); n != 0 {
			t.Errorf("%v, %v: %d", x[0], x[1], n)
		}
	}
	rise(t, "empty", []api.Match{a, c})
	rise(t, "empty", []api.Match{b, d})
}

// many binds so many names, from V00 on, each to its number.
func many(n int) []api.Bind {
	var l []api.Bind
	for i := range n {
		l = append(l, api.Bind{Name: "V" + string(rune('a'+i)), Term: num(i)})
	}
	return l
}

// deep is a term so deep, with core in the midst.
func deep(n int, core api.Term) api.Term {
	for range n - 1 {
		core = named("f", core)
	}
	return core
}

// wide is a term of so many (21 to 25) within it, itself counted; core is the last one of them.
func wide(n int, core api.Term) api.Term {
	four := named("g", list(4, num(1))...)
	return named("f", four, four, four, named("g", num(1), num(1), num(1), named("h", append(list(n-22, num(1)), core)...)))
}

// endless is a term within itself.
func endless() api.Term {
	t := named("f", num(0))
	t.Args[0] = t
	return t
}

// notTerms may not be, each for one cause, alone and within others.
func notTerms() []api.Term {
	long := strings.Repeat("a", api.MaxName+1)
	l := []api.Term{endless(), named("f", list(api.MaxArgs+1, num(1))...), deep(api.MaxDepth+1, num(1)), wide(api.MaxSize+1, num(1)), deep(1<<15, num(1))}
	for _, x := range []api.Term{{}, named(""), named("A"), named("1"), named("_"), named("a b"), named("a."), named("\xe4"), named("a\x00"), named("a\xff"), named(long), num(api.MaxNum + 1), num(-api.MaxNum - 1), aVar("x"), aVar(""), aVar("X "), aVar(strings.ToUpper(long)), {Kind: api.TermName + 1, Name: "a"}, {Kind: -1}, {Kind: api.TermName, Name: "a", N: 1}, {Kind: api.TermNum, Name: "a"}, {Kind: api.TermNum, N: 1, Args: list(1, num(1))}, {Kind: api.TermVar, Name: "X", N: 1}, {Kind: api.TermVar, Name: "X", Args: list(1, num(1))}} {
		l = append(l, x, named("f", x), named("f", num(1), x), named("f", named("g", x)))
	}
	return l
}

// badBinds are binds that may not be: each for one cause alone.
func badBinds(t *testing.T) [][]api.Bind {
	l := [][]api.Bind{many(api.MaxBinds + 1), list(1<<16, api.Bind{Name: "X", Term: num(1)}), list(2, api.Bind{Name: "X", Term: num(1)})}
	for _, s := range []string{"Y=1 X=2", "X=1 X=1", "A=1 C=2 B=3", "X=X", "X=f(X)", "X=f(1,g(X))", "X=Y Y=1", "X=1 Y=X", "X=1 Y=f(a,X)", "A=Z B=A"} {
		l = append(l, binds(t, s))
	}
	for _, s := range []string{"", "x", "_X", "0X", "X Y", "X-", "X\x00", "X\xe9", "X" + strings.Repeat("x", api.MaxName)} {
		l = append(l, []api.Bind{{Name: s, Term: num(1)}})
	}
	for _, x := range notTerms() {
		l = append(l, []api.Bind{{Name: "X", Term: x}}, []api.Bind{{Name: "A", Term: num(1)}, {Name: "X", Term: x}, {Name: "Z", Term: num(1)}})
	}
	return l
}

// P13.2: 0 where the binds of one, or of both, may not be, whatever else there is.
func TestOrderOfBadBinds(t *testing.T) {
	good := []api.Match{matchOf(nil, 0, 0, nil), matchOf([]int{1}, 1, 2, binds(t, "X=1")), matchOf([]int{9}, 5, 5, many(api.MaxBinds))}
	rise(t, "good", good)
	for i, l := range badBinds(t) {
		bad := []api.Match{matchOf(nil, -1, -1, l), matchOf([]int{1}, 1, 2, l), matchOf([]int{5, 5}, 9, 9, l)}
		for k, x := range bad {
			for _, y := range slices.Concat(good, bad) {
				if meet.Order(x, y) != 0 || meet.Order(y, x) != 0 {
					t.Errorf("%d, %d: %d, %d", i, k, meet.Order(x, y), meet.Order(y, x))
				}
			}
		}
	}
}

// P13.2: each limit of what binds may be, just met.
func TestOrderLimits(t *testing.T) {
	long := strings.Repeat("V", api.MaxName)
	var l []api.Match
	for _, b := range [][]api.Bind{
		{{Name: long, Term: aVar("W")}},
		{{Name: long, Term: num(-api.MaxNum)}},
		{{Name: long, Term: num(api.MaxNum)}},
		{{Name: long, Term: named("z")}},
		{{Name: long, Term: named(strings.Repeat("z", api.MaxName))}},
		{{Name: long, Term: deep(api.MaxDepth, aVar("W"))}},
		{{Name: long, Term: deep(api.MaxDepth, num(1))}},
		{{Name: long, Term: deep(api.MaxDepth, num(2))}},
		{{Name: long, Term: wide(api.MaxSize-1, num(2))}},
		{{Name: long, Term: wide(api.MaxSize, num(1))}},
		{{Name: long, Term: wide(api.MaxSize, num(2))}},
		many(api.MaxBinds - 1),
		many(api.MaxBinds),
		append(many(api.MaxBinds-1), api.Bind{Name: "W", Term: num(0)}),
	} {
		l = append(l, matchOf(nil, 0, 0, b))
	}
	rise(t, "limits", l)
}
