package meet_test

import (
	"fmt"
	"strconv"
	"testing"

	"almagest/api"
	"almagest/meet"
)

// roomy is the same term with room behind each list, so that it would be seen if somebody wrote there.
func roomy(t api.Term) api.Term {
	args := make([]api.Term, 0, len(t.Args)+2)
	for _, a := range t.Args {
		args = append(args, roomy(a))
	}
	t.Args = args
	return t
}

func roomyFacts(l []api.Kept) []api.Kept {
	x := make([]api.Kept, 0, len(l)+2)
	for _, k := range l {
		k.Fact.Term = roomy(k.Fact.Term)
		x = append(x, k)
	}
	return x
}

func roomyPatterns(l []api.Pattern) []api.Pattern {
	x := make([]api.Pattern, 0, len(l)+2)
	for _, p := range l {
		p.Term = roomy(p.Term)
		p.L, p.R, p.C = roomyPatterns(p.L), roomyPatterns(p.R), roomyPatterns(p.C)
		x = append(x, p)
	}
	return x
}

// whole tells all of a list, the room behind it too.
func whole(l []api.Term) string {
	s := strconv.Itoa(len(l))
	for _, t := range l[:cap(l)] {
		s += fmt.Sprint(" ", t.Kind, t.Name, t.N, "(", whole(t.Args), ")")
	}
	return s
}

func wholeFacts(l []api.Kept) string {
	s := strconv.Itoa(len(l))
	for _, k := range l[:cap(l)] {
		s += fmt.Sprint(" ", k.Seq, k.Fact.Span, whole([]api.Term{k.Fact.Term}))
	}
	return s
}

func wholePatterns(l []api.Pattern) string {
	s := strconv.Itoa(len(l))
	for _, p := range l[:cap(l)] {
		s += fmt.Sprint(" ", p.Kind, p.Rel, whole([]api.Term{p.Term}), "[", wholePatterns(p.L), wholePatterns(p.R), wholePatterns(p.C), "]")
	}
	return s
}

func wholeMatch(m api.Match) string {
	s := fmt.Sprint(m.Span, m.Used[:cap(m.Used)], len(m.Binds))
	for _, b := range m.Binds[:cap(m.Binds)] {
		s += " " + b.Name + whole([]api.Term{b.Term})
	}
	return s
}

// scribble writes into all of a list, and behind it.
func scribble(l []api.Term) {
	for i := range l[:cap(l)] {
		scribble(l[:cap(l)][i].Args)
		l[:cap(l)][i] = api.Term{Kind: 9, Name: "SCRIBBLE", N: 9}
	}
}

func scribbleMatch(m api.Match) {
	for i := range m.Used[:cap(m.Used)] {
		m.Used[:cap(m.Used)][i] = 999
	}
	for i := range m.Binds[:cap(m.Binds)] {
		scribble(m.Binds[:cap(m.Binds)][i].Term.Args)
		m.Binds[:cap(m.Binds)][i] = api.Bind{Name: "SCRIBBLE"}
	}
}

// R2: what is handed in is neither changed nor kept; what is told shares nothing with it, nor with what is told beside it, or another time.
func TestMemory(t *testing.T) {
	l := roomyFacts(kept(t, "a(1,h(2,i(3))) 1; b(h(2,i(3))) 2; b(h(2,i(3))) 3; c 4 6; d(h(h(1,2),h(1,2))) 9"))
	for _, s := range []string{"c", "b(X)", "a(X,Y) ; b(Y)", "a(X,Y) & b(Z)", "b(X) | b(Y) | a(U,X)", `a(X,Y) ; \+(c & b(X)) ; b(Y)`, "b(X) & b(Y) & b(Z)", "b(X) @before b(X)", "d(h(X,Y))", "d(X) & b(h(Y,Z))"} {
		p := roomyPatterns([]api.Pattern{pattern(t, s)})
		all := func() string { return wholeFacts(l) + wholePatterns(p) }
		ahead := all()
		for _, n := range []int{-1, 1} {
			tell := func() []api.Match {
				m, e := meet.With(l, p[0], n)
				if n < 0 {
					m, e = meet.All(l, p[0])
				}
				if e != api.OK || len(m) == 0 || all() != ahead {
					t.Fatalf("%s: %s, %v, %v", s, matchTexts(m), e, all() == ahead)
				}
				return m
			}
			m, k := tell(), tell()
			was := matchTexts(k)
			for i := range m {
				scribbleMatch(m[i])
			}
			clear(m[:cap(m)])
			if all() != ahead || matchTexts(k) != was || matchTexts(tell()) != was {
				t.Errorf("%s: shares what it tells", s)
			}
			apart(t, s, k)
		}
	}
}

// apart holds that no two lists of matches are one.
func apart(t *testing.T, s string, l []api.Match) {
	t.Helper()
	for i := range l {
		for j := range l[i].Binds {
			behind := l[i]
			behind.Binds = behind.Binds[j+1:]
			was := matchTexts(l[i+1:]) + wholeMatch(behind)
			args := l[i].Binds[j].Term.Args
			for k := range args {
				was := whole(args[k+1:])
				scribble(args[k].Args)
				if whole(args[k+1:]) != was {
					t.Errorf("%s: %d, %d, %d shares with those behind it", s, i, j, k)
				}
			}
			scribble(args)
			if matchTexts(l[i+1:])+wholeMatch(behind) != was {
				t.Errorf("%s: %d, %d shares with those behind it", s, i, j)
			}
		}
		was := matchTexts(l[i+1:])
		scribbleMatch(l[i])
		if matchTexts(l[i+1:]) != was {
			t.Errorf("%s: %d shares with those behind it", s, i)
		}
	}
}

// R2: Order changes nothing.
func TestOrderMemory(t *testing.T) {
	of := func(s string) api.Match {
		m := matchOf(append(make([]int, 0, 4), 1, 2), 3, 4, append(make([]api.Bind, 0, 4), binds(t, s)...))
		for i := range m.Binds {
			m.Binds[i].Term = roomy(m.Binds[i].Term)
		}
		return m
	}
	for _, s := range []string{"X=f(1,g(a)) Y=b", "X=f(2,g(a)) Y=b", "X=f(1,g(a))", "Y=f(1,g(a)) X=b", ""} {
		a, b := of("X=f(1,g(a)) Y=b"), of(s)
		ahead := wholeMatch(a) + wholeMatch(b)
		meet.Order(a, b)
		meet.Order(b, a)
		if wholeMatch(a)+wholeMatch(b) != ahead {
			t.Errorf("%s: changed", s)
		}
	}
}
