package unify

import (
	"fmt"
	"math"
	"strings"
	"testing"

	"almagest/api"
	"almagest/bind"
)

// readTerm takes a term as it is written, without spaces: what is left of the text stays behind it.
func readTerm(s string) (api.Term, string) {
	end := strings.IndexAny(s, "(),")
	if end < 0 {
		end = len(s)
	}
	word, rest := s[:end], s[end:]
	var n int
	if _, err := fmt.Sscanf(word, "%d", &n); err == nil {
		return number(n), rest
	}
	if 'A' <= word[0] && word[0] <= 'Z' {
		return aVar(word), rest
	}
	t := named(word)
	if !strings.HasPrefix(rest, "(") {
		return t, rest
	}
	for rest[0] != ')' {
		var a api.Term
		a, rest = readTerm(rest[1:])
		t.Args = append(t.Args, a)
	}
	return t, rest[1:]
}

func one(s string) api.Term {
	t, rest := readTerm(s)
	if rest != "" {
		panic("not a term: " + s)
	}
	return t
}

// list takes binds as they are written: X=1 Y=f(Z).
func list(s string) []api.Bind {
	var l []api.Bind
	for _, x := range strings.Fields(s) {
		name, t, _ := strings.Cut(x, "=")
		l = append(l, api.Bind{Name: name, Term: one(t)})
	}
	return l
}

func aVar(name string) api.Term { return api.Term{Kind: api.TermVar, Name: name} }

func number(n int) api.Term { return api.Term{Kind: api.TermNum, N: n} }

func named(name string, args ...api.Term) api.Term {
	return api.Term{Kind: api.TermName, Name: name, Args: args}
}

// tower is so many names within each other, core the innermost, as a text.
func tower(deep int, core string) string {
	return strings.Repeat("t(", deep-1) + core + strings.Repeat(")", deep-1)
}

// bush has just so many terms (6 to 25), and is at most 4 deep, as a text.
func bush(size int) string {
	left := size - 5
	var arms []string
	for range 4 {
		k := min(left, 4)
		left -= k
		if k == 0 {
			arms = append(arms, "c")
			continue
		}
		arms = append(arms, "c(1"+strings.Repeat(",1", k-1)+")")
	}
	for range left {
		arms[0] = strings.Replace(arms[0], "1", "d(0)", 1)
	}
	return "b(" + strings.Join(arms, ",") + ")"
}

// many binds so many names, from V00 on, each to its number, as a text.
func many(n int) string {
	var l []string
	for i := range n {
		l = append(l, fmt.Sprintf("V%02d=%d", i, i))
	}
	return strings.Join(l, " ")
}

// fmt shows each field, and a nil list as an empty one.
func same(a, b any) bool { return fmt.Sprint(a) == fmt.Sprint(b) }

type call func(l []api.Bind, a api.Term, b api.Term) ([]api.Bind, api.Errno)

// asked is one call, as texts, and what it tells: binds, or beside an error none.
type asked struct {
	l, a, b string
	want    string
	e       api.Errno
}

func try(t *testing.T, what string, f call, c asked) {
	t.Helper()
	m, e := f(list(c.l), one(c.a), one(c.b))
	if e != c.e || !same(m, list(c.want)) {
		t.Errorf("%s, binds %q, of %s, %s: %v, %v, not %q, %v", what, c.l, c.a, c.b, m, e, c.want, c.e)
	}
	if bind.Check(m) != api.OK {
		t.Errorf("%s, binds %q, of %s, %s: may not be: %v", what, c.l, c.a, c.b, m)
	}
}

// bothWays: which of the two terms is the first one is not to be seen.
func bothWays(t *testing.T, what string, c asked) {
	t.Helper()
	try(t, what, Unify, c)
	c.a, c.b = c.b, c.a
	try(t, what+", turned", Unify, c)
}

// P3.1: the example of the chapter.
func TestExample(t *testing.T) {
	try(t, "Unify", Unify, asked{"", "f(X,1)", "f(2,Y)", "X=2 Y=1", api.OK})
}

// P3.1: binds that make both alike, with those that are there.
func TestUnify(t *testing.T) {
	long := "X" + strings.Repeat("x", api.MaxName-2)
	for _, c := range []asked{
		{"", "1", "1", "", api.OK},
		{"", "-1073741824", "-1073741824", "", api.OK},
		{"", "a", "a", "", api.OK},
		{"", "f(1,g(a,2),b)", "f(1,g(a,2),b)", "", api.OK},
		{"", "X", "1", "X=1", api.OK},
		{"", "X", "a", "X=a", api.OK},
		{"", "X", "f(Y,g(Z))", "X=f(Y,g(Z))", api.OK},
		{"", "f(X,g(Y),Z)", "f(g(1),g(a),f(2))", "X=g(1) Y=a Z=f(2)", api.OK},
		{"", "f(X,Y)", "f(1,X)", "X=1 Y=1", api.OK},
		{"", "f(Y,1)", "f(X,X)", "X=1 Y=1", api.OK},
		{"", "f(X,Y,Z)", "f(g(Y),g(Z),1)", "X=g(g(1)) Y=g(1) Z=1", api.OK},
		{"", "f(X,X)", "f(g(Y),g(1))", "X=g(1) Y=1", api.OK},
		{"", "f(X,g(X))", "f(Y,g(1))", "X=1 Y=1", api.OK},
		{"", "f(" + long + "a," + long + "b)", "f(1,2)", long + "a=1 " + long + "b=2", api.OK},
		{"X=1", "X", "1", "X=1", api.OK},
		{"X=1", "f(X,Y)", "f(1,X)", "X=1 Y=1", api.OK},
		{"X=f(Y)", "X", "f(1)", "X=f(1) Y=1", api.OK},
		{"A=g(X) C=Y", "f(X,Y)", "f(2,h(Z))", "A=g(2) C=h(Z) X=2 Y=h(Z)", api.OK},
		{"A=X B=X", "A", "B", "A=X B=X", api.OK},
		{"A=X B=Y", "A", "B", "A=X B=X Y=X", api.OK},
		{"Q=7", "1", "1", "Q=7", api.OK},
		{"Q=f(P)", "a", "a", "Q=f(P)", api.OK},
	} {
		bothWays(t, "Unify", c)
	}
}

// P3.1: of two variables the greater name is set, whichever comes first; of one and itself nothing is.
func TestTwoVariables(t *testing.T) {
	for _, c := range []asked{
		{"", "X", "Y", "Y=X", api.OK},
		{"", "X", "XX", "XX=X", api.OK},
		{"", "Xa", "XB", "Xa=XB", api.OK},
		{"", "X_", "X9", "X_=X9", api.OK},
		{"", "X_", "Xa", "Xa=X_", api.OK},
		{"", "X", "X", "", api.OK},
		{"Y=1", "X", "X", "Y=1", api.OK},
		{"", "f(X,X)", "f(X,Y)", "Y=X", api.OK},
		{"", "f(A,B,C)", "f(B,C,A)", "B=A C=A", api.OK},
		{"", "f(C,B)", "f(B,A)", "B=A C=A", api.OK},
		{"", "f(A,B)", "f(C,C)", "B=A C=A", api.OK},
		{"X=Q", "X", "Y", "X=Q Y=Q", api.OK},
		{"X=Y", "X", "Y", "X=Y", api.OK},
		{"X=Z", "X", "Y", "X=Y Z=Y", api.OK},
	} {
		bothWays(t, "Unify", c)
	}
}

// P3.1: what no binds make alike.
func TestUnifyNone(t *testing.T) {
	for _, c := range []struct{ l, a, b string }{
		{"", "1", "2"},
		{"", "1", "-1"},
		{"", "1", "a"},
		{"", "a", "b"},
		{"", "a", "ab"},
		{"", "f", "f(1)"},
		{"", "f(X)", "f(X,Y)"},
		{"", "f(1)", "1"},
		{"", "f(X)", "g(X)"},
		{"", "f(X,1)", "f(2,2)"},
		{"", "f(X,g(X))", "f(1,g(2))"},
		{"", "f(X,X)", "f(1,2)"},
		{"", "f(X,Y,X)", "f(Y,1,2)"},
		{"X=1", "X", "2"},
		{"X=f(Y)", "X", "g(1)"},
		{"X=f(Y) Z=f(2)", "f(X,Y)", "f(Z,3)"},
	} {
		bothWays(t, "Unify", asked{c.l, c.a, c.b, "", api.ErrNone})
	}
}

// P3.1: a variable stands for no term with itself in it, at once and by others.
func TestWithinItself(t *testing.T) {
	full := many(api.MaxBinds)
	for _, c := range []struct{ l, a, b string }{
		{"", "X", "f(X)"},
		{"", "X", tower(api.MaxDepth, "X")},
		{"", "X", "f(1,g(Y),g(X))"},
		{"", "f(X)", "f(g(X))"},
		{"", "f(X,Y)", "f(g(Y),g(X))"},
		{"", "f(X,X)", "f(Y,g(Y))"},
		{"", "f(X,Y,Z)", "f(Y,Z,g(X))"},
		{"", "f(X,Y,Z)", "f(g(Y),g(Z),g(X))"},
		{"Y=g(X)", "X", "Y"},
		{"Y=g(X)", "X", "f(1,Y)"},
		{"Y=X Z=g(X)", "Y", "Z"},
		{"Y=g(X) Z=X", "f(Z,1)", "f(Y,1)"},
		{full, "X", "f(X)"},
	} {
		bothWays(t, "Unify", asked{c.l, c.a, c.b, "", api.ErrNone})
	}
	// What was bound ahead of a pair can hide that a variable stands in its own term no more than it can make it so.
	bothWays(t, "Unify", asked{"Y=g(X)", "f(X,Z)", "f(1,Y)", "X=1 Y=g(1) Z=g(1)", api.OK})
	bothWays(t, "Unify", asked{"", "f(X,g(X))", "f(1,g(1))", "X=1", api.OK})
}

// P3.1, P3.2: MaxBinds just met and one beyond, of those handed in and of those found.
func TestMaxBinds(t *testing.T) {
	most, full := many(api.MaxBinds-1), many(api.MaxBinds)
	sixteen := "f(g(A,B,C,D),g(E,F,G,H),g(I,J,K,L),g(M,N,O,P))"
	numbers := "f(g(1,2,3,4),g(5,6,7,8),g(9,10,11,12),g(13,14,15,16))"
	found := "A=1 B=2 C=3 D=4 E=5 F=6 G=7 H=8 I=9 J=10 K=11 L=12 M=13 N=14 O=15 P=16"
	beyond := strings.Replace(sixteen, "P", "h(P,Q)", 1)
	for _, c := range []asked{
		{most, "A", "1", "A=1 " + most, api.OK},
		{most, "X", "a", most + " X=a", api.OK},
		{most, "f(X,V00,X)", "f(1,0,1)", most + " X=1", api.OK},
		{most, "f(X,Y)", "f(1,2)", "", api.ErrLimit},
		{full, "A", "1", "", api.ErrLimit},
		{full, "f(V15,X)", "f(15,1)", "", api.ErrLimit},
		{full, "f(V00,V15,1)", "f(0,15,1)", full, api.OK},
		{full, "f(V00)", "f(1)", "", api.ErrNone},
		{"", sixteen, numbers, found, api.OK},
		{"", beyond, strings.Replace(numbers, "16", "h(16,17)", 1), "", api.ErrLimit},
		{"A=1", sixteen, numbers, found, api.OK},
		{"Q=1", sixteen, numbers, "", api.ErrLimit},
	} {
		bothWays(t, "Unify", c)
		try(t, "Match", Match, c)
	}
	bothWays(t, "Unify", asked{full, "X", "Y", "", api.ErrLimit})
	bothWays(t, "Unify", asked{full, "X", "X", full, api.OK})
	bothWays(t, "Unify", asked{most, "X", "Y", most + " Y=X", api.OK})
}

// P3.1: the limits of terms, each just met and one beyond: of a bind, and of a term by Apply.
func TestTermLimits(t *testing.T) {
	three, five := tower(3, "1"), tower(api.MaxDepth, "1")
	most, ten := bush(api.MaxSize), bush(10)
	for _, c := range []asked{
		// Binds by Set, in the others too.
		{"", "X", five, "X=" + five, api.OK},
		{"", "X", most, "X=" + most, api.OK},
		{"Y=" + tower(3, "X"), "X", three, "X=" + three + " Y=" + five, api.OK},
		{"Y=" + tower(4, "X"), "X", three, "", api.ErrLimit},
		{"", "f(Y,X)", "f(" + tower(3, "X") + "," + three + ")", "X=" + three + " Y=" + five, api.OK},
		{"", "f(Y,X)", "f(" + tower(4, "X") + "," + three + ")", "", api.ErrLimit},
		{"Y=f(X,X,1,g(1))", "X", ten, "X=" + ten + " Y=f(" + ten + "," + ten + ",1,g(1))", api.OK},
		{"Y=f(X,X,1,g(1,2))", "X", ten, "", api.ErrLimit},
		// Terms by Apply.
		{"X=" + three, tower(3, "X"), "Y", "X=" + three + " Y=" + five, api.OK},
		{"X=" + three, tower(4, "X"), "Y", "", api.ErrLimit},
		{"X=" + three, tower(3, "X"), tower(3, "X"), "X=" + three, api.OK},
		{"X=" + three, tower(4, "X"), tower(4, "X"), "", api.ErrLimit},
		{"X=" + ten, "f(X,X,1,g(1))", "Y", "X=" + ten + " Y=f(" + ten + "," + ten + ",1,g(1))", api.OK},
		{"X=" + ten, "f(X,X,1,g(1,2))", "Y", "", api.ErrLimit},
		{"X=" + most, "X", "Y", "X=" + most + " Y=" + most, api.OK},
		{"X=" + most, "f(X)", "Y", "", api.ErrLimit},
		// By binds of the pairs ahead.
		{"", "f(X," + tower(3, "X") + ")", "f(" + three + ",Y)", "X=" + three + " Y=" + five, api.OK},
		{"", "f(X," + tower(4, "X") + ")", "f(" + three + ",Y)", "", api.ErrLimit},
		{"", "f(X,g(X,X))", "f(" + ten + ",Y)", "X=" + ten + " Y=g(" + ten + "," + ten + ")", api.OK},
		{"", "f(X,g(X,X,X))", "f(" + ten + ",Y)", "", api.ErrLimit},
	} {
		bothWays(t, "Unify", c)
	}
}

// P3.1: pairs are held to the limits one by one: both terms as wholes may be beyond them behind it all.
func TestPairsAlone(t *testing.T) {
	x := tower(4, "1")
	bothWays(t, "Unify", asked{"", "f(X,t(X))", "f(" + x + ",Y)", "X=" + x + " Y=t(" + x + ")", api.OK})
	bothWays(t, "Unify", asked{"", "f(X,t(t(X)))", "f(" + x + ",t(Y))", "", api.ErrLimit})
	bothWays(t, "Unify", asked{"", "f(X,g(t(X),1))", "f(" + x + ",g(t(Y),1))", "", api.ErrLimit})
}

// P3.1: the first pair that cannot be made alike, or is beyond a limit, tells its error.
func TestUnifyFirst(t *testing.T) {
	full := many(api.MaxBinds)
	deep := "X=" + tower(4, "1")
	for _, c := range []struct {
		l, a, b string
		e       api.Errno
	}{
		// Too many binds, and unlike.
		{full, "f(X,1)", "f(1,2)", api.ErrLimit},
		{full, "f(1,X)", "f(2,1)", api.ErrNone},
		{full, "f(g(X),1)", "f(g(1),2)", api.ErrLimit},
		{full, "f(g(1),X)", "f(g(2),1)", api.ErrNone},
		{full, "f(X,Y)", "f(1,g(Y))", api.ErrLimit},
		{full, "f(Y,X)", "f(g(Y),1)", api.ErrNone},
		{full, "f(X)", "g(1)", api.ErrNone},
		{full, "f(X,1)", "f(1)", api.ErrNone},
		// A bind beyond a limit, and unlike.
		{"Z=" + tower(4, "X"), "f(X,1)", "f(t(t(1)),2)", api.ErrLimit},
		{"Z=" + tower(4, "X"), "f(1,X)", "f(2,t(t(1)))", api.ErrNone},
		// A term by Apply beyond a limit, and unlike.
		{"", "f(X,t(t(X)),1)", "f(" + tower(4, "1") + ",Y,2)", api.ErrLimit},
		{"", "f(X,1,t(t(X)))", "f(" + tower(4, "1") + ",2,Y)", api.ErrNone},
		{"", "f(X,Z,t(t(X)))", "f(" + tower(4, "1") + ",g(Z),Y)", api.ErrNone},
		// A pair is taken by Apply ahead of all: so beyond a limit it is, whatever is within.
		{deep, "f(t(X),1)", "f(Y,2)", api.ErrLimit},
		{deep, "f(1,t(X))", "f(2,Y)", api.ErrLimit},
		{deep, "f(t(X))", "g(Y)", api.ErrLimit},
		{deep, "t(t(X))", "1", api.ErrLimit},
		{"X=" + tower(4, "Z"), "t(t(X))", "Z", api.ErrLimit},
		{"X=" + tower(4, "Z"), "t(X)", "Z", api.ErrNone},
	} {
		bothWays(t, "Unify", asked{c.l, c.a, c.b, "", c.e})
	}
}

// P3.2: binds that make a b, with those of l; a's variables alone.
func TestMatch(t *testing.T) {
	long := "X" + strings.Repeat("x", api.MaxName-2)
	for _, c := range []asked{
		{"", "1", "1", "", api.OK},
		{"", "a", "a", "", api.OK},
		{"", "f(1,g(a))", "f(1,g(a))", "", api.OK},
		{"", "X", "1", "X=1", api.OK},
		{"", "X", tower(api.MaxDepth, "1"), "X=" + tower(api.MaxDepth, "1"), api.OK},
		{"", "X", bush(api.MaxSize), "X=" + bush(api.MaxSize), api.OK},
		{"", "f(Y,g(X),Z)", "f(h(1),g(a),2)", "X=a Y=h(1) Z=2", api.OK},
		{"", "f(X,g(X),X)", "f(h(1),g(h(1)),h(1))", "X=h(1)", api.OK},
		{"", "f(" + long + "b," + long + "a," + long + ")", "f(1,2,3)", long + "=3 " + long + "a=2 " + long + "b=1", api.OK},
		{"", "f(Xabcdefgh,Xabcdefgi,Xabcdefg,Yabcdefgh)", "f(1,2,3,4)", "Xabcdefg=3 Xabcdefgh=1 Xabcdefgi=2 Yabcdefgh=4", api.OK},
		{"X=1", "X", "1", "X=1", api.OK},
		{"X=f(1)", "g(X,Y)", "g(f(1),2)", "X=f(1) Y=2", api.OK},
		{"B=1 D=2", "f(E,C,A,D)", "f(5,4,3,2)", "A=3 B=1 C=4 D=2 E=5", api.OK},
		{"Q=7", "1", "1", "Q=7", api.OK},
		{"X=" + tower(5, "1"), "Y", "2", "X=" + tower(5, "1") + " Y=2", api.OK},
	} {
		try(t, "Match", Match, c)
	}
}

// P3.2: what no binds of a's variables make b.
func TestMatchNone(t *testing.T) {
	for _, c := range []struct{ l, a, b string }{
		{"", "1", "2"},
		{"", "1", "a"},
		{"", "a", "b"},
		{"", "f", "f(1)"},
		{"", "f(X)", "f"},
		{"", "f(X)", "f(1,2)"},
		{"", "f(X)", "g(1)"},
		{"", "f(X)", "1"},
		{"", "f(X,X)", "f(1,2)"},
		{"", "f(X,g(X))", "f(g(1),g(1))"},
		{"", "f(X,1)", "f(2,2)"},
		{"X=1", "X", "2"},
		{"X=1", "X", "a"},
		{"X=1", "f(Y,X)", "f(1,2)"},
		{"X=f(1)", "X", "f(2)"},
		{"X=f(1)", "g(X)", "g(f(1,1))"},
		// No term grows: what by Apply would be beyond a limit is unlike any that may be.
		{"X=" + tower(5, "1"), "t(X)", tower(5, "1")},
		{"X=" + tower(5, "1"), "t(X)", "f(1)"},
		{"X=" + bush(api.MaxSize), "f(X)", "f(1)"},
	} {
		try(t, "Match", Match, asked{c.l, c.a, c.b, "", api.ErrNone})
	}
}

// P3.2: the first error ends it.
func TestMatchFirst(t *testing.T) {
	full, most := many(api.MaxBinds), many(api.MaxBinds-1)
	for _, c := range []struct {
		l, a, b string
		e       api.Errno
	}{
		{full, "f(X,1)", "f(1,2)", api.ErrLimit},
		{full, "f(1,X)", "f(2,1)", api.ErrNone},
		{full, "f(g(X),1)", "f(g(1),2)", api.ErrLimit},
		{full, "f(g(1),X)", "f(g(2),1)", api.ErrNone},
		{full, "f(X,V00)", "f(1,1)", api.ErrLimit},
		{full, "f(V00,X)", "f(1,1)", api.ErrNone},
		{full, "f(X)", "g(1)", api.ErrNone},
		{full, "f(X)", "f", api.ErrNone},
		{full, "X", "1", api.ErrLimit},
		{most, "f(X,X,Y)", "f(1,2,3)", api.ErrNone},
		{most, "f(X,Y,X)", "f(1,2,3)", api.ErrLimit},
		{most, "f(X,X,Y)", "f(1,1,3)", api.ErrLimit},
	} {
		try(t, "Match", Match, asked{c.l, c.a, c.b, "", c.e})
	}
}

// wrongTerms may not be.
func wrongTerms() map[string]api.Term {
	ring := []api.Term{named("a")}
	ring[0].Args = ring
	deep := number(1)
	for range 1<<16 - 2 {
		deep = named("a", deep)
	}
	return map[string]api.Term{
		"nothing":             {},
		"a kind above":        {Kind: 4, Name: "a"},
		"a kind below":        {Kind: -1, Name: "a"},
		"a variable with N":   {Kind: api.TermVar, Name: "A", N: 1},
		"a variable of terms": {Kind: api.TermVar, Name: "A", Args: []api.Term{number(1)}},
		"a number with Name":  {Kind: api.TermNum, Name: "a"},
		"a low variable":      aVar("a"),
		"a high name":         named("A"),
		"a text":              named("a b"),
		"MaxName":             named(strings.Repeat("a", api.MaxName+1)),
		"MaxName, variable":   aVar(strings.Repeat("A", api.MaxName+1)),
		"MaxNum":              number(api.MaxNum + 1),
		"the least number":    number(math.MinInt),
		"MaxArgs":             one("a(1,2,3,4,5)"),
		"within":              named("a", number(1), api.Term{}),
		"MaxDepth":            one(tower(api.MaxDepth+1, "1")),
		"MaxSize":             one(bush(api.MaxSize + 1)),
		"very deep":           deep,
		"within itself":       ring[0],
	}
}

// wrongLists may not be.
func wrongLists() map[string][]api.Bind {
	l := map[string][]api.Bind{
		"MaxBinds":       list(many(api.MaxBinds + 1)),
		"very many":      make([]api.Bind, 1<<16),
		"falling":        list("Y=1 X=1"),
		"twice":          list("X=1 X=1"),
		"itself":         list("X=f(X)"),
		"an earlier one": list("X=1 Y=X"),
		"a later one":    list("X=f(Y) Y=1"),
		"a low name":     list("x=1"),
		"no name":        list("=1"),
		"a long name":    list("X" + strings.Repeat("x", api.MaxName) + "=1"),
	}
	for what, t := range wrongTerms() {
		l["first: "+what] = []api.Bind{{Name: "X", Term: t}, {Name: "Y", Term: number(1)}}
		l["last: "+what] = []api.Bind{{Name: "X", Term: number(1)}, {Name: "Y", Term: t}}
	}
	return l
}

func refused(t *testing.T, what string, m []api.Bind, e api.Errno) {
	t.Helper()
	if e != api.ErrForm || len(m) != 0 {
		t.Errorf("%s: %v, %v", what, m, e)
	}
}

// P3.1, P3.2: binds and terms that may not be are told of ahead of all other errors.
func TestWrong(t *testing.T) {
	calls := map[string]call{"Unify": Unify, "Match": Match}
	full := list(many(api.MaxBinds))
	deep := list("X=" + tower(api.MaxDepth, "1"))
	for name, f := range calls {
		for what, x := range wrongTerms() {
			for _, l := range [][]api.Bind{nil, list("X=1"), full, deep} {
				for _, y := range []api.Term{number(1), aVar("Z"), one("f(1)"), one("f(X)"), x} {
					m, e := f(l, x, y)
					refused(t, name+": first: "+what, m, e)
					m, e = f(l, y, x)
					refused(t, name+": second: "+what, m, e)
				}
			}
		}
		for what, l := range wrongLists() {
			for _, c := range [][2]string{{"1", "1"}, {"1", "2"}, {"X", "1"}, {"Z", "1"}, {"f(Z)", "g(1)"}} {
				m, e := f(l, one(c[0]), one(c[1]))
				refused(t, name+": "+what, m, e)
			}
		}
	}
}

// P3.2: binds and a second term that are not ground are refused, ahead of all other errors; the first term may be what it is.
func TestNotGround(t *testing.T) {
	full := many(api.MaxBinds)
	for _, c := range []struct{ l, a, b string }{
		{"", "X", "X"},
		{"", "X", "Y"},
		{"", "1", "X"},
		{"", "f(1,X)", "g(f(1,Y))"},
		{"", tower(5, "1"), tower(5, "X")},
		{"X=1", "X", "X"},
		{"X=1", "1", "f(X)"},
		{full, "X", "f(Y)"},
		{"X=Y", "1", "1"},
		{"X=Y", "X", "1"},
		{"X=Y", "1", "2"},
		{"X=1 Z=f(2,g(Y))", "1", "1"},
		{"X=" + tower(5, "Y") + " Z=1", "Z", "1"},
		{strings.Replace(full, "V15=15", "V15=A", 1), "X", "1"},
	} {
		try(t, "Match", Match, asked{c.l, c.a, c.b, "", api.ErrForm})
	}
	// Unify asks for no ground ones.
	try(t, "Unify", Unify, asked{"X=Y", "X", "f(Z)", "X=f(Z) Y=f(Z)", api.OK})
}
