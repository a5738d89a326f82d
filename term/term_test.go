package term

import (
	"cmp"
	"math"
	"slices"
	"strings"
	"testing"

	"almagest/api"
)

func variable(name string) api.Term { return api.Term{Kind: api.TermVar, Name: name} }

func number(n int) api.Term { return api.Term{Kind: api.TermNum, N: n} }

func named(name string, args ...api.Term) api.Term {
	return api.Term{Kind: api.TermName, Name: name, Args: args}
}

func alike(a, b api.Term) bool {
	return a.Kind == b.Kind && a.Name == b.Name && a.N == b.N && slices.EqualFunc(a.Args, b.Args, alike)
}

func zero(t api.Term) bool {
	return t.Kind == 0 && t.Name == "" && t.N == 0 && len(t.Args) == 0
}

// tower is so many names within each other, core the innermost.
func tower(deep int, core api.Term) api.Term {
	for range deep - 1 {
		core = named("t", core)
	}
	return core
}

// bush has just so many terms (6 to 25), and is 4 deep.
func bush(size int) api.Term {
	left := size - 5
	t := named("b")
	for range 4 {
		k := min(left, 4)
		left -= k
		x := named("c")
		for range k {
			x.Args = append(x.Args, number(k))
		}
		t.Args = append(t.Args, x)
	}
	for i := range left {
		t.Args[0].Args[i] = named("d", number(0))
	}
	return t
}

// refused holds every call with t against ErrForm, beside it the zero value.
func refused(t *testing.T, what string, x api.Term) {
	t.Helper()
	if e := Check(x); e != api.ErrForm {
		t.Errorf("%s: Check: %v", what, e)
	}
	if n, e := Depth(x); n != 0 || e != api.ErrForm {
		t.Errorf("%s: Depth: %v, %v", what, n, e)
	}
	if n, e := Size(x); n != 0 || e != api.ErrForm {
		t.Errorf("%s: Size: %v, %v", what, n, e)
	}
	if b, e := Ground(x); b || e != api.ErrForm {
		t.Errorf("%s: Ground: %v, %v", what, b, e)
	}
	if b, e := Atom(x); b || e != api.ErrForm {
		t.Errorf("%s: Atom: %v, %v", what, b, e)
	}
	if l, e := Vars(x); len(l) != 0 || e != api.ErrForm {
		t.Errorf("%s: Vars: %v, %v", what, l, e)
	}
	ok := named("zz")
	if c, e := Order(x, ok); c != 0 || e != api.ErrForm {
		t.Errorf("%s: Order, first: %v, %v", what, c, e)
	}
	if c, e := Order(ok, x); c != 0 || e != api.ErrForm {
		t.Errorf("%s: Order, second: %v, %v", what, c, e)
	}
	if c, e := Order(x, x); c != 0 || e != api.ErrForm {
		t.Errorf("%s: Order, both: %v, %v", what, c, e)
	}
	for _, s := range []string{"", "a", strings.Repeat("a", 40), "-"} {
		if y, e := Rename(x, s); !zero(y) || e != api.ErrForm {
			t.Errorf("%s: Rename by %q: %v, %v", what, s, y, e)
		}
	}
}

// taken holds every call with t against OK.
func taken(t *testing.T, what string, x api.Term) {
	t.Helper()
	_, e1 := Depth(x)
	_, e2 := Size(x)
	_, e3 := Ground(x)
	_, e4 := Atom(x)
	_, e5 := Vars(x)
	_, e6 := Order(x, x)
	y, e7 := Rename(x, "")
	for i, e := range []api.Errno{Check(x), e1, e2, e3, e4, e5, e6, e7} {
		if e != api.OK {
			t.Errorf("%s: call %d: %v", what, i, e)
		}
	}
	if !alike(x, y) {
		t.Errorf("%s: Rename by nothing: %v", what, y)
	}
}

// P1.1: each limit, just met and one beyond.
func TestLimits(t *testing.T) {
	long := strings.Repeat("x", api.MaxName-1)
	args := []api.Term{number(1), number(2), number(3), number(4), number(5)}
	for _, c := range []struct {
		what      string
		met, over api.Term
	}{
		{"MaxName of a name", named("a" + long), named("a" + long + "x")},
		{"MaxName of a variable", variable("A" + long), variable("A" + long + "x")},
		{"MaxName of an inner name", named("a", named("a"+long)), named("a", named("a"+long+"x"))},
		{"MaxNum", number(api.MaxNum), number(api.MaxNum + 1)},
		{"MaxNum below 0", number(-api.MaxNum), number(-api.MaxNum - 1)},
		{"MaxNum within", named("a", number(api.MaxNum)), named("a", number(api.MaxNum+1))},
		{"MaxArgs", named("a", args[:4]...), named("a", args...)},
		{"MaxArgs within", named("a", named("a", args[:4]...)), named("a", named("a", args...))},
		{"MaxDepth of names", tower(api.MaxDepth, named("a")), tower(api.MaxDepth+1, named("a"))},
		{"MaxDepth of a variable", tower(api.MaxDepth, variable("A")), tower(api.MaxDepth+1, variable("A"))},
		{"MaxDepth of a number", tower(api.MaxDepth, number(1)), tower(api.MaxDepth+1, number(1))},
		{"MaxDepth in the last one of Args", named("a", number(1), tower(api.MaxDepth-1, number(1))), named("a", number(1), tower(api.MaxDepth, number(1)))},
		{"MaxSize", bush(api.MaxSize), bush(api.MaxSize + 1)},
	} {
		taken(t, c.what, c.met)
		refused(t, c.what, c.over)
	}
}

// P1.1: a term must have the fields of its kind, and no other.
func TestWrongForms(t *testing.T) {
	one := []api.Term{number(1)}
	for _, c := range []struct {
		what string
		x    api.Term
	}{
		{"nothing", api.Term{}},
		{"no kind", api.Term{Name: "a"}},
		{"a kind above", api.Term{Kind: 4, Name: "a"}},
		{"a kind below", api.Term{Kind: -1, Name: "a"}},
		{"the greatest kind", api.Term{Kind: math.MaxInt, Name: "a"}},
		{"the least kind", api.Term{Kind: math.MinInt}},
		{"a kind beyond a byte", api.Term{Kind: 256 + api.TermName, Name: "a"}},
		{"a kind beyond a word", api.Term{Kind: 1<<32 + api.TermNum}},
		{"a name without letters", named("")},
		{"a variable without letters", variable("")},
		{"a variable as a name", named("A")},
		{"a name as a variable", variable("a")},
		{"a variable with N", api.Term{Kind: api.TermVar, Name: "A", N: 1}},
		{"a variable with Args", api.Term{Kind: api.TermVar, Name: "A", Args: one}},
		{"a number with a Name", api.Term{Kind: api.TermNum, Name: "a", N: 1}},
		{"a number with Args", api.Term{Kind: api.TermNum, Args: one}},
		{"a name with N", api.Term{Kind: api.TermName, Name: "a", N: -1}},
		{"the greatest number", number(math.MaxInt)},
		{"the least number", number(math.MinInt)},
		{"a number that wraps to a small one", number(1 << 32)},
		{"the first one of Args", named("a", api.Term{}, number(1))},
		{"the last one of Args", named("a", number(1), number(2), number(3), named("B"))},
		{"deep within", tower(api.MaxDepth, variable("x"))},
		{"a letter beyond a byte", named("aé")},
		{"a byte that is no letter", named("a\xff")},
		{"a byte 0", named("a\x00")},
	} {
		refused(t, c.what, c.x)
	}
}

// P1.1: which bytes a name may begin with, and which may stand behind.
func TestBytes(t *testing.T) {
	low, high := "abcdefghijklmnopqrstuvwxyz", "ABCDEFGHIJKLMNOPQRSTUVWXYZ"
	for i := range 256 {
		b := string([]byte{byte(i)})
		for _, c := range []struct {
			s  string
			x  api.Term
			in bool
		}{
			{"name", named(b), strings.Contains(low, b)},
			{"variable", variable(b), strings.Contains(high, b)},
			{"behind a name", named("a" + b), strings.Contains(low+high+"0123456789_", b)},
			{"behind a variable", variable("A" + b + "b"), strings.Contains(low+high+"0123456789_", b)},
		} {
			if e := Check(c.x); (e == api.OK) != c.in || !c.in && e != api.ErrForm {
				t.Errorf("%s, byte %d: %v", c.s, i, e)
			}
		}
		_, e := Rename(variable("A"), b)
		if in := strings.Contains(low+high+"0123456789_", b); (e == api.OK) != in || !in && e != api.ErrForm {
			t.Errorf("Rename, byte %d: %v", i, e)
		}
	}
}

// R1: terms within themselves, or of more parts than can be gone through, are refused.
func TestEnds(t *testing.T) {
	ring := []api.Term{named("a")}
	ring[0].Args = ring
	refused(t, "within itself", ring[0])
	refused(t, "around one within itself", named("a", ring...))

	wide := named("a")
	for range 5000 {
		wide = named("a", wide, wide, wide, wide)
	}
	refused(t, "shared parts", wide)
	refused(t, "many Args", named("a", make([]api.Term, 1<<20)...))
	refused(t, "a long name", named(strings.Repeat("a", 1<<24)))
	refused(t, "a long variable", named("a", variable("A"+strings.Repeat("a", 1<<24))))
	refused(t, "a deep one", tower(1<<16-2, number(1)))
}

// R2: a nil list and an empty one are one.
func TestEmptyArgs(t *testing.T) {
	for _, x := range []api.Term{variable("A"), number(7), named("a")} {
		y := x
		y.Args = []api.Term{}
		taken(t, "empty Args", y)
		if c, e := Order(x, y); c != 0 || e != api.OK {
			t.Errorf("%v: %v, %v", x, c, e)
		}
		if d, _ := Depth(y); d != 1 {
			t.Errorf("%v: %v", x, d)
		}
	}
	if a, e := Atom(named("a", api.Term{Kind: api.TermName, Name: "b", Args: []api.Term{}})); !a || e != api.OK {
		t.Errorf("%v, %v", a, e)
	}
}

// P1.1: what is told of terms that may be.
func TestTold(t *testing.T) {
	for i, c := range []struct {
		x            api.Term
		depth, size  int
		ground, atom bool
		vars         []string
	}{
		{variable("A"), 1, 1, false, false, []string{"A"}},
		{number(0), 1, 1, true, false, nil},
		{number(-3), 1, 1, true, false, nil},
		{named("a"), 1, 1, true, true, nil},
		{named("a", number(1)), 2, 2, true, true, nil},
		{named("a", variable("A")), 2, 2, false, true, []string{"A"}},
		{named("a", named("b"), number(1), variable("B"), named("c")), 2, 5, false, true, []string{"B"}},
		{named("a", named("b", number(1))), 3, 3, true, false, nil},
		{named("a", number(1), named("b", variable("A"))), 3, 4, false, false, []string{"A"}},
		{named("a", tower(3, number(1)), number(2)), 4, 5, true, false, nil},
		{named("a", number(2), tower(3, number(1))), 4, 5, true, false, nil},
		{named("a", variable("A"), named("b")), 2, 3, false, true, []string{"A"}},
		{tower(api.MaxDepth, variable("A")), 5, 5, false, false, []string{"A"}},
		{bush(6), 3, 6, true, false, nil},
		{bush(api.MaxSize), 4, api.MaxSize, true, false, nil},
	} {
		d, e1 := Depth(c.x)
		s, e2 := Size(c.x)
		g, e3 := Ground(c.x)
		a, e4 := Atom(c.x)
		l, e5 := Vars(c.x)
		if d != c.depth || s != c.size || g != c.ground || a != c.atom || !slices.Equal(l, c.vars) {
			t.Errorf("%d: %v, %v, %v, %v, %v", i, d, s, g, a, l)
		}
		if e1+e2+e3+e4+e5 != 0 {
			t.Errorf("%d: %v, %v, %v, %v, %v", i, e1, e2, e3, e4, e5)
		}
	}
}

// P1.1: variables rise byte by byte, and stand once however often they are there.
func TestVars(t *testing.T) {
	long := "A" + strings.Repeat("z", api.MaxName-2)
	x := named("f",
		named("g", variable("X"), variable("A_"), variable("Aa"), variable("X")),
		named("g", variable("AA"), variable("A0"), variable("A"), variable("A12345678")),
		named("g", variable(long+"z"), variable(long+"y"), variable(long), variable("A1234567")),
		named("x1", variable("Z"), named("a", variable("B"))))
	want := []string{"A", "A0", "A1234567", "A12345678", "AA", "A_", "Aa", long, long + "y", long + "z", "B", "X", "Z"}
	for range 50 {
		l, e := Vars(x)
		if !slices.Equal(l, want) || e != api.OK {
			t.Fatalf("%v, %v", l, e)
		}
	}
	if !slices.IsSorted(want) {
		t.Errorf("not rising: %v", want)
	}
	l, _ := Vars(x)
	l[0] = "Q"
	_ = append(l[:1], "R")
	if m, _ := Vars(x); !slices.Equal(m, want) {
		t.Errorf("%v", m)
	}
}

// P1.2: terms as they rise.
func TestOrder(t *testing.T) {
	l := []api.Term{
		variable("A"), variable("A0"), variable("AA"), variable("A_"), variable("Aa"),
		variable("B1234567"), variable("B12345670"), variable("B1234567Z"), variable("B12345680"), variable("Z"),
		number(-api.MaxNum), number(-2), number(-1), number(0), number(1), number(256), number(api.MaxNum),
		named("a"), named("a0"), named("aA"), named("a_"), named("aa"), named("aaaaaaaaaaaaaaaa"), named("aaaaaaaaaaaaaaab"), named("b"), named("z"),
		named("a", variable("Z")), named("a", number(-1)), named("a", number(5)), named("a", named("z")), named("a", named("a", number(1))), named("a", named("a", number(1), number(1))),
		named("b", variable("A")), named("z", variable("A")),
		named("a", variable("A"), named("z")), named("a", variable("B"), variable("A")), named("a", number(1), number(1)), named("a", number(1), number(2)), named("a", number(2), number(1)), named("b", number(0), number(0)),
		named("a", number(1), number(1), number(1)),
		named("a", number(0), number(0), number(0), number(0)), named("a", number(0), number(0), number(0), number(1)), named("a", number(0), number(0), number(1), number(0)),
	}
	for i, a := range l {
		for k, b := range l {
			if c, e := Order(a, b); c != cmp.Compare(i, k) || e != api.OK {
				t.Errorf("%v, %v: %v, %v", a, b, c, e)
			}
		}
	}
	if c, e := Order(number(1), variable("X")); c != 1 || e != api.OK {
		t.Errorf("the chapter's example: %v, %v", c, e)
	}
}

// some are terms of all kinds, with many that differ in one place alone.
func some() []api.Term {
	flat := []api.Term{variable("A"), variable("AB"), variable("B"), number(-1), number(0), number(2), named("a"), named("ab"), named("b")}
	l := slices.Clone(flat)
	for _, a := range flat {
		l = append(l, named("a", a), named("b", a), named("a", named("a", a)))
		for _, b := range flat {
			l = append(l, named("a", a, b))
		}
	}
	return l
}

// P1.3: Order is one of all terms: each two stand one way, 0 is of like ones alone, and it leads on.
func TestOrderOfAll(t *testing.T) {
	l := some()
	told := make([][]int, len(l))
	for i, a := range l {
		told[i] = make([]int, len(l))
		for k, b := range l {
			c, e := Order(a, b)
			if e != api.OK || c < -1 || c > 1 || (c == 0) != alike(a, b) {
				t.Fatalf("%v, %v: %v, %v", a, b, c, e)
			}
			told[i][k] = c
		}
	}
	for i := range l {
		for k := range l {
			if told[i][k] != -told[k][i] {
				t.Fatalf("%v, %v: both ways", l[i], l[k])
			}
			for m := range l {
				if told[i][k] <= 0 && told[k][m] <= 0 && told[i][m] > 0 {
					t.Fatalf("%v, %v, %v", l[i], l[k], l[m])
				}
			}
		}
	}
}

// P1.2: s stands behind each variable's name, behind no other.
func TestRename(t *testing.T) {
	x := named("f", variable("X"), named("g", variable("Y"), number(3), named("h")), variable("X"), named("a", named("b", named("c", variable("Z")))))
	want := named("f", variable("X_1a"), named("g", variable("Y_1a"), number(3), named("h")), variable("X_1a"), named("a", named("b", named("c", variable("Z_1a")))))
	y, e := Rename(x, "_1a")
	if !alike(y, want) || e != api.OK {
		t.Errorf("%v, %v", y, e)
	}
	if y, e := Rename(number(-5), "A"); !alike(y, number(-5)) || e != api.OK {
		t.Errorf("%v, %v", y, e)
	}
}

// P1.2: errors of Rename, and their order.
func TestRenameErrors(t *testing.T) {
	nine := func(n int) string { return strings.Repeat("9", n) }
	for i, c := range []struct {
		x    api.Term
		s    string
		want api.Term
		e    api.Errno
	}{
		{variable("X"), nine(api.MaxName - 1), variable("X" + nine(api.MaxName-1)), api.OK},
		{variable("X"), nine(api.MaxName), api.Term{}, api.ErrLimit},
		{variable("X"), nine(1 << 20), api.Term{}, api.ErrLimit},
		{variable("X" + nine(15)), "", variable("X" + nine(15)), api.OK},
		{variable("X" + nine(15)), "a", api.Term{}, api.ErrLimit},
		{named("a", variable("X"), variable("XY")), nine(14), named("a", variable("X"+nine(14)), variable("XY"+nine(14))), api.OK},
		{named("a", variable("X"), variable("XY")), nine(15), api.Term{}, api.ErrLimit},
		{named("a", variable("XY"), variable("X")), nine(15), api.Term{}, api.ErrLimit},
		{tower(api.MaxDepth, variable("X")), nine(16), api.Term{}, api.ErrLimit},
		{named("a" + nine(15)), nine(3), named("a" + nine(15)), api.OK},
		{named("a", named("b"+nine(15)), variable("X")), nine(15), named("a", named("b"+nine(15)), variable("X"+nine(15))), api.OK},
		{number(1), nine(1 << 20), number(1), api.OK},
		{variable("X"), "a b", api.Term{}, api.ErrForm},
		{named("a"), "-", api.Term{}, api.ErrForm},
		{variable("X"), nine(40) + ".", api.Term{}, api.ErrForm},
		{api.Term{}, nine(40), api.Term{}, api.ErrForm},
	} {
		if y, e := Rename(c.x, c.s); !alike(y, c.want) || e != c.e {
			t.Errorf("%d: %v, %v", i, y, e)
		}
	}
}

// scribble writes into each list of t, and behind it.
func scribble(t api.Term) {
	for i := range t.Args {
		scribble(t.Args[i])
		t.Args[i] = number(99)
	}
	_ = append(t.Args, number(98))
}

// R2: what is handed in stays as it is, and shares nothing with what is told, spare room too.
func TestMemory(t *testing.T) {
	room := make([]api.Term, 2, 4)
	room[0], room[1] = variable("X"), named("g", number(1), variable("Y"))
	back := room[:4]
	back[2] = number(77)
	x := api.Term{Kind: api.TermName, Name: "f", Args: room}
	want := named("f", variable("X"), named("g", number(1), variable("Y")))
	for _, s := range []string{"", "1"} {
		y, _ := Rename(x, s)
		z, _ := Rename(x, s)
		scribble(y)
		if !alike(x, want) || back[2].N != 77 {
			t.Errorf("by %q what was handed in changed: %v", s, x)
		}
		if !alike(z, named("f", variable("X"+s), named("g", number(1), variable("Y"+s)))) {
			t.Errorf("by %q what was told changed: %v", s, z)
		}
	}
	taken(t, "with spare room", x)
	if !alike(x, want) || back[2].N != 77 || !zero(back[3]) {
		t.Errorf("changed: %v", x)
	}
}

// Labels stand for names: they undo each other, and rise with them.
func TestLabels(t *testing.T) {
	l := []string{"A", "A0", "A1234567", "A12345678", "A_", "B", "a", "aZ_9", "abcdefg", "abcdefgh", "abcdefghi", "zzzzzzzzzzzzzzzy", "zzzzzzzzzzzzzzzz"}
	for _, a := range l {
		if unpack(pack(a)) != a {
			t.Errorf("%q: %q", a, unpack(pack(a)))
		}
		for _, b := range l {
			if c := compareLabels(pack(a), pack(b)); c != strings.Compare(a, b) {
				t.Errorf("%q, %q: %v", a, b, c)
			}
		}
	}
}
