package known_test

import (
	"fmt"
	"slices"
	"strings"
	"testing"

	"almagest/api"
	"almagest/bind"
	"almagest/known"
)

// bindTexts are binds as "X=1 Y=a", some behind others with "; " between; "-" is one without binds.
func bindTexts(l [][]api.Bind) string {
	var all []string
	for _, m := range l {
		s := "-"
		for i, b := range m {
			if i == 0 {
				s = ""
			} else {
				s += " "
			}
			s += b.Name + "=" + strings.TrimSuffix(texts([]api.Term{b.Term}), ".")
		}
		all = append(all, s)
	}
	return strings.Join(all, "; ")
}

// askOf holds that Ask tells the same again, binds that may be, and changes nothing.
func askOf(t *testing.T, k []api.Term, a api.Term) ([][]api.Bind, api.Errno) {
	t.Helper()
	ahead := fmt.Sprintf("%+v %+v", k, a)
	l, e := known.Ask(k, a)
	l2, e2 := known.Ask(k, a)
	if bindTexts(l) != bindTexts(l2) || e != e2 {
		t.Errorf("%s: %v, %v, then %v, %v", ahead, l, e, l2, e2)
	}
	if fmt.Sprintf("%+v %+v", k, a) != ahead {
		t.Errorf("%s: changed", ahead)
	}
	if e != api.OK && l != nil {
		t.Errorf("%s: %v beside %v", ahead, l, e)
	}
	for _, m := range l {
		if bind.Check(m) != api.OK {
			t.Errorf("%s: %v", ahead, m)
		}
	}
	return l, e
}

// P11.2: which binds make an atom one of those there.
func TestAsk(t *testing.T) {
	for _, c := range []struct{ k, a, want string }{
		{"", "a", ""},
		{"", "f(X)", ""},
		{"a.", "a", "-"},
		{"a. b.", "b", "-"},
		{"a. b.", "c", ""},
		{"a. b. f(1).", "f(1)", "-"},
		{"f(1).", "f(X)", "X=1"},
		{"f(1). f(2). f(a).", "f(X)", "X=1; X=2; X=a"},
		{"f(1). f(2). f(a).", "f(1)", "-"},
		{"f(1). f(2). f(a).", "f(3)", ""},
		{"f(1). f(2). f(a).", "f", ""},
		{"f(1). f(2). f(a).", "f(X,Y)", ""},
		{"f. f(1). g(1). f(1,2). f(1,2,3).", "f(X)", "X=1"},
		{"f. f(1). g(1). f(1,2). f(1,2,3).", "f", "-"},
		{"f. f(1). g(1). f(1,2). f(1,2,3).", "f(A,B)", "A=1 B=2"},
		{"f. f(1). g(1). f(1,2). f(1,2,3).", "f(B,A)", "A=2 B=1"},
		{"e(1,1). e(1,2). e(2,2). e(a,a).", "e(X,X)", "X=1; X=2; X=a"},
		{"e(1,1). e(1,2). e(2,2). e(a,a).", "e(X,Y)", "X=1 Y=1; X=1 Y=2; X=2 Y=2; X=a Y=a"},
		{"e(1,1). e(1,2). e(2,2). e(a,a).", "e(Y,X)", "X=1 Y=1; X=2 Y=1; X=2 Y=2; X=a Y=a"},
		{"e(1,1). e(1,2). e(2,2). e(a,a).", "e(1,X)", "X=1; X=2"},
		{"e(1,1). e(1,2). e(2,2). e(a,a).", "e(X,2)", "X=1; X=2"},
		{"e(1,1). e(1,2). e(2,2). e(a,a).", "e(a,X)", "X=a"},
		{"e(1,1). e(1,2). e(2,2). e(a,a).", "e(b,X)", ""},
		{"e(1,2). e(2,1).", "e(X,X)", ""},
		{"p(1,2,1,3). p(1,2,2,3). p(2,2,2,2).", "p(X,Y,X,Z)", "X=1 Y=2 Z=3; X=2 Y=2 Z=2"},
		{"p(1,2,1,3). p(1,2,2,3). p(2,2,2,2).", "p(X,Y,Y,Z)", "X=1 Y=2 Z=3; X=2 Y=2 Z=2"},
		{"p(1,2,1,3). p(1,2,2,3). p(2,2,2,2).", "p(X,X,X,X)", "X=2"},
		{"p(1,2,1,3). p(1,2,2,3). p(2,2,2,2).", "p(D,C,B,A)", "A=3 B=1 C=2 D=1; A=3 B=2 C=2 D=1; A=2 B=2 C=2 D=2"},
	} {
		l, e := askOf(t, terms(t, c.k), one(t, c.a))
		if bindTexts(l) != c.want || e != api.OK {
			t.Errorf("%q, %q: %q, %v, not %q", c.k, c.a, bindTexts(l), e, c.want)
		}
	}
}

// P11.2: of as many atoms as may be, each tells its binds in its place.
func TestAskAll(t *testing.T) {
	k := numbers(api.MaxKnown)
	l, e := askOf(t, k, named("m", aVar("X")))
	if len(l) != len(k) || e != api.OK {
		t.Fatalf("%v, %v", l, e)
	}
	for i, m := range l {
		if bindTexts([][]api.Bind{m}) != fmt.Sprintf("X=%d", i) {
			t.Errorf("%d: %v", i, m)
		}
	}
}

// P11.2: the binds make it one of the atoms, as they stand, none twice, and no atom that it can be is passed over.
func TestAskFollows(t *testing.T) {
	args := []api.Term{num(0), num(1), named("a"), aVar("X"), aVar("Y")}
	var k []api.Term
	for _, x := range args[:3] {
		k = append(k, named("f", x))
	}
	for i := range 27 {
		if i != 13 && i != 6 {
			k = append(k, named("f", args[i/9], args[i/3%3], args[i%3]))
		}
	}
	for i := range 125 {
		a := named("f", args[i/25], args[i/5%5], args[i%5])
		l, e := askOf(t, k, a)
		if e != api.OK {
			t.Fatalf("%v: %v", a, e)
		}
		var got []string
		for _, m := range l {
			x, e := bind.Apply(m, a)
			if e != api.OK {
				t.Errorf("%v, %v: %v", a, m, e)
			}
			got = append(got, texts([]api.Term{x}))
		}
		var want []string
		for _, x := range k[3:] {
			if isOf(a, x) {
				want = append(want, texts([]api.Term{x}))
			}
		}
		if !slices.Equal(got, want) {
			t.Errorf("%v: %v, not %v", a, got, want)
		}
	}
}

// isOf tells whether the ground x is of the shape of a: what stands at places of one variable is alike.
func isOf(a, x api.Term) bool {
	stands := map[string]string{}
	for i := range a.Args {
		s := texts(x.Args[i : i+1])
		if a.Args[i].Kind != api.TermVar {
			if texts(a.Args[i:i+1]) != s {
				return false
			}
			continue
		}
		if stands[a.Args[i].Name] != "" && stands[a.Args[i].Name] != s {
			return false
		}
		stands[a.Args[i].Name] = s
	}
	return true
}
