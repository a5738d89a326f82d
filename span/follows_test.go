package span_test

import (
	"testing"

	"almagest/api"
	"almagest/span"
)

// long are all small spans that are no points.
func long() []api.Span {
	var l []api.Span
	for _, a := range small() {
		if a.From < a.To {
			l = append(l, a)
		}
	}
	return l
}

// only is the one relation that is so, or 0, if there is not just one: asked one by one, and all told.
func only(t *testing.T, a, b api.Span) int {
	t.Helper()
	found, many := 0, 0
	for r := api.RelBefore; r <= api.RelAfter; r++ {
		so, e := span.Is(r, a, b)
		if e != api.OK {
			t.Fatalf("%d of %v, %v: %v", r, a, b, e)
		}
		if so {
			found, many = r, many+1
		}
	}
	if l, e := span.All(a, b); e != api.OK || many != 1 || len(l) != 1 || l[0] != found {
		t.Errorf("%v, %v: %d are so, %v told, %v", a, b, many, l, e)
		return 0
	}
	return found
}

// P7.2: of spans that are no points just one is so, and the other one has the turned one.
func TestJustOne(t *testing.T) {
	met := map[int]int{}
	for _, a := range long() {
		for _, b := range long() {
			r, back := only(t, a, b), only(t, b, a)
			if turned, e := span.Turn(r); turned != back || e != api.OK {
				t.Errorf("%v, %v: %d, and back %d, not %d", a, b, r, back, turned)
			}
			met[r]++
		}
	}
	if len(met) != api.RelAfter-api.RelBefore+1 {
		t.Errorf("some relations are never so: %v", met)
	}
}

// P7.2: of any spans one at least is so, points among them, and the other one has all turned.
func TestAnyTurned(t *testing.T) {
	for _, a := range small() {
		for _, b := range small() {
			l, e := span.All(a, b)
			if len(l) == 0 || e != api.OK {
				t.Errorf("%v, %v: none is so", a, b)
			}
			for r := api.RelBefore; r <= api.RelAfter; r++ {
				turned, _ := span.Turn(r)
				so, _ := span.Is(r, a, b)
				back, _ := span.Is(turned, b, a)
				if so != back {
					t.Errorf("%v, %v: %d is %v, turned %v", a, b, r, so, back)
				}
			}
		}
	}
}

// P7.1, P7.2: turned round twice is as it was; equal alone is its own.
func TestTurnTwice(t *testing.T) {
	for r := api.RelBefore; r <= api.RelAfter; r++ {
		once, e := span.Turn(r)
		if e != api.OK || (once == r) != (r == api.RelEqual) {
			t.Errorf("%d: %d, %v", r, once, e)
		}
		if twice, e := span.Turn(once); twice != r || e != api.OK {
			t.Errorf("%d: %d, %v", r, twice, e)
		}
	}
}

// R1: the same call tells the same.
func TestAgain(t *testing.T) {
	for range 50 {
		for _, r := range thirteen() {
			if n, e := span.Of(r.name); n != numbered(r.name) || e != api.OK {
				t.Fatalf("%s: %d, %v", r.name, n, e)
			}
			lies(t, r.a, r.b, []int{numbered(r.name)})
		}
	}
}
