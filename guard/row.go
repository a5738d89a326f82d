package guard

import (
	"slices"

	"almagest/api"
)

// row is what the variables that guards bind stand for, by their places: what atoms have, numbers and names without Args. What is not bound as yet is the zero value.
type row [api.MaxBinds]part

// cell is one place of a row.
type cell struct {
	place int
	value part
}

// join tells false where a place is bound to something else. Then r is of no use any more.
func (r *row) join(l []cell) bool {
	for _, c := range l {
		if r[c.place].kind == api.TermNone {
			r[c.place] = c.value
		}
		if r[c.place] != c.value {
			return false
		}
	}
	return true
}

// put is p with what its variable stands for. As that has no Args, parts of a term stay as many, and stand as they stood.
func (r *row) put(p part) part {
	if p.kind == api.TermVar {
		return r[p.n]
	}
	return p
}

func (r *row) atom(l []part) atom {
	a := atomOf(l)
	for i := range a {
		a[i] = r.put(a[i])
	}
	return a
}

// compare tells whether it is so, and whether there is an answer.
func (r *row) compare(kind int, a []part, b []part) (bool, bool) {
	switch kind {
	case api.GuardSame:
		return r.same(a, b), true
	case api.GuardOther:
		return !r.same(a, b), true
	}
	x, y := r.put(a[0]), r.put(b[0])
	if x.kind != api.TermNum || y.kind != api.TermNum {
		return false, false
	}
	return x.n < y.n || x.n == y.n && kind == api.GuardMost, true
}

func (r *row) same(a []part, b []part) bool {
	return slices.EqualFunc(a, b, func(x part, y part) bool { return r.put(x) == r.put(y) })
}
