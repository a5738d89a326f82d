package known

import (
	"slices"

	"almagest/api"
)

// clause is one as parts.
type clause struct {
	head   atom
	body   []atom
	guards []comparison
}

type comparison struct {
	kind int
	l    []part
	r    []part
}

func clauseOf(c api.Clause) clause {
	p := places{}
	x := clause{head: p.atom(c.Head)}
	for _, t := range c.Body {
		x.body = append(x.body, p.atom(t))
	}
	for _, g := range c.Guards {
		x.guards = append(x.guards, comparison{kind: g.Kind, l: p.parts(g.L), r: p.parts(g.R)})
	}
	return x
}

// row is what a clause's variables stand for, by their places: numbers, and names without Args; the zero value for nothing as yet. All are the body's.
type row [api.MaxBody * api.MaxArgs]part

// meet makes p, of the clause's body, the ground a. Where it tells false r is of no use any more.
func (r *row) meet(p *atom, a *atom) bool {
	for i := range p {
		if !r.stand(p[i], a[i]) {
			return false
		}
	}
	return true
}

func (r *row) stand(p part, v part) bool {
	if p.kind != api.TermVar {
		return p == v
	}
	if r[p.n].kind == api.TermNone {
		r[p.n] = v
	}
	return r[p.n] == v
}

// put is p with what its variable stands for. As that has no Args, parts of a term stay as many, and stand as they stood.
func (r *row) put(p part) part {
	if p.kind == api.TermVar {
		return r[p.n]
	}
	return p
}

func (r *row) atom(p atom) atom {
	for i := range p {
		p[i] = r.put(p[i])
	}
	return p
}

func (r *row) holdAll(l []comparison) bool {
	for _, g := range l {
		if !r.holds(g) {
			return false
		}
	}
	return true
}

// holds is guard.Compare (12).
func (r *row) holds(g comparison) bool {
	switch g.kind {
	case api.GuardSame:
		return r.same(g.l, g.r)
	case api.GuardOther:
		return !r.same(g.l, g.r)
	}
	a, b := r.put(g.l[0]), r.put(g.r[0])
	if a.kind != api.TermNum || b.kind != api.TermNum {
		return false
	}
	return a.n < b.n || a.n == b.n && g.kind == api.GuardMost
}

func (r *row) same(a []part, b []part) bool {
	return slices.EqualFunc(a, b, func(x part, y part) bool { return r.put(x) == r.put(y) })
}
