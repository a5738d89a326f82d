package known

import (
	"cmp"
	"slices"

	"almagest/api"
)

// part is a variable, a number or a name of a term, without what is within it.
type part struct {
	kind int
	n    int // a number's; of a name how many Args; of a variable the place that its clause gives it
	name label
}

// atom has its name's part, and its Args' behind it; what it has not is the zero value. So two that are ground are alike just where their terms are, and rise as these do.
type atom [1 + api.MaxArgs]part

// places gives each variable of a clause a place, as they come.
type places map[label]int

func (p places) of(name string) int {
	l := labelOf(name)
	i, there := p[l]
	if !there {
		i = len(p)
		p[l] = i
	}
	return i
}

// parts stand as in a text: each ahead of its Args. As a name tells how many come behind it, no two terms have the same.
func (p places) parts(t api.Term) []part {
	l := []part{p.part(t)}
	for _, a := range t.Args {
		l = append(l, p.parts(a)...)
	}
	return l
}

func (p places) part(t api.Term) part {
	switch t.Kind {
	case api.TermVar:
		return part{kind: t.Kind, n: p.of(t.Name)}
	case api.TermNum:
		return part{kind: t.Kind, n: t.N}
	}
	return part{kind: t.Kind, n: len(t.Args), name: labelOf(t.Name)}
}

func (p places) atom(t api.Term) atom {
	var a atom
	copy(a[:], p.parts(t))
	return a
}

// groundOf is asked of what has no variables: it needs no places.
func groundOf(t api.Term) atom {
	return places(nil).atom(t)
}

// term makes all of it anew, whatever the atom was made of.
func (a atom) term() api.Term {
	t := a[0].term()
	for _, p := range a[1 : 1+a[0].n] {
		t.Args = append(t.Args, p.term())
	}
	return t
}

func (p part) term() api.Term {
	if p.kind == api.TermNum {
		return api.Term{Kind: p.kind, N: p.n}
	}
	return api.Term{Kind: p.kind, Name: p.name.name()}
}

// compare is Order of the terms (1) of two ground atoms: kinds' numbers rise as kinds do, and what a kind has not is the same on both sides.
func compare(a atom, b atom) int {
	return slices.CompareFunc(a[:], b[:], compareParts)
}

func compareParts(a part, b part) int {
	if c := cmp.Compare(a.kind, b.kind); c != 0 {
		return c
	}
	if c := cmp.Compare(a.n, b.n); c != 0 {
		return c
	}
	return slices.Compare(a.name[:], b.name[:])
}

// rising tells atoms as terms.
func rising(l []atom) []api.Term {
	slices.SortFunc(l, compare)
	var terms []api.Term
	for _, a := range l {
		terms = append(terms, a.term())
	}
	return terms
}
