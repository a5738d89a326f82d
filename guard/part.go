package guard

import "almagest/api"

// part is a variable, a number or a name of a term, without what is within it.
type part struct {
	kind int
	n    int // a number's; of a name how many Args; of a variable its place
	name label
}

// places are those of the variables that guards bind, as they come.
type places map[label]int

// parts stand as in a text: each ahead of its Args. As a name tells how many come behind it, no two terms have the same. A variable without a place is the zero value.
func (p places) parts(t api.Term) []part {
	l := []part{p.part(t)}
	for _, a := range t.Args {
		l = append(l, p.parts(a)...)
	}
	return l
}

func (p places) part(t api.Term) part {
	switch t.Kind {
	case api.TermNum:
		return part{kind: t.Kind, n: t.N}
	case api.TermName:
		return part{kind: t.Kind, n: len(t.Args), name: labelOf(t.Name)}
	}
	i, there := p[labelOf(t.Name)]
	if !there {
		return part{}
	}
	return part{kind: t.Kind, n: i}
}

// flat is asked of a number, or a name without Args.
func flat(t api.Term) part {
	return places(nil).part(t)
}

func (p part) term() api.Term {
	if p.kind == api.TermNum {
		return api.Term{Kind: p.kind, N: p.n}
	}
	return api.Term{Kind: p.kind, Name: p.name.name()}
}

// atom has its name's part, and its Args' behind it; what it has not is the zero value.
type atom [1 + api.MaxArgs]part

// atomOf leaves out what has no room: that stands behind an argument that has Args, so no atom is taken for such a term.
func atomOf(l []part) atom {
	var a atom
	copy(a[:], l)
	return a
}
