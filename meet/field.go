package meet

import (
	"slices"

	"almagest/api"
	"almagest/span"
	"almagest/unify"
)

// field is where a pattern is looked for. Of its variables each has a place, from 1 on, rising as the names do.
type field struct {
	facts []api.Kept
	names []string
	stock *stock
}

func fieldOf(l []api.Kept, p api.Pattern) *field {
	names := variables(nil, p)
	slices.Sort(names)
	return &field{facts: l, names: slices.Compact(names), stock: &stock{numbers: map[node]uint16{}}}
}

// variables puts those of a pattern behind names, as often as they stand there.
func variables(names []string, p api.Pattern) []string {
	names = variablesOf(names, p.Term)
	for _, l := range [...][]api.Pattern{p.L, p.R, p.C} {
		for _, part := range l {
			names = variables(names, part)
		}
	}
	return names
}

func variablesOf(names []string, t api.Term) []string {
	if t.Kind == api.TermVar {
		return append(names, t.Name)
	}
	for _, a := range t.Args {
		names = variablesOf(names, a)
	}
	return names
}

// matches tells false where a part of p, or p itself, has too many.
func (f *field) matches(p api.Pattern) ([]match, bool) {
	if p.Kind == api.PatTerm {
		return f.of(p.Term), true
	}
	var parts [3][]match
	for i, l := range [...][]api.Pattern{p.L, p.R, p.C} {
		for _, part := range l {
			m, fit := f.matches(part)
			if !fit {
				return nil, false
			}
			parts[i] = m
		}
	}
	if p.Kind == api.PatOr {
		return either(parts[0], parts[1])
	}
	return pairs(p, parts[0], parts[1], betweenOf(parts[2]))
}

// of looks at names first: asking of each fact costs far more.
func (f *field) of(t api.Term) []match {
	var all []match
	for _, k := range f.facts {
		if k.Fact.Term.Name != t.Name || len(k.Fact.Term.Args) != len(t.Args) {
			continue
		}
		l, e := unify.Match(nil, t, k.Fact.Term)
		if e != api.OK {
			continue
		}
		m := match{n: 1, used: [api.MaxParts]int{k.Seq}, span: k.Fact.Span}
		for _, b := range l {
			m.row.put(f.cell(b))
		}
		all = append(all, m)
	}
	return all
}

func (f *field) cell(b api.Bind) cell {
	i, _ := slices.BinarySearch(f.names, b.Name)
	return cellOf(i+1, f.stock.number(b.Term))
}

func either(l []match, r []match) ([]match, bool) {
	c := crowd{there: map[match]struct{}{}}
	for _, m := range slices.Concat(l, r) {
		if !c.add(m) {
			return nil, false
		}
	}
	return c.all, true
}

// pairs stops as soon as there are too many. As a side has no more than MaxMatch, each of its matches is held against each of the other's.
func pairs(p api.Pattern, l []match, r []match, not *between) ([]match, bool) {
	c := crowd{there: map[match]struct{}{}}
	for i := range l {
		for k := range r {
			if !lie(p, l[i].span, r[k].span) {
				continue
			}
			both, fit := l[i].row.join(&r[k].row)
			if !fit || not.has(&both, l[i].span.To, r[k].span.From) {
				continue
			}
			if !c.add(l[i].with(&r[k], both)) {
				return nil, false
			}
		}
	}
	return c.all, true
}

// lie tells whether spans lie as p wants those of its sides.
func lie(p api.Pattern, a api.Span, b api.Span) bool {
	rel := p.Rel
	switch p.Kind {
	case api.PatAnd:
		return true
	case api.PatSeq, api.PatNot:
		rel = api.RelBefore
	}
	so, _ := span.Is(rel, a, b)
	return so
}

// told makes all anew.
func (f *field) told(m *match) api.Match {
	x := api.Match{Span: m.span, Used: slices.Clone(m.trail())}
	for _, c := range m.row.cells[:m.row.n] {
		x.Binds = append(x.Binds, api.Bind{Name: f.names[c.place()-1], Term: f.stock.term(c.term())})
	}
	return x
}
