package read

import "almagest/api"

// alone reads a pattern that is all of a text. It is whole just where nothing is behind it, as an item is behind its stop: what stands there is wrong ahead of the pattern's being too much.
func (r *reader) alone() (api.Pattern, bool) {
	from := r.place()
	p, ok := r.pattern()
	if !ok || !r.sees(end) {
		return p, ok
	}
	return p, r.measure(p, from)
}

func (r *reader) pattern() (api.Pattern, bool) {
	return r.chain(either, api.PatOr, r.both)
}

func (r *reader) both() (api.Pattern, bool) {
	return r.chain(together, api.PatAnd, r.pair)
}

// chain takes parts together from the left.
func (r *reader) chain(sign role, kind int, part func() (api.Pattern, bool)) (api.Pattern, bool) {
	p, ok := part()
	for ok && r.take(sign) {
		p = api.Pattern{Kind: kind, L: []api.Pattern{p}}
		ok = put(&p.R, part)
	}
	return p, ok
}

func (r *reader) pair() (api.Pattern, bool) {
	p, ok := r.row()
	if !ok || !r.take(lying) {
		return p, ok
	}
	rel := r.roles[r.next]
	if !r.need(relations) {
		return p, false
	}
	p = api.Pattern{Kind: api.PatRel, Rel: api.RelBefore + rel.above(before), L: []api.Pattern{p}}
	ok = put(&p.R, r.row)
	return p, ok
}

func (r *reader) row() (api.Pattern, bool) {
	p, ok := r.one()
	for ok && r.take(behind) {
		p = api.Pattern{Kind: api.PatSeq, L: []api.Pattern{p}}
		ok = r.gap(&p) && put(&p.R, r.one)
	}
	return p, ok
}

// gap reads what must not be between, if something is told to be.
func (r *reader) gap(p *api.Pattern) bool {
	if !r.take(without) {
		return true
	}
	p.Kind = api.PatNot
	return put(&p.C, r.bracket) && r.need(behind)
}

func (r *reader) one() (api.Pattern, bool) {
	if r.sees(open) {
		return r.bracket()
	}
	t, ok := r.term()
	return api.Pattern{Kind: api.PatTerm, Term: t}, ok
}

func (r *reader) bracket() (api.Pattern, bool) {
	if !r.enter() {
		return api.Pattern{}, false
	}
	p, ok := r.pattern()
	return p, ok && r.leave()
}

// put makes a list of one of its own: no two parts share memory. It stands in no statement that reads what l is part of: Go leaves open which of the two is first.
func put(l *[]api.Pattern, part func() (api.Pattern, bool)) bool {
	p, ok := part()
	*l = []api.Pattern{p}
	return ok
}

func (r *reader) measure(p api.Pattern, from int) bool {
	left := api.MaxParts
	return fits(p, api.MaxDeep, &left) || r.fail(from, api.ErrLimit)
}

// fits stops at the first part beyond a limit: a row is as deep as it is long.
func fits(p api.Pattern, deep int, left *int) bool {
	if deep == 0 {
		return false
	}
	if p.Kind == api.PatTerm {
		*left--
		return *left >= 0
	}
	for _, l := range [...][]api.Pattern{p.L, p.C, p.R} {
		if len(l) == 1 && !fits(l[0], deep-1, left) {
			return false
		}
	}
	return true
}
