package read

import "almagest/api"

func (r *reader) program() (api.Program, bool) {
	var p api.Program
	for !r.sees(end) {
		if !r.item(&p) {
			return p, false
		}
	}
	return p, true
}

// item counts behind its end: what is wrong within an item is told ahead of its being one too many.
func (r *reader) item(p *api.Program) bool {
	from := r.place()
	head, ok := r.term()
	if !ok {
		return false
	}
	if r.take(arrow) {
		x, ok := r.rule(head)
		return ok && add(r, &p.Rules, x, api.MaxRules, from)
	}
	x, ok := r.clause(head)
	return ok && add(r, &p.Clauses, x, api.MaxClause, from)
}

// add tells of the place from, if x, which is whole, is one too many.
func add[T any](r *reader, l *[]T, x T, most int, from int) bool {
	if len(*l) == most {
		return r.fail(from, api.ErrLimit)
	}
	*l = append(*l, x)
	return true
}

func (r *reader) clause(head api.Term) (api.Clause, bool) {
	c := api.Clause{Head: head}
	for more := r.take(neck); more; more = r.take(comma) {
		if !r.part(&c) {
			return c, false
		}
	}
	return c, r.need(stop)
}

func (r *reader) part(c *api.Clause) bool {
	from := r.place()
	t, ok := r.term()
	if !ok {
		return false
	}
	if r.sees(ops) {
		return r.comparison(&c.Guards, t, from)
	}
	return add(r, &c.Body, t, api.MaxBody, from)
}

func (r *reader) rule(head api.Term) (api.Rule, bool) {
	from := r.place()
	body, ok := r.pattern()
	if !ok {
		return api.Rule{}, false
	}
	x := api.Rule{Head: head, Body: body}
	ok = r.window(&x) && r.conditions(&x) && r.need(stop) && r.measure(body, from)
	return x, ok
}

func (r *reader) window(x *api.Rule) bool {
	if !r.need(comma) || !r.need(within) {
		return false
	}
	x.Within = r.tokens[r.next].N
	return r.need(number)
}

// conditions reads guards and a policy; there may be one of them, both, or none.
func (r *reader) conditions(x *api.Rule) bool {
	if !r.take(comma) {
		return true
	}
	if !r.take(where) {
		return r.policy(x)
	}
	for more := true; more; more = r.take(comma) {
		// A policy's name begins a guard as well: what is behind it tells.
		if len(x.Guards) > 0 && r.sees(policies) && r.seesAhead(stop) {
			return r.policy(x)
		}
		if !r.guard(&x.Guards) {
			return false
		}
	}
	return true
}

func (r *reader) policy(x *api.Rule) bool {
	x.Policy = api.PolicyRecent + r.roles[r.next].above(recent)
	return r.need(policies)
}

func (r *reader) guard(l *[]api.Guard) bool {
	from, kind := r.place(), r.roles[r.next]
	believed := r.sees(beliefs) && r.seesAhead(names)
	if believed {
		r.next++
	}
	t, ok := r.term()
	if !ok || !believed {
		return ok && r.comparison(l, t, from)
	}
	return add(r, l, api.Guard{Kind: kindOf(kind), L: t}, api.MaxGuards, from)
}

func (r *reader) comparison(l *[]api.Guard, t api.Term, from int) bool {
	kind := r.roles[r.next]
	if !r.need(ops) {
		return false
	}
	u, ok := r.term()
	return ok && add(r, l, api.Guard{Kind: kindOf(kind), L: t, R: u}, api.MaxGuards, from)
}

func kindOf(x role) int {
	return api.GuardLess + x.above(less)
}
