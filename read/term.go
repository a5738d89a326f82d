package read

import (
	"almagest/api"
	"almagest/term"
)

// term is for those that stand within no other one: they alone are asked whether they may be.
func (r *reader) term() (api.Term, bool) {
	from := r.place()
	t, ok := r.anyTerm()
	if ok && term.Check(t) != api.OK {
		ok = r.fail(from, api.ErrLimit)
	}
	return t, ok
}

func (r *reader) anyTerm() (api.Term, bool) {
	x := r.tokens[r.next]
	switch {
	case r.take(variable):
		return api.Term{Kind: api.TermVar, Name: x.Text}, true
	case r.take(number):
		return api.Term{Kind: api.TermNum, N: x.N}, true
	}
	t := api.Term{Kind: api.TermName, Name: x.Text}
	ok := r.need(names) && (!r.sees(open) || r.args(&t))
	return t, ok
}

func (r *reader) args(t *api.Term) bool {
	if !r.enter() {
		return false
	}
	for more := true; more; more = r.take(comma) {
		a, ok := r.anyTerm()
		if !ok {
			return false
		}
		t.Args = append(t.Args, a)
	}
	return r.leave()
}
