package weave

import "almagest/api"

// pair is the relation that a has to b, and the one that b has to c.
type pair struct {
	first  int
	second int
}

// table has for each two relations all that a can have to c.
type table map[pair]set

func thens() table {
	w := make(table, api.RelAfter*api.RelAfter)
	for r := api.RelBefore; r <= api.RelAfter; r++ {
		for q := api.RelBefore; q <= api.RelAfter; q++ {
			w[pair{r, q}] = through(endsOf[r], endsOf[turned(q)])
		}
	}
	return w
}

// through is what a can have to c, both told by b. Each end of a is asked alone: where a zone leaves open how ends lie to each other, it leaves it open for all of them.
func through(a ends, c ends) set {
	from, to := a.from.within(c), a.to.within(c)
	var s set
	for r := api.RelBefore; r <= api.RelAfter; r++ {
		if from.has(endsOf[r].from) && to.has(endsOf[r].to) {
			s |= only(r)
		}
	}
	return s
}

func (w table) of(s set, t set) set {
	var x set
	second := t.list()
	for _, r := range s.list() {
		for _, q := range second {
			x |= w[pair{r, q}]
		}
	}
	return x
}
