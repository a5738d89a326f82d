package known

import "almagest/api"

// stock is what is told so far, each once, in the order in which it came.
type stock struct {
	atoms []atom
	there map[atom]struct{}
}

func stockOf(k []api.Term) *stock {
	s := &stock{there: map[atom]struct{}{}}
	for _, t := range k {
		s.add(groundOf(t))
	}
	return s
}

// add tells false where there are too many.
func (s *stock) add(a atom) bool {
	if _, there := s.there[a]; !there {
		s.there[a] = struct{}{}
		s.atoms = append(s.atoms, a)
	}
	return len(s.atoms) <= api.MaxKnown
}

// step adds what follows from atoms of which one at least stands at fresh or behind it. What it adds does not count among them yet. It tells false as soon as there are too many.
func (s *stock) step(l []api.Clause, fresh int) bool {
	w := walk{atoms: s.atoms, fresh: fresh, tell: s.add}
	for _, c := range l {
		w.clause = clauseOf(c)
		if !w.on(0, row{}, false) {
			return false
		}
	}
	return true
}

// walk goes through all that a clause's body may be. Three of 60 each are many: so nothing is made for one of them but a row.
type walk struct {
	clause
	atoms []atom
	fresh int
	tell  func(a atom) bool
}

// on takes the body from place i on, met so far by r, with or without a fresh atom. It tells false as soon as no more is wanted.
func (w *walk) on(i int, r row, fresh bool) bool {
	if i == len(w.body) {
		return !r.holdAll(w.guards) || w.tell(r.atom(w.head))
	}
	from := 0
	if !fresh && i == len(w.body)-1 {
		from = w.fresh
	}
	for k := from; k < len(w.atoms); k++ {
		next := r
		if next.meet(&w.body[i], &w.atoms[k]) && !w.on(i+1, next, fresh || k >= w.fresh) {
			return false
		}
	}
	return true
}
