package guard

import (
	"slices"

	"almagest/api"
	"almagest/bind"
	"almagest/known"
)

// stage is what holds behind some of the guards. All binds told so far have the first ones, and each a row of what guards bound beside them. A row has no Args: so whether a term by Apply may be, and whether it can be an atom, is told by the first binds alone, once for all rows.
type stage struct {
	known  []api.Term
	there  map[atom]struct{}
	first  []api.Bind
	places places
	names  []string // by their places
	rows   []row
}

// stageOf is the one ahead of all guards: the first binds alone.
func stageOf(k []api.Term, l []api.Bind) *stage {
	s := &stage{known: k, there: map[atom]struct{}{}, first: l, places: places{}, rows: make([]row, 1)}
	for _, t := range k {
		s.there[atomOf(s.places.parts(t))] = struct{}{}
	}
	return s
}

// on goes behind one guard more. It tells false where there are too many rows then.
func (s *stage) on(g api.Guard) bool {
	switch g.Kind {
	case api.GuardKnown:
		more := s.ask(g.L)
		s.join(more)
	case api.GuardUnknown:
		a := s.parts(g.L)
		s.keep(a != nil, func(r *row) bool {
			_, there := s.there[r.atom(a)]
			return !there
		})
	default:
		a, b := s.parts(g.L), s.parts(g.R)
		s.keep(a != nil && b != nil, func(r *row) bool {
			so, _ := r.compare(g.Kind, a, b)
			return so
		})
	}
	return len(s.rows) <= api.MaxMatch
}

// parts are none where the term by Apply may not be, or is not ground.
func (s *stage) parts(t api.Term) []part {
	x, e := bind.Apply(s.first, t)
	if e != api.OK {
		return nil
	}
	l := s.places.parts(x)
	if slices.Contains(l, part{}) {
		return nil
	}
	return l
}

func (s *stage) keep(can bool, holds func(r *row) bool) {
	var kept []row
	for i := range s.rows {
		if can && holds(&s.rows[i]) {
			kept = append(kept, s.rows[i])
		}
	}
	s.rows = kept
}

// ask tells of each atom that the term can be what it binds. By a row it can be those alone that the row joins: so it is asked once, not for each row.
func (s *stage) ask(t api.Term) [][]cell {
	x, e := bind.Apply(s.first, t)
	if e != api.OK {
		return nil
	}
	// What is no atom errs, and tells nothing.
	l, _ := known.Ask(like(s.known, x), x)
	var more [][]cell
	for _, m := range l {
		var c []cell
		for _, b := range m {
			c = append(c, cell{place: s.place(b.Name), value: flat(b.Term)})
		}
		more = append(more, c)
	}
	return more
}

// like are the atoms that a term can be at all: fewer are soon asked.
func like(k []api.Term, t api.Term) []api.Term {
	return slices.DeleteFunc(slices.Clone(k), func(x api.Term) bool { return x.Name != t.Name || len(x.Args) != len(t.Args) })
}

// place gives a variable one that has none yet.
func (s *stage) place(name string) int {
	l := labelOf(name)
	i, there := s.places[l]
	if !there {
		i = len(s.names)
		s.places[l] = i
		s.names = append(s.names, name)
	}
	return i
}

// join leaves out all where there would be more than MaxBinds. It stops behind the first row that is too much.
func (s *stage) join(more [][]cell) {
	ahead := s.rows
	s.rows = nil
	if len(s.first)+len(s.names) > api.MaxBinds {
		return
	}
	for _, r := range ahead {
		for _, c := range more {
			if next := r; next.join(c) {
				s.rows = append(s.rows, next)
			}
			if len(s.rows) > api.MaxMatch {
				return
			}
		}
	}
}

// told makes all anew: binds that are joined are copies.
func (s *stage) told() [][]api.Bind {
	var all [][]api.Bind
	names := slices.Sorted(slices.Values(s.names))
	for i := range s.rows {
		var more []api.Bind
		for _, name := range names {
			more = append(more, api.Bind{Name: name, Term: s.rows[i][s.places[labelOf(name)]].term()})
		}
		both, _ := bind.Join(s.first, more)
		all = append(all, both)
	}
	return all
}
