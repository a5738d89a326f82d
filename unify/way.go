package unify

import (
	"slices"
	"strings"

	"almagest/api"
	"almagest/term"
)

// way is how far Match has come: the binds so far, those found on it behind those handed in, and where each name stands among them.
type way struct {
	binds  []api.Bind
	places map[mark]int
}

// wayOf has room of its own: what is found is put behind no list that was handed in.
func wayOf(l []api.Bind) *way {
	w := &way{binds: make([]api.Bind, 0, api.MaxBinds), places: make(map[mark]int, api.MaxBinds)}
	for _, x := range l {
		w.put(x.Name, x.Term)
	}
	return w
}

func (w *way) put(name string, t api.Term) {
	w.places[markOf(name)] = len(w.binds)
	w.binds = append(w.binds, api.Bind{Name: name, Term: t})
}

// take makes a the ground term b. No term grows on this way: MaxBinds is the one limit that can be met.
func (w *way) take(a api.Term, b api.Term) api.Errno {
	if a.Kind == api.TermVar {
		return w.stand(a.Name, b)
	}
	if !sameHead(a, b) {
		return api.ErrNone
	}
	for i := range a.Args {
		if e := w.take(a.Args[i], b.Args[i]); e != api.OK {
			return e
		}
	}
	return api.OK
}

func (w *way) stand(name string, t api.Term) api.Errno {
	if i, there := w.places[markOf(name)]; there {
		if c, _ := term.Order(w.binds[i].Term, t); c != 0 {
			return api.ErrNone
		}
		return api.OK
	}
	if len(w.binds) == api.MaxBinds {
		return api.ErrLimit
	}
	w.put(name, t)
	return api.OK
}

func (w *way) rising() []api.Bind {
	m := copied(w.binds)
	slices.SortFunc(m, func(a, b api.Bind) int { return strings.Compare(a.Name, b.Name) })
	return m
}
