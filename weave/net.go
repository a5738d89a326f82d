package weave

import "almagest/api"

// mostSpans is how many a net has at most.
const mostSpans = 5

// net has a set for each two of n spans: row by row.
type net struct {
	n     int
	sets  []set
	thens table
}

func netOf(n int, l []int) net {
	w := net{n: n, sets: make([]set, len(l)), thens: thens()}
	for i, s := range l {
		w.sets[i] = set(s)
	}
	return w
}

// tighten tells whether no set comes to be empty. It ends, as each round but the last one makes some set smaller; in which order sets lose does not matter, as what one may keep only shrinks with the others.
func (w net) tighten() bool {
	for lost := true; lost; {
		lost = false
		for at, s := range w.sets {
			left := w.left(at/w.n, at%w.n)
			if left == 0 {
				return false
			}
			lost = lost || left != s
			w.sets[at] = left
		}
	}
	return true
}

func (w net) left(i int, j int) set {
	s := w.at(i, j) & w.at(j, i).turned()
	if i == j {
		s &= only(api.RelEqual)
	}
	for k := range w.n {
		s &= w.thens.of(w.at(i, k), w.at(k, j))
	}
	return s
}

func (w net) at(i int, j int) set {
	return w.sets[i*w.n+j]
}

func (w net) list() []int {
	l := make([]int, len(w.sets))
	for i, s := range w.sets {
		l[i] = int(s)
	}
	return l
}
