package meet

import (
	"cmp"
	"slices"
	"sort"

	"almagest/api"
)

// between is the matches of what must not be between two others. There may be a thousand, and a million of these two: so they are found by what they bind.
type between struct {
	groups []*group
}

// group is those that bind the same variables. Which of these the two bind as well is seen only when they come: by each such shape the spans are laid out when it is asked for.
type group struct {
	shape row
	all   []match
	laid  map[row]struct{}
	spans map[row]stretch
}

// betweenOf puts l in another order.
func betweenOf(l []match) *between {
	slices.SortFunc(l, func(a match, b match) int { return cmp.Compare(b.span.From, a.span.From) })
	by := map[row]*group{}
	b := &between{}
	for _, m := range l {
		s := m.row.shape()
		if by[s] == nil {
			by[s] = &group{shape: s, laid: map[row]struct{}{}, spans: map[row]stretch{}}
			b.groups = append(b.groups, by[s])
		}
		by[s].all = append(by[s].all, m)
	}
	return b
}

// has tells whether one that joins with both begins above from, and ends below to.
func (b *between) has(both *row, from int, to int) bool {
	for _, g := range b.groups {
		if g.has(both, from, to) {
			return true
		}
	}
	return false
}

// has asks how many they would bind together: where that is too much, none of the group joins.
func (g *group) has(both *row, from int, to int) bool {
	shared := both.only(&g.shape)
	if both.n+g.shape.n-shared.n > api.MaxBinds {
		return false
	}
	g.lay(shared.shape())
	return g.spans[shared].has(from, to)
}

// lay puts the spans where those find them that bind just these of the group's variables.
func (g *group) lay(shape row) {
	if _, there := g.laid[shape]; there {
		return
	}
	g.laid[shape] = struct{}{}
	for i := range g.all {
		shared := g.all[i].row.only(&shape)
		g.spans[shared] = g.spans[shared].add(g.all[i].span)
	}
}

// stretch is spans by falling From, without those that have one of the others within: so their To fall, too.
type stretch []api.Span

// add is asked by falling From.
func (s stretch) add(a api.Span) stretch {
	if len(s) > 0 && s[len(s)-1].To <= a.To {
		return s
	}
	return append(s, a)
}

// has: of those that begin above from the last one ends first.
func (s stretch) has(from int, to int) bool {
	n := sort.Search(len(s), func(i int) bool { return s[i].From <= from })
	return n > 0 && s[n-1].To < to
}
