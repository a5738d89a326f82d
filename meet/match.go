package meet

import (
	"almagest/api"
	"almagest/span"
)

// match is one as a value that a map takes. What is behind the n-th of used is the zero value: a pattern of MaxParts terms uses no more.
type match struct {
	n    int
	used [api.MaxParts]int
	span api.Span
	row  row
}

func (m *match) trail() []int {
	return m.used[:m.n]
}

// with is both, m's Used first; row is what they bind together.
func (m *match) with(x *match, both row) match {
	y := *m
	y.n += copy(y.used[m.n:], x.trail())
	y.span, _ = span.Hull(m.span, x.span)
	y.row = both
	return y
}

// crowd is matches, each once.
type crowd struct {
	all   []match
	there map[match]struct{}
}

// add tells false where there are too many.
func (c *crowd) add(m match) bool {
	if _, there := c.there[m]; !there {
		c.there[m] = struct{}{}
		c.all = append(c.all, m)
	}
	return len(c.all) <= api.MaxMatch
}
