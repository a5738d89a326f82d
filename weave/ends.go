package weave

import "almagest/api"

// zone is where a point lies to a span. The odd ones are that span's ends, with room for one point alone; in each of the others any points lie to each other in any way.
type zone uint8

const (
	below zone = iota
	atFrom
	between
	atTo
	above
)

// zones is a set of them: a bit for each.
type zones uint8

// ends are the zones of both ends of a span.
type ends struct {
	from zone
	to   zone
}

// endsOf are, for each relation that a span has to another, its ends there: no two relations have the same.
var endsOf = [...]ends{
	api.RelBefore:     {below, below},
	api.RelMeets:      {below, atFrom},
	api.RelOverlaps:   {below, between},
	api.RelStarts:     {atFrom, between},
	api.RelDuring:     {between, between},
	api.RelEnds:       {between, atTo},
	api.RelEqual:      {atFrom, atTo},
	api.RelEnded:      {below, atTo},
	api.RelHolds:      {below, above},
	api.RelStarted:    {atFrom, above},
	api.RelOverlapped: {between, above},
	api.RelMet:        {atTo, above},
	api.RelAfter:      {above, above},
}

// ahead asks of zones of one span whether a point of x may be less than one of y.
func ahead(x zone, y zone) bool {
	return x < y || x == y && x&1 == 0
}

// within are the zones of c in which a point of z may lie. Both z and c are told by a third span.
func (z zone) within(c ends) zones {
	var x zones
	for to, may := range [...]bool{
		below:   ahead(z, c.from),
		atFrom:  z == c.from,
		between: ahead(c.from, z) && ahead(z, c.to),
		atTo:    z == c.to,
		above:   ahead(c.to, z),
	} {
		if may {
			x |= 1 << uint(to)
		}
	}
	return x
}

func (x zones) has(z zone) bool {
	return x>>uint(z)&1 == 1
}
