package span

import (
	"cmp"

	"almagest/api"
)

// lie tells how ends of one span lie to those of another: three bits for each two ends that some relation asks about, of which two spans have just one.
type lie uint16

// What an end is to another.
const (
	ahead lie = 1 << iota
	at
	behind
)

// How far up the bits of two ends are, the first span's end first.
const (
	fromFrom = 3 * iota
	toFrom
	toTo
)

// asked is what each relation up to RelEqual needs: those behind it are these, turned round.
var asked = [...]lie{
	api.RelBefore:   ahead << toFrom,
	api.RelMeets:    at << toFrom,
	api.RelOverlaps: ahead<<fromFrom | behind<<toFrom | ahead<<toTo,
	api.RelStarts:   at<<fromFrom | ahead<<toTo,
	api.RelDuring:   behind<<fromFrom | ahead<<toTo,
	api.RelEnds:     behind<<fromFrom | at<<toTo,
	api.RelEqual:    at<<fromFrom | at<<toTo,
}

// From here on spans and relations may be.

func so(r int, a api.Span, b api.Span) bool {
	if r > api.RelEqual {
		return so(turned(r), b, a)
	}
	return asked[r]&^lieOf(a, b) == 0
}

// turned needs no table: RelEqual is the middle of all, and each of the others is as far from it as the one it is turned round.
func turned(r int) int {
	return 2*api.RelEqual - r
}

func lieOf(a api.Span, b api.Span) lie {
	return side(a.From, b.From)<<fromFrom | side(a.To, b.From)<<toFrom | side(a.To, b.To)<<toTo
}

func side(x int, y int) lie {
	return ahead << uint(cmp.Compare(x, y)+1)
}
