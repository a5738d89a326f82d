package weave

import (
	"almagest/api"
	"almagest/span"
)

// set is one of relations: bit r - 1 for each relation r.
type set uint16

// whole has all relations.
const whole set = 1<<api.RelAfter - 1

// From here on relations and sets may be.

func only(r int) set {
	return 1 << uint(r-api.RelBefore)
}

func (s set) has(r int) bool {
	return s&only(r) != 0
}

func (s set) list() []int {
	var l []int
	for r := api.RelBefore; r <= api.RelAfter; r++ {
		if s.has(r) {
			l = append(l, r)
		}
	}
	return l
}

func (s set) turned() set {
	var x set
	for _, r := range s.list() {
		x |= only(turned(r))
	}
	return x
}

func turned(r int) int {
	x, _ := span.Turn(r)
	return x
}
