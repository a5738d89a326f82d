package check

import "almagest/api"

// A name has at most MaxName = 16 bytes: two words of eight.
const wordBytes = 8

// label is a name as a value that a map takes. No name has a byte 0: so two labels are alike just where their names are.
type label [api.MaxName / wordBytes]uint64

// labelOf is asked of names that may be alone: a longer one has no room.
func labelOf(name string) label {
	var l label
	for i := range len(name) {
		l[i/wordBytes] = l[i/wordBytes]<<8 | uint64(name[i])
	}
	return l
}
