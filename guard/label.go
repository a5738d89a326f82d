package guard

import "almagest/api"

// A name has at most MaxName = 16 bytes: two words of eight.
const wordBytes = 8

// label is a name as words, its first byte highest. No name has a byte 0: so two labels are alike just where their names are, and rise as these do, a shorter one ahead of those that it begins.
type label [api.MaxName / wordBytes]uint64

// labelOf is asked of names that may be alone: a longer one has no room.
func labelOf(name string) label {
	var l label
	for i := range len(name) {
		l[i/wordBytes] |= uint64(name[i]) << shiftOf(i)
	}
	return l
}

func (l label) name() string {
	var text []byte
	for i := range api.MaxName {
		if b := byte(l[i/wordBytes] >> shiftOf(i)); b != 0 {
			text = append(text, b)
		}
	}
	return string(text)
}

func shiftOf(i int) uint {
	return uint(wordBytes-1-i%wordBytes) << 3
}
