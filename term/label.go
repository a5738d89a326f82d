package term

import "cmp"

// A name has at most MaxName = 16 bytes: two words of eight.
const wordBytes = 8

// label is a name as words, its first byte highest. No name has a byte 0: so two labels are alike just where their names are, and the words rise as the names do, a shorter one ahead of those that it begins.
type label struct {
	words [2]uint64
}

// pack is asked of names that may be alone: a longer one has no room.
func pack(name string) label {
	var l label
	for i := range len(name) {
		l.words[i/wordBytes] |= uint64(name[i]) << shiftOf(i)
	}
	return l
}

func unpack(l label) string {
	var text []byte
	for i := range len(l.words) * wordBytes {
		b := byte(l.words[i/wordBytes] >> shiftOf(i))
		if b == 0 {
			break
		}
		text = append(text, b)
	}
	return string(text)
}

// shiftOf puts earlier bytes above later ones: so whole words can be held against each other.
func shiftOf(i int) uint {
	return uint(wordBytes-1-i%wordBytes) << 3
}

func compareLabels(a label, b label) int {
	if c := cmp.Compare(a.words[0], b.words[0]); c != 0 {
		return c
	}
	return cmp.Compare(a.words[1], b.words[1])
}
