package unify

// markBytes: a name's MaxName = 16 bytes are two words of eight.
const markBytes = 8

// mark is a variable's name as a value that a map takes. No name has a byte 0: so two marks are alike just where their names are.
type mark struct {
	words [2]uint64
}

// markOf is asked of names that may be alone: of a longer one the rest would be left out.
func markOf(name string) mark {
	var m mark
	for i := range m.words {
		m.words[i] = wordAt(name, i*markBytes)
	}
	return m
}

func wordAt(name string, from int) uint64 {
	var w uint64
	for i := from; i < min(from+markBytes, len(name)); i++ {
		w = w<<8 | uint64(name[i])
	}
	return w
}
