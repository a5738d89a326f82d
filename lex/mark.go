package lex

// markBytes is the size of the longest mark.
const markBytes = 2

// mark is a mark as a value that a map takes. Its size is a part of it: a byte 0 behind a mark belongs to no mark.
type mark struct {
	size uint8
	text [markBytes]byte
}

// markOf is asked of texts of at most markBytes alone.
func markOf(s string) mark {
	m := mark{size: uint8(len(s))}
	copy(m.text[:], s)
	return m
}

func (m mark) String() string {
	return string(m.text[:m.size])
}

func marks() map[mark]struct{} {
	all := map[mark]struct{}{}
	for _, s := range []string{"(", ")", ",", ".", ";", ":-", "<-", "=<", "<", "=", `\=`, "&", "|", "@", `\+`} {
		all[markOf(s)] = struct{}{}
	}
	return all
}
