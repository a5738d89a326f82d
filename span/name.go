package span

import "almagest/api"

// names are the relations', from RelBefore on.
var names = [...]string{"before", "meets", "overlaps", "starts", "during", "ends", "equal", "ended", "holds", "started", "overlapped", "met", "after"}

// key is a text as a value that a map takes. Its size is a part of it: a byte 0 behind a name belongs to no name.
type key struct {
	size uint8
	text [api.MaxName]byte
}

// keyOf is asked of texts of at most MaxName bytes alone: a longer one has no room.
func keyOf(s string) key {
	k := key{size: uint8(len(s))}
	copy(k.text[:], s)
	return k
}

func relations() map[key]int {
	all := make(map[key]int, len(names))
	for i, s := range names {
		all[keyOf(s)] = api.RelBefore + i
	}
	return all
}
