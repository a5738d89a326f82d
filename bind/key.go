package bind

import "almagest/api"

// key is a name as a value that a map takes. Its length is a part of it: a text that ends in bytes 0 is no shorter one's key.
type key struct {
	size uint8
	text [api.MaxName]byte
}

// keyOf is asked of texts of at most MaxName bytes alone: a longer one has no room.
func keyOf(name string) key {
	k := key{size: uint8(len(name))}
	for i := range len(name) {
		k.text[i] = name[i]
	}
	return k
}

// places tells of each bound name where in its list it stands.
type places map[key]int

func placesOf(l []api.Bind) places {
	p := make(places, len(l))
	for i, b := range l {
		p[keyOf(b.Name)] = i
	}
	return p
}

// find takes any text: one without room in a key is nobody's name.
func (p places) find(name string) (int, bool) {
	if len(name) > api.MaxName {
		return 0, false
	}
	i, ok := p[keyOf(name)]
	return i, ok
}
