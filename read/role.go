package read

import (
	"math/bits"

	"almagest/api"
)

// role is what a token is to the grammar, as one bit: so that several are asked for at once. Roles of which one stands for a number of api's stand in api's order, and all from open on in that of texts.
type role uint64

const (
	end role = 1 << iota
	variable
	number
	name // one that has no other role
	open
	shut
	comma
	stop
	behind
	together
	either
	lying
	without
	neck
	arrow
	less
	most
	same
	other
	known
	unknown
	recent
	first
	within
	where
	before
)

const (
	ops       = less | most | same | other
	beliefs   = known | unknown
	policies  = recent | first
	relations = before<<(api.RelAfter-api.RelBefore+1) - before
	names     = name | beliefs | policies | within | where | relations
)

// The relations' names come last: before alone has a name among the roles.
var texts = [...]string{
	"(", ")", ",", ".", ";", "&", "|", "@", `\+`, ":-", "<-",
	"<", "=<", "=", `\=`, "known", "unknown", "recent", "first", "within", "where",
	"before", "meets", "overlaps", "starts", "during", "ends", "equal", "ended", "holds", "started", "overlapped", "met", "after",
}

// above tells how many roles x stands behind low: both are one.
func (x role) above(low role) int {
	return bits.TrailingZeros64(uint64(x)) - bits.TrailingZeros64(uint64(low))
}

// key is a token's text as a value that a map takes: no token has a byte 0, nor more bytes than this.
type key [api.MaxName]byte

func keyOf(s string) key {
	var k key
	copy(k[:], s)
	return k
}

func keys() map[key]role {
	all := make(map[key]role, len(texts))
	for i, s := range texts {
		all[keyOf(s)] = open << i
	}
	return all
}

func rolesOf(tokens []api.Token) []role {
	all := keys()
	l := make([]role, len(tokens))
	for i, t := range tokens {
		l[i] = roleOf(t, all)
	}
	return l
}

func roleOf(t api.Token, all map[key]role) role {
	switch t.Kind {
	case api.TokEnd:
		return end
	case api.TokVar:
		return variable
	case api.TokNum:
		return number
	}
	if x, there := all[keyOf(t.Text)]; there {
		return x
	}
	return name
}
