package read

import (
	"almagest/api"
	"almagest/lex"
)

const maxBrackets = 100

// reader goes through the tokens of a text: those ahead of next are read. What reads a part tells whether it could; where it could not, where and why stand in at and e, and what it read is worth nothing.
type reader struct {
	tokens   []api.Token
	roles    []role
	next     int
	brackets int // that are open
	at       int
	e        api.Errno
}

// whole reads a text in which nothing stands behind the part.
func whole[T any](s string, part func(*reader) (T, bool)) (T, int, api.Errno) {
	var none T
	tokens, at, e := lex.Tokens(s)
	if e != api.OK {
		return none, at, e
	}
	r := &reader{tokens: tokens, roles: rolesOf(tokens)}
	x, ok := part(r)
	if !ok || !r.need(end) {
		return none, r.at, r.e
	}
	return x, 0, api.OK
}

func (r *reader) place() int {
	return r.tokens[r.next].At
}

func (r *reader) sees(wanted role) bool {
	return r.roles[r.next]&wanted != 0
}

// seesAhead looks behind the next token, which is not the end.
func (r *reader) seesAhead(wanted role) bool {
	return r.roles[r.next+1]&wanted != 0
}

// take never goes beyond the end: that is needed last, and by nothing else.
func (r *reader) take(wanted role) bool {
	if !r.sees(wanted) {
		return false
	}
	r.next++
	return true
}

func (r *reader) need(wanted role) bool {
	return r.take(wanted) || r.fail(r.place(), api.ErrBad)
}

func (r *reader) fail(at int, e api.Errno) bool {
	r.at, r.e = at, e
	return false
}

// enter counts brackets of all kinds together: so no text makes the reader call itself without end.
func (r *reader) enter() bool {
	if r.sees(open) && r.brackets == maxBrackets {
		return r.fail(r.place(), api.ErrLimit)
	}
	r.brackets++
	return r.need(open)
}

func (r *reader) leave() bool {
	r.brackets--
	return r.need(shut)
}
