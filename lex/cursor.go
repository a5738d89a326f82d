package lex

import (
	"strings"

	"almagest/api"
)

// cursor goes through a text: what lies ahead of at is done.
type cursor struct {
	text  string
	at    int
	marks map[mark]struct{}
}

// pass goes over remarks, too: behind each one there may be blanks again.
func (c *cursor) pass() {
	c.skip(blank)
	for c.sees('%') {
		c.skip(row)
		c.skip(blank)
	}
}

// token is asked ahead of the end alone. It goes on by a byte at least, or errs: so a text ends.
func (c *cursor) token() (api.Token, api.Errno) {
	switch b := c.text[c.at]; {
	case is(small, b):
		return c.word(api.TokName)
	case is(great, b):
		return c.word(api.TokVar)
	case is(digit, b) || c.seesMinus():
		return c.number()
	}
	return c.mark()
}

// word copies its Text, so that no token keeps the whole text in memory.
func (c *cursor) word(kind int) (api.Token, api.Errno) {
	w := c.skip(inner)
	if len(w) > api.MaxName {
		return api.Token{}, api.ErrLimit
	}
	return api.Token{Kind: kind, Text: strings.Clone(w)}, api.OK
}

// number stops at the first digit beyond MaxNum: however many come, n has room.
func (c *cursor) number() (api.Token, api.Errno) {
	sign := 1
	if c.sees('-') {
		sign = -1
		c.at++
	}
	n := int64(0)
	for _, b := range []byte(c.skip(digit)) {
		n = n*10 + int64(b-'0')
		if n > api.MaxNum {
			return api.Token{}, api.ErrLimit
		}
	}
	return api.Token{Kind: api.TokNum, N: sign * int(n)}, api.OK
}

// mark tries the longest one first: one may begin another.
func (c *cursor) mark() (api.Token, api.Errno) {
	rest := c.text[c.at:]
	for size := min(markBytes, len(rest)); size > 0; size-- {
		m := markOf(rest[:size])
		if _, there := c.marks[m]; there {
			c.at += size
			return api.Token{Kind: api.TokMark, Text: m.String()}, api.OK
		}
	}
	return api.Token{}, api.ErrBad
}

func (c *cursor) sees(b byte) bool {
	return c.at < len(c.text) && c.text[c.at] == b
}

// seesMinus: - alone is no token, nor is it with a blank ahead of its digits.
func (c *cursor) seesMinus() bool {
	return c.sees('-') && c.at+1 < len(c.text) && is(digit, c.text[c.at+1])
}

// skip tells what it went over.
func (c *cursor) skip(class int) string {
	from := c.at
	for c.at < len(c.text) && is(class, c.text[c.at]) {
		c.at++
	}
	return c.text[from:c.at]
}
