package read

import (
	"math/rand"
	"slices"
	"strings"
	"testing"

	"almagest/api"
	"almagest/lex"
)

// grammar is the chapter's once more: each word goes on as one of its rows. What it has not is a token; what is behind a first common token has a word of its own.
func grammar() map[string][]string {
	return map[string][]string{
		"aTerm":   {"var", "num", "aName"},
		"aName":   {"name args"},
		"args":    {"", "( aTerm terms )"},
		"terms":   {"", ", aTerm terms"},
		"pattern": {"both boths"},
		"boths":   {"", "| both boths"},
		"both":    {"pair pairs"},
		"pairs":   {"", "& pair pairs"},
		"pair":    {"row lying"},
		"lying":   {"", "@ rel row"},
		"row":     {"one ones"},
		"ones":    {"", "; next ones"},
		"next":    {"one", `\+ ( pattern ) ; one`},
		"one":     {"aTerm", "( pattern )"},
		"op":      {"<", "=<", "=", `\=`},
		"guard":   {"known aName", "unknown aName", "aTerm op aTerm"},
		"guards":  {"", ", guard guards", ", policy"},
		"policy":  {"recent", "first"},
		"item":    {"aTerm rest"},
		"rest":    {".", ":- part parts .", "<- pattern , within num tail ."},
		"part":    {"aTerm against"},
		"against": {"", "op aTerm"},
		"parts":   {"", ", part parts"},
		"tail":    {"", ", where guard guards", ", policy"},
		"program": {"", "item program"},
	}
}

// stack is what is still to come, its first word on top.
type stack struct {
	word  string
	below *stack
}

func push(row string, below *stack) *stack {
	words := strings.Fields(row)
	for _, w := range slices.Backward(words) {
		below = &stack{w, below}
	}
	return below
}

// tops are all ways to go on from a stack, each with a token's word on top.
func tops(g map[string][]string, s *stack) []*stack {
	rows, there := g[s.word]
	if !there {
		return []*stack{s}
	}
	var l []*stack
	for _, row := range rows {
		l = append(l, tops(g, push(row, s.below))...)
	}
	return l
}

func fitsWord(w string, t api.Token) bool {
	switch w {
	case "var":
		return t.Kind == api.TokVar
	case "num":
		return t.Kind == api.TokNum
	case "name":
		return t.Kind == api.TokName
	case "rel":
		return t.Kind == api.TokName && slices.Contains(relNames(), t.Text)
	case "end":
		return t.Kind == api.TokEnd
	}
	return (t.Kind == api.TokName || t.Kind == api.TokMark) && t.Text == w
}

// stuck tells whether tokens are a text of a word, and else the number of the first one with which no such text goes on. It goes all ways at once.
func stuck(g map[string][]string, word string, tokens []api.Token) (int, bool) {
	ways := []*stack{push(word+" end", nil)}
	for i, t := range tokens {
		var l []*stack
		for _, w := range ways {
			for _, s := range tops(g, w) {
				if fitsWord(s.word, t) {
					l = append(l, s.below)
				}
			}
		}
		if len(l) == 0 {
			return i, true
		}
		ways = l
	}
	return 0, false
}

// agree holds a text without lex's errors against the grammar: beyond limits a part is told where it begins, but not behind the first wrong token.
func agree(t *testing.T, g map[string][]string, s string) {
	t.Helper()
	tokens, _, e := lex.Tokens(s)
	if e != api.OK {
		t.Fatalf("%s: %v", s, e)
	}
	_, a, x := Term(s)
	agreeOne(t, g, s, "aTerm", tokens, a, x)
	_, a, x = Pattern(s)
	agreeOne(t, g, s, "pattern", tokens, a, x)
	y, a, x := Program(s)
	agreeOne(t, g, s, "program", tokens, a, x)
	if x == api.OK && !slices.Equal(bare(s), bare(programText(y, none))) {
		t.Fatalf("%s: %s", s, programText(y, none))
	}
}

func agreeOne(t *testing.T, g map[string][]string, s, word string, tokens []api.Token, at int, e api.Errno) {
	t.Helper()
	i, wrong := stuck(g, word, tokens)
	switch {
	case e == api.ErrLimit && (!wrong || at < tokens[i].At):
	case e == api.ErrBad && wrong && at == tokens[i].At:
	case e == api.OK && !wrong && at == 0:
	default:
		t.Fatalf("%s: as %s: %d, %v, not %v, token %d", s, word, at, e, wrong, i)
	}
}

// bare are a text's tokens without places and brackets, in an order of their own: terms and comparisons of a clause may have changed places.
func bare(s string) []string {
	tokens, _, _ := lex.Tokens(s)
	var l []string
	for _, x := range tokens {
		if x.Text != "(" && x.Text != ")" && x.Text != "," {
			x.At = 0
			l = append(l, told(x))
		}
	}
	slices.Sort(l)
	return l
}

// samples are texts of programs by whose changes wrong ones are made: no limit is near.
func samples() []string {
	return []string{
		"",
		"a .",
		"f ( X , -1 ) .",
		"g ( X ) :- f ( X ) , X < 2 .",
		`a :- known , b = c , recent \= first , within . X .`,
		"a <- b ; c , within 5 .",
		`h ( X ) <- f ( X ) ; \+ ( c | d ) ; b & ( a @ during X ) , within -2 , where X =< 1 , known f ( X ) , first .`,
		"a <- recent @ met first ; b , within 1 , recent .",
		"a <- b , within 1 , where unknown known , recent = 1 , recent . first .",
		"known <- known | ( unknown ) , within 0 , where known = known , unknown ( 1 ) < Y .",
		"within <- within , within 1 , where where ( where ) = where .",
	}
}

// parts are the right sides of the samples: patterns and terms.
func parts() []string {
	return []string{"X", "-4", "f ( X , g ( 1 ) , known )", `a ; \+ ( b ; c ) ; d ; e`, "a | b & c @ before d ; e", "( ( a ) ; ( f ( X ) | b ) ) @ ended ( c @ met d ) & recent"}
}

// swaps are tokens put in the place of others, one of each kind, and all marks and words.
func swaps() []string {
	return slices.Concat([]string{"X", "7", "-7", "a", "before", "after"}, strings.Fields(`( ) , . ; :- <- =< < = \= & | @ \+`), words()[:6])
}

// P5.1: texts that end at each token: they err at their end, or are whole.
func TestCutOff(t *testing.T) {
	g := grammar()
	for _, s := range slices.Concat(samples(), parts()) {
		l := strings.Fields(s)
		for i := range len(l) + 1 {
			cut := strings.Join(l[:i], " ")
			agree(t, g, cut)
			agree(t, g, strings.Join(l[i:], " "))
			if _, at, e := Program(cut); slices.Contains(samples(), s) && e != api.OK && (e != api.ErrBad || at != len(cut)) {
				t.Errorf("%s: %d, %v", cut, at, e)
			}
			if _, at, e := Pattern(cut); slices.Contains(parts(), s) && e != api.OK && (e != api.ErrBad || at != len(cut)) {
				t.Errorf("%s: %d, %v", cut, at, e)
			}
		}
	}
}

// P5.1: texts with one token more, one less, another one, or two that changed places.
func TestOneWrong(t *testing.T) {
	g := grammar()
	for _, s := range slices.Concat(samples(), parts()) {
		l := strings.Fields(s)
		for i := range len(l) + 1 {
			for _, x := range swaps() {
				agree(t, g, strings.Join(slices.Concat(l[:i], []string{x}, l[i:]), " "))
				if i < len(l) {
					agree(t, g, strings.Join(slices.Concat(l[:i], []string{x}, l[i+1:]), "\n"))
				}
			}
			if i < len(l) {
				agree(t, g, strings.Join(slices.Concat(l[:i], l[i+1:]), " "))
			}
			if i > 0 && i < len(l) {
				agree(t, g, strings.Join(slices.Concat(l[:i-1], []string{l[i], l[i-1]}, l[i+1:]), "%\n"))
			}
		}
	}
}

// P5.1: all texts of one and two tokens, of those that stand for all others, alone and behind begins; of three, alone or as guards by turns.
func TestAllShort(t *testing.T) {
	g := grammar()
	heads := []string{"", "a <- b , within 1 , where ", "a <- b , ", "a <- ", "a :- "}
	texts := []string{""}
	for n := range 3 {
		var longer []string
		for _, s := range texts {
			for _, x := range swaps() {
				longer = append(longer, s+x+" ")
			}
		}
		for i, s := range longer {
			if n < 2 {
				for _, h := range heads {
					agree(t, g, h+s)
				}
			} else {
				agree(t, g, heads[i%2]+s)
			}
		}
		texts = longer
	}
}

// P5.1: texts of many wrong tokens.
func TestManyWrong(t *testing.T) {
	g := grammar()
	r := rand.New(rand.NewSource(5))
	l := swaps()
	s := slices.Concat(samples(), parts())
	for range 12000 {
		x := strings.Fields(s[r.Intn(len(s))] + " " + s[r.Intn(len(s))])
		for range r.Intn(6) {
			i := r.Intn(len(x) + 1)
			switch r.Intn(3) {
			case 0:
				x = slices.Insert(x, i, l[r.Intn(len(l))])
			case 1:
				x = x[:max(i, len(x)-3)]
			case 2:
				if i < len(x) {
					x[i] = l[r.Intn(len(l))]
				}
			}
		}
		agree(t, g, strings.Join(x, " "))
	}
}
