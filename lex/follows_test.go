package lex

import (
	"math/big"
	"math/rand"
	"regexp"
	"slices"
	"strconv"
	"strings"
	"testing"

	"almagest/api"
)

var (
	passedOver = regexp.MustCompile(`^(?:[ \t\n\r]|%[^\n]*)*`)
	oneToken   = regexp.MustCompile(`^(?:([a-z][a-zA-Z0-9_]*)|([A-Z][a-zA-Z0-9_]*)|(-?[0-9]+)|(:-|<-|=<|\\=|\\\+|[(),.;<=&|@]))`)
)

// second tells the tokens of a text once more, by expressions, and so what Tokens must tell.
func second(s string) ([]api.Token, int, api.Errno) {
	if len(s) > api.MaxText {
		return nil, 0, api.ErrLimit
	}
	var l []api.Token
	for at := 0; ; {
		at += len(passedOver.FindString(s[at:]))
		if at == len(s) {
			return append(l, end(at)), 0, api.OK
		}
		m := oneToken.FindStringSubmatch(s[at:])
		if m == nil {
			return nil, at, api.ErrBad
		}
		if len(m[1]) > api.MaxName || len(m[2]) > api.MaxName || beyond(m[3]) {
			return nil, at, api.ErrLimit
		}
		l = append(l, told(at, m))
		at += len(m[0])
	}
}

// beyond takes digits of any length, and none.
func beyond(digits string) bool {
	n, ok := new(big.Int).SetString(digits, 10)
	return ok && n.CmpAbs(big.NewInt(api.MaxNum)) > 0
}

func told(at int, m []string) api.Token {
	switch {
	case m[1] != "":
		return name(at, m[1])
	case m[2] != "":
		return aVar(at, m[2])
	case m[3] != "":
		n, _ := strconv.Atoi(m[3])
		return number(at, n)
	}
	return sign(at, m[4])
}

func agree(t *testing.T, s string) {
	t.Helper()
	l, at, e := Tokens(s)
	m, where, want := second(s)
	if !slices.Equal(l, m) || at != where || e != want {
		t.Fatalf("%q: %v, %d, %v, not %v, %d, %v", s, l, at, e, m, where, want)
	}
}

// P4.1: all short texts of bytes that stand for all others.
func TestAllShort(t *testing.T) {
	letters := "aZ07_-<=\\+:(%\n \x00\xc3"
	texts := []string{""}
	for range 4 {
		var longer []string
		for _, s := range texts {
			agree(t, s)
			for i := range len(letters) {
				longer = append(longer, s+letters[i:i+1])
			}
		}
		texts = longer
	}
	for _, s := range texts {
		agree(t, s)
	}
}

// P4.1: all texts of two bytes.
func TestAllPairs(t *testing.T) {
	for i := range 1 << 16 {
		agree(t, string([]byte{byte(i >> 8), byte(i)}))
	}
}

// pieces are parts of texts, whole tokens and others, with limits just met and one beyond.
func pieces() []string {
	long := strings.Repeat("x", api.MaxName-1)
	l := []string{"a", "b1", "f", "X", "Y_", "a" + long, "A" + long, "0", "12", "-3", "1073741824", "-1073741824", " ", "\n", "\t", "\r\n", "% r\n", "%", "within", "\x00", "é", "-", ":", "a" + long + "x", "1073741825"}
	return append(l, all()...)
}

// P4.1: long texts of pieces, the faults among them seldom.
func TestPieces(t *testing.T) {
	r := rand.New(rand.NewSource(4))
	l := pieces()
	good := slices.DeleteFunc(pieces(), func(s string) bool {
		return slices.Contains([]string{"\x00", "é", "-", ":", "1073741825"}, s) || len(s) > api.MaxName
	})
	for range 20000 {
		var b strings.Builder
		for range r.Intn(40) {
			if r.Intn(60) == 0 {
				b.WriteString(l[r.Intn(len(l))])
			} else {
				b.WriteString(good[r.Intn(len(good))])
				b.WriteString([]string{"", " ", " ", " "}[r.Intn(4)])
			}
		}
		agree(t, b.String())
	}
}

// texts are such as programs are, by which P4.2 is held; tokens stand side by side in them, and apart.
func texts() []string {
	return []string{"", "a", "a(X,-1).", "a <- b ; c, within 5.", "g(X):-f(X),X=<-3.", "1-2-3", "12ab", "a;\\+(b|c);d&e@during f", "X\\=Y,X<Y,X=Y", "<<-1", "==<", "((,;.", "a-1", strings.Repeat("f(", 100), "A1 a1 _", "a ? b", "a:b", "- 1", "x% r\ny", strings.Repeat("q", 17), "a 1073741825"}
}

// bare is a token but its At.
func bare(x api.Token) api.Token {
	x.At = 0
	return x
}

// begun is where the tokens of a text begin, the fault's too, and the end.
func begun(s string) []int {
	l, at, e := Tokens(s)
	var places []int
	for _, x := range l {
		places = append(places, x.At)
	}
	if e != api.OK {
		places = slices.Compact(append(begun(s[:at]), at))
	}
	return places
}

// P4.2: what is passed over, put ahead of tokens and behind them, changes their At alone, and an error's place.
func TestPassedOver(t *testing.T) {
	r := rand.New(rand.NewSource(42))
	gaps := []string{"", " ", "\n", "\t\r", "%\n", "% a (b) 1 :- \xff\n", " %%\n\n%?\n ", "\r\n%x\r\n"}
	for _, s := range texts() {
		l, at, e := Tokens(s)
		places := begun(s)
		for range 200 {
			// moved is where in the wider text each byte of s stands.
			var b strings.Builder
			moved := make([]int, len(s)+1)
			for i := range len(s) + 1 {
				if slices.Contains(places, i) {
					b.WriteString(gaps[r.Intn(len(gaps))])
				}
				moved[i] = b.Len()
				if i < len(s) {
					b.WriteByte(s[i])
				}
			}
			m, where, got := Tokens(b.String())
			if got != e || e != api.OK && where != moved[at] || !slices.EqualFunc(l, m, func(x, y api.Token) bool { return bare(x) == bare(y) && y.At == moved[x.At] }) {
				t.Fatalf("%q, and %q: %v, %d, %v, not %v, %d, %v", s, b.String(), m, where, got, l, at, e)
			}
		}
	}
}

// P4.2: blanks and remarks stand for each other: each one in a text, by another, leaves the tokens.
func TestOneForAnother(t *testing.T) {
	gaps := []string{" ", "\n", "\t", "\r", "\r\n", "%\n", "% remark\n", "   \n", "%a\n%b\n"}
	last := slices.Concat(gaps, []string{"", "%", "% to the end", "%\xff\x00"})
	form := "a_(_X_,_-1_)_<-_b_;_\\+_(_c_)_;_d_@_during_e_,_within_5_,_where_X_=<_2_."
	want, _, e := Tokens(strings.ReplaceAll(form, "_", " "))
	if len(want) != 28 || e != api.OK {
		t.Fatalf("%v, %v", want, e)
	}
	for _, g := range gaps {
		for _, z := range last {
			s := g + strings.ReplaceAll(form, "_", g) + z
			l, at, e := Tokens(s)
			if at != 0 || e != api.OK || l[len(l)-1] != end(len(s)) || !slices.EqualFunc(l, want, func(x, y api.Token) bool { return bare(x) == bare(y) }) {
				t.Fatalf("%q: %v, %d, %v", s, l, at, e)
			}
		}
	}
}
