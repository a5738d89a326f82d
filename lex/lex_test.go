package lex

import (
	"fmt"
	"slices"
	"strings"
	"testing"

	"almagest/api"
)

func name(at int, s string) api.Token { return api.Token{Kind: api.TokName, Text: s, At: at} }

func aVar(at int, s string) api.Token { return api.Token{Kind: api.TokVar, Text: s, At: at} }

func number(at int, n int) api.Token { return api.Token{Kind: api.TokNum, N: n, At: at} }

func sign(at int, s string) api.Token { return api.Token{Kind: api.TokMark, Text: s, At: at} }

func end(at int) api.Token { return api.Token{Kind: api.TokEnd, At: at} }

func list(l ...api.Token) []api.Token { return l }

// all are the marks, as the chapter has them.
func all() []string {
	return []string{"(", ")", ",", ".", ";", ":-", "<-", "=<", "<", "=", "\\=", "&", "|", "@", "\\+"}
}

// short is what a failing test shows of a text.
func short(s string) string {
	if len(s) > 60 {
		return fmt.Sprintf("%q and so on, %d bytes", s[:60], len(s))
	}
	return fmt.Sprintf("%q", s)
}

// tells holds the tokens, each field of them, and no place beside them.
func tells(t *testing.T, s string, want ...api.Token) {
	t.Helper()
	if l, at, e := Tokens(s); !slices.Equal(l, want) || at != 0 || e != api.OK {
		t.Errorf("%s: %v, %d, %v, not %v", short(s), l, at, e, want)
	}
}

// errs holds the error and its place, and no tokens beside them.
func errs(t *testing.T, s string, at int, e api.Errno) {
	t.Helper()
	if l, where, got := Tokens(s); len(l) != 0 || where != at || got != e {
		t.Errorf("%s: %v, %d, %v, not %d, %v", short(s), l, where, got, at, e)
	}
}

// P4.1: the example of the chapter.
func TestExample(t *testing.T) {
	tells(t, "f(X)", name(0, "f"), sign(1, "("), aVar(2, "X"), sign(3, ")"), end(4))
}

// P4.1: texts of all kinds of tokens, with and without blanks between them.
func TestTokens(t *testing.T) {
	tells(t, "", end(0))
	tells(t, "a <- b ; c, within 5.", name(0, "a"), sign(2, "<-"), name(5, "b"), sign(7, ";"), name(9, "c"), sign(10, ","), name(12, "within"), number(19, 5), sign(20, "."), end(21))
	tells(t, "g(X):-f(X),X=<-3.", name(0, "g"), sign(1, "("), aVar(2, "X"), sign(3, ")"), sign(4, ":-"), name(6, "f"), sign(7, "("), aVar(8, "X"), sign(9, ")"), sign(10, ","), aVar(11, "X"), sign(12, "=<"), number(14, -3), sign(16, "."), end(17))
	tells(t, "a;\\+(b|c);d&e@during f", name(0, "a"), sign(1, ";"), sign(2, "\\+"), sign(4, "("), name(5, "b"), sign(6, "|"), name(7, "c"), sign(8, ")"), sign(9, ";"), name(10, "d"), sign(11, "&"), name(12, "e"), sign(13, "@"), name(14, "during"), name(21, "f"), end(22))
	tells(t, "X\\=Y, X = 0, Y < 1", aVar(0, "X"), sign(1, "\\="), aVar(3, "Y"), sign(4, ","), aVar(6, "X"), sign(8, "="), number(10, 0), sign(11, ","), aVar(13, "Y"), sign(15, "<"), number(17, 1), end(18))
	tells(t, "within where known unknown recent first", name(0, "within"), name(7, "where"), name(13, "known"), name(19, "unknown"), name(27, "recent"), name(34, "first"), end(39))
}

// P4.1: a name goes on as long as there are letters, digits, _; it begins with a letter.
func TestWords(t *testing.T) {
	tells(t, "a", name(0, "a"), end(1))
	tells(t, "z", name(0, "z"), end(1))
	tells(t, "A", aVar(0, "A"), end(1))
	tells(t, "Z", aVar(0, "Z"), end(1))
	tells(t, "aZ_09z", name(0, "aZ_09z"), end(6))
	tells(t, "AzZ_09", aVar(0, "AzZ_09"), end(6))
	tells(t, "a_ B_ c__0", name(0, "a_"), aVar(3, "B_"), name(6, "c__0"), end(10))
	tells(t, "aB Ab", name(0, "aB"), aVar(3, "Ab"), end(5))
	tells(t, "a1.b", name(0, "a1"), sign(2, "."), name(3, "b"), end(4))
	tells(t, "a-1", name(0, "a"), number(1, -1), end(3))
	errs(t, "_", 0, api.ErrBad)
	errs(t, "_a", 0, api.ErrBad)
	errs(t, "a _b", 2, api.ErrBad)
	errs(t, "1_", 1, api.ErrBad)
	errs(t, "a-b", 1, api.ErrBad)
	errs(t, "a'", 1, api.ErrBad)
}

// P4.1: MaxName of both kinds of names, just met and one beyond: the error is where the name begins.
func TestMaxName(t *testing.T) {
	for _, c := range []struct {
		first string
		token func(int, string) api.Token
	}{{"a", name}, {"z", name}, {"A", aVar}, {"Z", aVar}} {
		for _, more := range []string{"x", "X", "0", "_"} {
			met := c.first + strings.Repeat(more, api.MaxName-1)
			tells(t, met, c.token(0, met), end(16))
			tells(t, "b "+met+")", name(0, "b"), c.token(2, met), sign(18, ")"), end(19))
			tells(t, met+"%x", c.token(0, met), end(18))
			errs(t, met+more, 0, api.ErrLimit)
			errs(t, "b "+met+more+" c", 2, api.ErrLimit)
			errs(t, "b\n%\n("+met+more+")", 5, api.ErrLimit)
			errs(t, met+" "+met+more, 17, api.ErrLimit)
			errs(t, met+more+" "+met+more, 0, api.ErrLimit)
		}
		errs(t, c.first+strings.Repeat("x", api.MaxText-1), 0, api.ErrLimit)
	}
}

// P4.1: numbers are digits, - right ahead of them or not.
func TestNumbers(t *testing.T) {
	tells(t, "0", number(0, 0), end(1))
	tells(t, "9", number(0, 9), end(1))
	tells(t, "-0", number(0, 0), end(2))
	tells(t, "-9", number(0, -9), end(2))
	tells(t, "007", number(0, 7), end(3))
	tells(t, "-010", number(0, -10), end(4))
	tells(t, "123456789", number(0, 123456789), end(9))
	tells(t, "1 2", number(0, 1), number(2, 2), end(3))
	tells(t, "1-2", number(0, 1), number(1, -2), end(3))
	tells(t, "-1-2-3", number(0, -1), number(2, -2), number(4, -3), end(6))
	tells(t, "12ab", number(0, 12), name(2, "ab"), end(4))
	tells(t, "1X", number(0, 1), aVar(1, "X"), end(2))
	tells(t, "1.5", number(0, 1), sign(1, "."), number(2, 5), end(3))
	tells(t, "1e5", number(0, 1), name(1, "e5"), end(3))
	tells(t, "0x10", number(0, 0), name(1, "x10"), end(4))
	tells(t, "(-5)", sign(0, "("), number(1, -5), sign(3, ")"), end(4))
	tells(t, "<-5", sign(0, "<-"), number(2, 5), end(3))
	tells(t, "< -5", sign(0, "<"), number(2, -5), end(4))
	tells(t, "=-5", sign(0, "="), number(1, -5), end(3))
}

// P4.1: - without digits right behind it is no number, and nothing else.
func TestMinus(t *testing.T) {
	errs(t, "-", 0, api.ErrBad)
	errs(t, "1-", 1, api.ErrBad)
	errs(t, "--1", 0, api.ErrBad)
	errs(t, "1--1", 1, api.ErrBad)
	errs(t, "- 1", 0, api.ErrBad)
	errs(t, "-\n1", 0, api.ErrBad)
	errs(t, "-%\n1", 0, api.ErrBad)
	errs(t, "a -", 2, api.ErrBad)
	errs(t, "-a", 0, api.ErrBad)
	errs(t, "-A1", 0, api.ErrBad)
	errs(t, "-(1)", 0, api.ErrBad)
	errs(t, "-_1", 0, api.ErrBad)
	errs(t, "+1", 0, api.ErrBad)
	errs(t, "<--", 2, api.ErrBad)
	tells(t, "<--1", sign(0, "<-"), number(2, -1), end(4))
	tells(t, ":--1", sign(0, ":-"), number(2, -1), end(4))
}

// P4.1: MaxNum and its opposite, just met and one beyond, however long it is written: the error is where the number begins.
func TestMaxNum(t *testing.T) {
	nils := strings.Repeat("0", 3000)
	tells(t, "1073741824", number(0, api.MaxNum), end(10))
	tells(t, "-1073741824", number(0, -api.MaxNum), end(11))
	tells(t, nils+"1073741824", number(0, api.MaxNum), end(3010))
	tells(t, "-"+nils+"1073741824", number(0, -api.MaxNum), end(3011))
	tells(t, "1073741823", number(0, api.MaxNum-1), end(10))
	for _, s := range []string{"1073741825", "1073741834", "1073741924", "2073741824", "10737418240", "2147483648", "4294967296", "4294967297", "9223372036854775807", "9223372036854775808", "18446744073709551616", "18446744073709551617", nils + "1073741825", "1" + nils, strings.Repeat("9", 3990)} {
		errs(t, s, 0, api.ErrLimit)
		errs(t, "-"+s, 0, api.ErrLimit)
		errs(t, "f(-"+s+")", 2, api.ErrLimit)
		errs(t, "a% \n "+s+" b", 5, api.ErrLimit)
	}
}

// P4.1: each mark, alone, at the begin, at the end, and between tokens.
func TestMarks(t *testing.T) {
	for _, m := range all() {
		n := len(m)
		tells(t, m, sign(0, m), end(n))
		tells(t, m+"a", sign(0, m), name(n, "a"), end(n+1))
		tells(t, m+"1", sign(0, m), number(n, 1), end(n+1))
		tells(t, "a"+m, name(0, "a"), sign(1, m), end(n+1))
		tells(t, "a"+m+"B", name(0, "a"), sign(1, m), aVar(n+1, "B"), end(n+2))
		tells(t, " "+m+" ", sign(1, m), end(n+2))
		errs(t, m+"\x00", n, api.ErrBad)
		errs(t, m+"\xff", n, api.ErrBad)
	}
}

// P4.1: of two marks side by side the longest one is taken, from the left; what is left of it is no part of it.
func TestLongestMark(t *testing.T) {
	tells(t, "<", sign(0, "<"), end(1))
	tells(t, "<-", sign(0, "<-"), end(2))
	tells(t, "< -1", sign(0, "<"), number(2, -1), end(4))
	tells(t, "<-1", sign(0, "<-"), number(2, 1), end(3))
	tells(t, "<=", sign(0, "<"), sign(1, "="), end(2))
	tells(t, "<<-", sign(0, "<"), sign(1, "<-"), end(3))
	tells(t, "<-<", sign(0, "<-"), sign(2, "<"), end(3))
	tells(t, "=", sign(0, "="), end(1))
	tells(t, "=<", sign(0, "=<"), end(2))
	tells(t, "= <", sign(0, "="), sign(2, "<"), end(3))
	tells(t, "==<", sign(0, "="), sign(1, "=<"), end(3))
	tells(t, "=<<", sign(0, "=<"), sign(2, "<"), end(3))
	tells(t, "=<=", sign(0, "=<"), sign(2, "="), end(3))
	tells(t, "=<-1", sign(0, "=<"), number(2, -1), end(4))
	errs(t, "=<-", 2, api.ErrBad)
	tells(t, "=\\=", sign(0, "="), sign(1, "\\="), end(3))
	tells(t, "\\==", sign(0, "\\="), sign(2, "="), end(3))
	tells(t, "\\=<", sign(0, "\\="), sign(2, "<"), end(3))
	tells(t, "\\+\\=", sign(0, "\\+"), sign(2, "\\="), end(4))
	tells(t, ".:-.", sign(0, "."), sign(1, ":-"), sign(3, "."), end(4))
	tells(t, "((,;", sign(0, "("), sign(1, "("), sign(2, ","), sign(3, ";"), end(4))
	for _, m := range []string{":-", "\\=", "\\+"} {
		errs(t, m[:1], 0, api.ErrBad)
		errs(t, m[:1]+" "+m[1:], 0, api.ErrBad)
		errs(t, m[:1]+m, 0, api.ErrBad)
		errs(t, "a"+m[:1], 1, api.ErrBad)
		errs(t, m+m[:1]+"a", 2, api.ErrBad)
	}
	errs(t, ":=", 0, api.ErrBad)
	errs(t, ":1", 0, api.ErrBad)
	errs(t, "\\-", 0, api.ErrBad)
	errs(t, "\\<", 0, api.ErrBad)
	errs(t, "<+", 1, api.ErrBad)
}

// P4.1: each two marks side by side are both taken, where none of them with the other's begin is a longer one.
func TestMarkPairs(t *testing.T) {
	for _, a := range all() {
		for _, b := range all() {
			if slices.Contains(all(), a+b[:1]) {
				continue
			}
			n := len(a)
			tells(t, a+b, sign(0, a), sign(n, b), end(n+len(b)))
		}
	}
}

// P4.1: blanks are passed over, wherever they are; they part tokens.
func TestBlanks(t *testing.T) {
	for _, b := range []string{" ", "\t", "\n", "\r", "\r\n", " \t\n\r ", strings.Repeat("\n", 50)} {
		n := len(b)
		tells(t, b, end(n))
		tells(t, b+"a", name(n, "a"), end(n+1))
		tells(t, "a"+b, name(0, "a"), end(n+1))
		tells(t, "a"+b+"b", name(0, "a"), name(n+1, "b"), end(n+2))
		tells(t, "1"+b+"2", number(0, 1), number(n+1, 2), end(n+2))
		tells(t, "="+b+"<", sign(0, "="), sign(n+1, "<"), end(n+2))
		tells(t, b+b+"A"+b+b, aVar(2*n, "A"), end(4*n+1))
		errs(t, "-"+b+"1", 0, api.ErrBad)
		errs(t, ":"+b+"-", 0, api.ErrBad)
		errs(t, b+"?"+b, n, api.ErrBad)
	}
	for _, b := range []string{"\v", "\f", "\x00", "\x1f", "\x7f", "\x85", "\xa0", "\u00a0", "\u2028", "\ufeff"} {
		errs(t, b, 0, api.ErrBad)
		errs(t, "a "+b+" b", 2, api.ErrBad)
	}
}

// P4.1: a remark ends with its row (10), or with the text; in it stands what may.
func TestRemarks(t *testing.T) {
	tells(t, "%", end(1))
	tells(t, "%\n", end(2))
	tells(t, "% a b", end(5))
	tells(t, "%a\nb", name(3, "b"), end(4))
	tells(t, "a%b", name(0, "a"), end(3))
	tells(t, "a%b\nc", name(0, "a"), name(4, "c"), end(5))
	tells(t, "1%2\n3", number(0, 1), number(4, 3), end(5))
	tells(t, "<%\n-1", sign(0, "<"), number(3, -1), end(5))
	tells(t, "a %% b % c\n% d\n\n%e\n f", name(0, "a"), name(20, "f"), end(21))
	tells(t, "%a\r\nb\r\n%c\r\n", name(4, "b"), end(11))
	tells(t, "%a\rb", end(4))
	tells(t, "%a\tb\vc\fd", end(8))
	tells(t, "%\x00\xff\xc3é?\"'\\:-_\nb", name(14, "b"), end(15))
	tells(t, "%\u2028a\u0085b\nc", name(9, "c"), end(10))
	tells(t, "%"+strings.Repeat("x", api.MaxName+1)+"1073741825\na", name(29, "a"), end(30))
	tells(t, "%\n%\n%", end(5))
	tells(t, "a.%", name(0, "a"), sign(1, "."), end(3))
	errs(t, "%\n?", 2, api.ErrBad)
	errs(t, "%?\n a ?%", 6, api.ErrBad)
	errs(t, ":%\n-", 0, api.ErrBad)
}

// P4.1: MaxText, just met and one beyond, whatever the bytes are.
func TestMaxText(t *testing.T) {
	most := api.MaxText
	tells(t, strings.Repeat(" ", most), end(most))
	tells(t, "%"+strings.Repeat("?", most-1), end(most))
	tells(t, strings.Repeat("\n", most-1)+"a", name(most-1, "a"), end(most))
	tells(t, "a"+strings.Repeat("\r", most-1), name(0, "a"), end(most))
	if l, at, e := Tokens(strings.Repeat(".", most)); len(l) != most+1 || at != 0 || e != api.OK || l[most-1] != sign(most-1, ".") || l[most] != end(most) {
		t.Errorf("%d, %d, %v", len(l), at, e)
	}
	errs(t, strings.Repeat(" ", most-1)+"?", most-1, api.ErrBad)
	errs(t, strings.Repeat(" ", most-1)+"-", most-1, api.ErrBad)
	for _, s := range []string{" ", ".", "a", "?", "-", "\xff", "\x00", "%", "a ", "é"} {
		errs(t, strings.Repeat(s, most+1), 0, api.ErrLimit)
	}
	errs(t, strings.Repeat(" ", most)+"a", 0, api.ErrLimit)
	errs(t, strings.Repeat(" ", most)+"?", 0, api.ErrLimit)
	errs(t, "%"+strings.Repeat("?", most), 0, api.ErrLimit)
	errs(t, strings.Repeat("?", 1<<24), 0, api.ErrLimit)
}

// P4.1: of two errors the first one in the text is told, and where; a text that is too long is told ahead of all.
func TestFirstError(t *testing.T) {
	long, great := strings.Repeat("a", api.MaxName+1), "1073741825"
	errs(t, "? "+long, 0, api.ErrBad)
	errs(t, long+" ?", 0, api.ErrLimit)
	errs(t, "a ? "+great, 2, api.ErrBad)
	errs(t, "a "+great+" ?", 2, api.ErrLimit)
	errs(t, "a "+great+"?", 2, api.ErrLimit)
	errs(t, "a "+long+"?", 2, api.ErrLimit)
	errs(t, great+" "+long, 0, api.ErrLimit)
	errs(t, "- "+great, 0, api.ErrBad)
	errs(t, "-"+great+" -", 0, api.ErrLimit)
	errs(t, "--"+great, 0, api.ErrBad)
	errs(t, "-"+long, 0, api.ErrBad)
	errs(t, ":"+long, 0, api.ErrBad)
	errs(t, "a ? b !", 2, api.ErrBad)
	errs(t, "%?\n%"+long+"\n !", 23, api.ErrBad)
	errs(t, "?"+strings.Repeat(" ", api.MaxText), 0, api.ErrLimit)
	errs(t, "?"+strings.Repeat(" ", api.MaxText-1), 0, api.ErrBad)
}

// begins is what a byte alone is: a token, nothing (passed over), or a fault.
func begins(b byte) (token api.Token, nothing bool, fault bool) {
	s := string([]byte{b})
	switch {
	case strings.Contains("abcdefghijklmnopqrstuvwxyz", s):
		return name(0, s), false, false
	case strings.Contains("ABCDEFGHIJKLMNOPQRSTUVWXYZ", s):
		return aVar(0, s), false, false
	case strings.Contains("0123456789", s):
		return number(0, int(b)-48), false, false
	case strings.Contains("(),.;<=&|@", s):
		return sign(0, s), false, false
	case b == 32 || b == 9 || b == 10 || b == 13 || b == '%':
		return api.Token{}, true, false
	}
	return api.Token{}, false, true
}

// P4.1: each byte alone, at the begin, at the end, and between tokens.
func TestEachByte(t *testing.T) {
	for i := range 256 {
		s := string([]byte{byte(i)})
		x, nothing, fault := begins(byte(i))
		at := func(n int) api.Token {
			x.At = n
			return x
		}
		switch {
		case fault:
			errs(t, s, 0, api.ErrBad)
			errs(t, s+" a", 0, api.ErrBad)
			errs(t, "a "+s, 2, api.ErrBad)
			errs(t, "a "+s+" b", 2, api.ErrBad)
			errs(t, ")"+s+")", 1, api.ErrBad)
			errs(t, "a. "+s+s, 3, api.ErrBad)
		case nothing && s == "%":
			tells(t, s, end(1))
			tells(t, s+"\na", name(2, "a"), end(3))
			tells(t, ")"+s, sign(0, ")"), end(2))
			tells(t, ")"+s+"\n)", sign(0, ")"), sign(3, ")"), end(4))
		case nothing:
			tells(t, s, end(1))
			tells(t, s+"a", name(1, "a"), end(2))
			tells(t, ")"+s, sign(0, ")"), end(2))
			tells(t, ")"+s+")", sign(0, ")"), sign(2, ")"), end(3))
		default:
			tells(t, s, at(0), end(1))
			tells(t, s+" a", at(0), name(2, "a"), end(3))
			tells(t, "a "+s, name(0, "a"), at(2), end(3))
			tells(t, ")"+s+")", sign(0, ")"), at(1), sign(2, ")"), end(3))
		}
	}
}

// P4.1: which bytes go on with a name, and with a number.
func TestEachByteBehind(t *testing.T) {
	for i := range 256 {
		s := string([]byte{byte(i)})
		inner := strings.Contains("abcdefghijklmnopqrstuvwxyzABCDEFGHIJKLMNOPQRSTUVWXYZ0123456789_", s)
		if inner {
			tells(t, "a"+s, name(0, "a"+s), end(2))
			tells(t, "A"+s+"b", aVar(0, "A"+s+"b"), end(3))
		} else if l, at, e := Tokens("a" + s + " b"); e == api.OK && l[0] != name(0, "a") || e != api.OK && (at != 1 || e != api.ErrBad) {
			t.Errorf("byte %d behind a name: %v, %d, %v", i, l, at, e)
		}
		if '0' <= i && i <= '9' {
			tells(t, "1"+s, number(0, i-38), end(2))
			tells(t, "-"+s, number(0, 48-i), end(2))
		} else if l, at, e := Tokens("1" + s + " b"); e == api.OK && l[0] != number(0, 1) || e != api.OK && (at != 1 || e != api.ErrBad) {
			t.Errorf("byte %d behind a number: %v, %d, %v", i, l, at, e)
		}
		if i < '0' || '9' < i {
			errs(t, "-"+s, 0, api.ErrBad)
		}
	}
}

// P4.1: texts that are not UTF-8, or letters beyond a byte, are bytes as others are: the first one is told.
func TestWrongTexts(t *testing.T) {
	for _, s := range []string{"\xff", "\xfe\xff", "\xc3", "\xe2\x82", "\xed\xa0\x80", "\xf5", "é", "É", "ß", "€", "日", "😀", "\u0661", "\uff11", "\u2212", "\uff08", "\x00", "?", "!", "\"", "'", "#", "$", "*", "+", "/", ">", "[", "]", "^", "`", "{", "}", "~", "-", ":", "\\"} {
		errs(t, s, 0, api.ErrBad)
		errs(t, "ab"+s, 2, api.ErrBad)
		errs(t, "Ab "+s+"c", 3, api.ErrBad)
		errs(t, "12"+s+" 3", 2, api.ErrBad)
		errs(t, "( \n"+s, 3, api.ErrBad)
	}
}

// R1, R2: the same call tells the same; what is told is new memory, spare room too.
func TestMemory(t *testing.T) {
	s := "f(X, -12) :- g(X). % end"
	want := list(name(0, "f"), sign(1, "("), aVar(2, "X"), sign(3, ","), number(5, -12), sign(8, ")"), sign(10, ":-"), name(13, "g"), sign(14, "("), aVar(15, "X"), sign(16, ")"), sign(17, "."), end(24))
	l, _, _ := Tokens(s)
	m, _, _ := Tokens(s)
	if !slices.Equal(l, want) {
		t.Fatalf("%v", l)
	}
	for i := range l[:cap(l)] {
		l[:cap(l)][i] = api.Token{Kind: 99, Text: "q", N: 7, At: -1}
	}
	_ = append(m[:1], api.Token{Kind: 98})
	_ = append(m, api.Token{Kind: 97})
	if k, _, _ := Tokens(s); !slices.Equal(k, want) {
		t.Errorf("changed: %v", k)
	}
	if m[0] != want[0] || !slices.Equal(m[2:], want[2:]) {
		t.Errorf("shared: %v", m)
	}
}
