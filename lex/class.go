package lex

// Classes of bytes: some share bytes.
const (
	blank = iota
	small
	great
	digit
	inner // of a name, behind its first letter
	row   // all up to a row's end
)

const (
	alphabet = 1<<26 - 1
	smalls   = alphabet << ('a' - 64)
	greats   = alphabet << ('A' - 64)
	dash     = 1 << ('_' - 64)
	digits   = (1<<10 - 1) << '0'
	blanks   = 1<<' ' | 1<<'\t' | 1<<'\n' | 1<<'\r'
	full     = 1<<64 - 1
)

// classes has a bit for each byte b: bit b&63 of word b>>6.
var classes = [...][4]uint64{
	blank: {blanks},
	small: {0, smalls},
	great: {0, greats},
	digit: {digits},
	inner: {digits, smalls | greats | dash},
	row:   {full &^ (1 << '\n'), full, full, full},
}

func is(class int, b byte) bool {
	return classes[class][b>>6]>>(b&63)&1 == 1
}
