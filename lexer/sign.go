package lexer

import (
	"unicode/utf8"
)

func isBlank(c rune) bool { return c == '\t' || c == '\n' || c == '\f' || c == ' ' }

func isLetter(c rune) bool { return small(c) >= 'a' && small(c) <= 'z' }

func isAlnum(c rune) bool { return isLetter(c) || c >= '0' && c <= '9' }

// small leaves others than A to Z as they are: the library's ways to small letters know others too.
func small(c rune) rune {
	if c >= 'A' && c <= 'Z' {
		return c - 'A' + 'a'
	}
	return c
}

func smallText(l []rune) string {
	var b []byte
	for _, c := range l {
		b = add(b, small(c))
	}
	return string(b)
}

// digit is the number that c stands for in a base of at most 16.
func digit(c rune, base int) (int, bool) {
	n := base
	switch c = small(c); {
	case c >= '0' && c <= '9':
		n = int(c - '0')
	case c >= 'a' && c <= 'f':
		n = int(c-'a') + 10
	}
	if n >= base {
		return 0, false
	}
	return n, true
}

// add answers a text with c behind it. AppendRune writes U+FFFD for D800 to DFFF.
func add(text []byte, c rune) []byte { return utf8.AppendRune(text, c) }
