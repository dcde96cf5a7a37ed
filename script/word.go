package script

import (
	"strconv"
	"strings"

	"hornbeam/api"
)

// maxNumber is the greatest number that a line may have.
const maxNumber = 99999

// digits are those of base 16.
const digits = "0123456789abcdef"

// word is a word of a line: a name, a number or a text.
type word interface {
	// spell tells it as it stands in a line.
	spell() string
}

// name is every word that is neither a number nor a text.
type name string

// number may be None.
type number int

// text is a text's bytes.
type text string

// toWord tells what a piece of a line is.
func toWord(s string) word {
	if b, is := toText(s); is {
		return text(b)
	}
	if n, is := toNumber(s); is {
		return number(n)
	}
	return name(s)
}

func toText(s string) (string, bool) {
	hex, is := strings.CutPrefix(s, "=")
	if !is || len(hex)%2 != 0 {
		return "", false
	}
	b := make([]byte, 0, len(hex)/2)
	for i := 0; i < len(hex); i += 2 {
		high, low := strings.IndexByte(digits, hex[i]), strings.IndexByte(digits, hex[i+1])
		if high < 0 || low < 0 {
			return "", false
		}
		b = append(b, byte(high<<4|low))
	}
	return string(b), true
}

func toNumber(s string) (int, bool) {
	if s == "-" {
		return api.None, true
	}
	n, err := strconv.Atoi(s)
	// Atoi takes signs and digits 0 ahead too: what is not told again as it stood is no number.
	if err != nil || n < 0 || n > maxNumber || strconv.Itoa(n) != s {
		return 0, false
	}
	return n, true
}

// isNumber tells whether a line can have n.
func isNumber(n int) bool {
	return n == api.None || n >= 0 && n <= maxNumber
}

func (x name) spell() string { return string(x) }

func (x number) spell() string {
	if x == api.None {
		return "-"
	}
	return strconv.Itoa(int(x))
}

func (x text) spell() string {
	b := append(make([]byte, 0, 1+2*len(x)), '=')
	for _, c := range []byte(x) {
		b = append(b, digits[c>>4], digits[c&15])
	}
	return string(b)
}

// spelled are words as they stand in a line.
func spelled(words ...word) string {
	pieces := make([]string, 0, len(words))
	for _, w := range words {
		pieces = append(pieces, w.spell())
	}
	return strings.Join(pieces, " ")
}
