package label

import (
	"strings"
)

// atEnds are the bytes that are left out at both ends of a label.
const atEnds = "\t\n\f\r "

func inner(s string) string { return strings.Trim(s, atEnds) }

// isAmong asks for s among labels that stand apart by blanks.
func isAmong(s, labels string) bool {
	from := 0
	for i, c := range labels {
		if c != ' ' {
			continue
		}
		if isLabel(s, labels[from:i]) {
			return true
		}
		from = i + 1
	}
	return isLabel(s, labels[from:])
}

// isLabel holds s against a label byte by byte: strings.EqualFold would take other letters too for those of a label,
// and a copy in small letters would be as long as s is.
func isLabel(s, label string) bool {
	if len(s) != len(label) {
		return false
	}
	for i := range len(s) {
		if small(s[i]) != label[i] {
			return false
		}
	}
	return true
}

func small(c byte) byte {
	if c >= 'A' && c <= 'Z' {
		return c - 'A' + 'a'
	}
	return c
}
