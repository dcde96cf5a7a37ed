package write

import (
	"strings"
	"unicode/utf8"
)

// noBreak is the blank that no line is broken at: the bytes C2 A0. No other bytes are read as this code point, and they
// are read so wherever they stand, as C2 is always the first byte of one.
const noBreak rune = 0xA0

// Escape writes a text so that a page means the same by it: in an attribute's value, or else between tags.
func Escape(s string, attr bool) string {
	var text strings.Builder
	escape(&text, s, attr)
	return text.String()
}

// escape writes what Escape answers behind a text. What is not changed goes on in whole pieces, so that bytes that are
// no code points stay as they are.
func escape(text *strings.Builder, s string, attr bool) {
	done := 0
	for i, c := range s {
		word := reference(c, attr)
		if word == "" {
			continue
		}
		text.WriteString(s[done:i])
		text.WriteString(word)
		done = i + utf8.RuneLen(c)
	}
	text.WriteString(s[done:])
}

// reference is what stands for a code point that can't stand for itself; it is empty of all others.
func reference(c rune, attr bool) string {
	switch {
	case c == '&':
		return "&amp;"
	case c == noBreak:
		return "&nbsp;"
	case attr && c == '"':
		return "&quot;"
	case !attr && c == '<':
		return "&lt;"
	case !attr && c == '>':
		return "&gt;"
	}
	return ""
}
