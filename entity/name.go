package entity

import (
	"strings"
)

// longest is the length of the longest name's text, which is thetasym and its semicolon.
const longest = 9

// name is a name with its first code point.
type name struct {
	text  string // the shortest that is a name's text: with ; only where it has to be there
	point rune
}

// full is the name with its semicolon.
func (x name) full() string {
	if strings.HasSuffix(x.text, ";") {
		return x.text
	}
	return x.text + ";"
}

// is tells whether s is the name's text.
func (x name) is(s string) bool { return s == x.text || s == x.full() }

// begins tells whether the name's text begins with s.
func (x name) begins(s string) bool { return strings.HasPrefix(x.text, s) || s == x.full() }

func (x name) points() []rune {
	if r, ok := x.second(); ok {
		return []rune{x.point, r}
	}
	return []rune{x.point}
}

// second is the second code point of the few names that have two.
func (x name) second() (rune, bool) {
	switch x.text {
	case "nvlt;":
		return 8402, true
	case "bne;":
		return 8421, true
	case "fjlig;":
		return 106, true
	case "acE;":
		return 819, true
	}
	return 0, false
}

// alike are the names whose first letter is that of s: no others can begin s, or begin with it.
func alike(s string) []name {
	switch {
	case s == "":
		return nil
	case s[0] < 'a':
		return capitals(s[0])
	case s[0] < 'm':
		return smallsToL(s[0])
	}
	return smallsFromM(s[0])
}
