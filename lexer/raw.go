package lexer

import (
	"hornbeam/api"
)

// inLess is the state behind a < in a text that only its own end tag ends, or, in an escaped script, begins to escape twice.
func (x *Lexer) inLess(c rune) verdict {
	switch {
	case c == '/':
		return x.to(endOpen)
	case c == '!' && x.home == script:
		x.chars("<!")
		return x.to(escStart)
	case isLetter(c) && x.home == esc:
		x.temp = nil
		x.char('<')
		return x.again(dblStart)
	}
	x.char('<')
	return x.again(x.home)
}

func (x *Lexer) inEndOpen(c rune) verdict {
	if isLetter(c) {
		x.newTag(api.TEnd)
		x.temp = nil
		return x.again(endName)
	}
	x.chars("</")
	return x.again(x.home)
}

func (x *Lexer) inEndName(c rune) verdict {
	switch right := string(x.tag.name) == x.last; {
	case right && isBlank(c):
		return x.to(beforeAttr)
	case right && c == '/':
		return x.to(selfClose)
	case right && c == '>':
		return x.emit()
	case isLetter(c):
		x.tag.name = add(x.tag.name, small(c))
		x.temp = append(x.temp, c)
		return done
	}
	x.chars("</")
	for _, r := range x.temp {
		x.char(r)
	}
	return x.again(x.home)
}
