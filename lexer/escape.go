package lexer

import (
	"hornbeam/api"
)

func (x *Lexer) inEscStart(c rune) verdict { return x.dashOf(c, escStartDash) }

func (x *Lexer) inEscStartDash(c rune) verdict { return x.dashOf(c, escDashDash) }

// dashOf takes a dash of a comment's beginning, without which the script is not escaped.
func (x *Lexer) dashOf(c rune, next int) verdict {
	if c != '-' {
		return x.again(script)
	}
	x.char(c)
	return x.to(next)
}

func (x *Lexer) inEsc(c rune) verdict {
	if c == '<' {
		x.home = esc
		return x.to(less)
	}
	return x.escaped(c, esc)
}

func (x *Lexer) inDbl(c rune) verdict {
	if c == '<' {
		x.char(c)
		return x.to(dblLess)
	}
	return x.escaped(c, dbl)
}

// escaped is what goes alike in a script that is escaped once and twice. First is the state of no dash, ahead of those of one and of more.
func (x *Lexer) escaped(c rune, first int) verdict {
	most := first + 2
	switch {
	case c == '-':
		x.char(c)
		return x.to(min(x.state+1, most))
	case c == '>' && x.state == most:
		x.char(c)
		return x.to(script)
	case c == api.EOF:
		x.fault("eof-in-script-html-comment-like-text")
		return x.end()
	case c == 0:
		c = x.null()
		fallthrough
	default:
		x.char(c)
	}
	return x.to(first)
}

func (x *Lexer) inDblLess(c rune) verdict {
	if c != '/' {
		return x.again(dbl)
	}
	x.temp = nil
	x.char(c)
	return x.to(dblEnd)
}

func (x *Lexer) inDblStart(c rune) verdict { return x.word(c, esc, dbl) }

func (x *Lexer) inDblEnd(c rune) verdict { return x.word(c, dbl, esc) }

// word reads a tag's name in an escaped script: one named script turns the state, others leave it.
func (x *Lexer) word(c rune, stay, turn int) verdict {
	switch {
	case isLetter(c):
		x.temp = append(x.temp, small(c))
		x.char(c)
		return done
	case isBlank(c), c == '/', c == '>':
		x.char(c)
		if string(x.temp) == "script" {
			return x.to(turn)
		}
		return x.to(stay)
	}
	return x.again(stay)
}
