package lexer

import (
	"hornbeam/api"
)

func (x *Lexer) inData(c rune) verdict {
	switch c {
	case '&':
		return x.beginRef()
	case '<':
		return x.to(tagOpen)
	case api.EOF:
		return x.end()
	case 0:
		x.null() // it is wrong here too, but nothing stands for it
		fallthrough
	default:
		x.char(c)
	}
	return done
}

func (x *Lexer) inRCDATA(c rune) verdict {
	if c == '&' {
		return x.beginRef()
	}
	return x.inRaw(c)
}

func (x *Lexer) inRaw(c rune) verdict {
	if c == '<' {
		x.home = x.state
		return x.to(less)
	}
	return x.inPlaintext(c)
}

func (x *Lexer) inPlaintext(c rune) verdict {
	switch c {
	case api.EOF:
		return x.end()
	case 0:
		c = x.null()
		fallthrough
	default:
		x.char(c)
	}
	return done
}

func (x *Lexer) inCDATA(c rune) verdict {
	switch c {
	case ']':
		return x.to(cdataBracket)
	case api.EOF:
		x.fault("eof-in-cdata")
		return x.end()
	}
	x.char(c)
	return done
}

func (x *Lexer) inCDATABracket(c rune) verdict {
	if c == ']' {
		return x.to(cdataEnd)
	}
	x.char(']')
	return x.again(cdata)
}

func (x *Lexer) inCDATAEnd(c rune) verdict {
	switch c {
	case ']':
		x.char(c) // the first of three: the other two may be those of the end
		return done
	case '>':
		return x.to(data)
	}
	x.chars("]]")
	return x.again(cdata)
}
