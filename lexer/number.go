package lexer

import (
	"unicode/utf8"

	"hornbeam/entity"
)

func (x *Lexer) inNumeric(c rune) verdict {
	if c == 'x' || c == 'X' {
		x.temp = append(x.temp, c)
		return x.to(hexStart)
	}
	return x.again(decStart)
}

func (x *Lexer) inHexStart(c rune) verdict { return x.firstDigit(c, 16, hex) }

func (x *Lexer) inDecStart(c rune) verdict { return x.firstDigit(c, 10, dec) }

func (x *Lexer) firstDigit(c rune, base, state int) verdict {
	if _, ok := digit(c, base); ok {
		x.number = 0
		return x.again(state)
	}
	x.fault("absence-of-digits-in-numeric-character-reference")
	x.put(x.temp...)
	return x.again(x.back)
}

func (x *Lexer) inHex(c rune) verdict { return x.nextDigit(c, 16) }

func (x *Lexer) inDec(c rune) verdict { return x.nextDigit(c, 10) }

func (x *Lexer) nextDigit(c rune, base int) verdict {
	if n, ok := digit(c, base); ok {
		// There may be any count of digits: one number stands for all that are too great.
		x.number = min(x.number*base+n, utf8.MaxRune+1)
		return done
	}
	if c != ';' {
		x.fault("missing-semicolon-after-character-reference")
	}
	point, fault := entity.Number(x.number)
	if fault != "" {
		x.fault(fault)
	}
	x.put(point)
	if c == ';' {
		return x.to(x.back)
	}
	return x.again(x.back)
}
