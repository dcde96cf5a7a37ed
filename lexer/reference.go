package lexer

import (
	"hornbeam/entity"
)

// beginRef begins a reference, behind which the state goes on.
func (x *Lexer) beginRef() verdict {
	x.temp = []rune{'&'}
	x.back = x.state
	return x.to(ref)
}

func (x *Lexer) inValue() bool { return x.back == quotedValue || x.back == plainValue }

// put adds to the value that the reference stands in, or tells characters.
func (x *Lexer) put(l ...rune) {
	for _, c := range l {
		if x.inValue() {
			x.addToValue(c)
		} else {
			x.char(c)
		}
	}
}

func (x *Lexer) inRef(c rune) verdict {
	switch {
	case isAlnum(c):
		x.temp = nil
		return x.again(named)
	case c == '#':
		x.temp = append(x.temp, c)
		return x.to(numeric)
	}
	x.put(x.temp...)
	return x.again(x.back)
}

// inNamed goes on as long as some name does.
func (x *Lexer) inNamed(c rune) verdict {
	word := string(x.temp) + string(c)
	switch goesOn := (isAlnum(c) || c == ';') && entity.Begins(word); {
	case !goesOn:
		return x.decide(c)
	case c == ';':
		// A semicolon is the last sign of every name that has one: this is all of it.
		_, points := entity.Longest(word)
		x.put(points...)
		return x.to(x.back)
	}
	x.temp = append(x.temp, c)
	return done
}

// decide finds the name that temp, which goes on as c, begins with. It has no semicolon.
func (x *Lexer) decide(c rune) verdict {
	name, points := entity.Longest(string(x.temp))
	if name == "" {
		x.put('&')
		x.state = ambiguous
		return behind
	}
	text, rest := x.temp[:len(name)], x.temp[len(name):]
	next := c
	if len(rest) > 0 {
		next = rest[0]
	}
	if x.inValue() && (next == '=' || isAlnum(next)) {
		// Old pages have such names in their links, unescaped.
		x.put('&')
		x.put(text...)
	} else {
		x.fault("missing-semicolon-after-character-reference")
		x.put(points...)
	}
	x.temp = rest
	x.state = x.back
	return behind
}

func (x *Lexer) inAmbiguous(c rune) verdict {
	switch {
	case isAlnum(c):
		x.put(c)
		return done
	case c == ';':
		x.fault("unknown-named-character-reference")
	}
	return x.again(x.back)
}
