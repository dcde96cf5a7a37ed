package lexer

import (
	"hornbeam/api"
)

func (x *Lexer) fault(name string) { x.errors = append(x.errors, name) }

// null is what stands for a code point 0 where there may be none.
func (x *Lexer) null() rune {
	x.fault("unexpected-null-character")
	return 0xFFFD
}

func (x *Lexer) token(t api.Token) { x.tokens = append(x.tokens, t) }

func (x *Lexer) char(c rune) { x.token(api.Token{Kind: api.TChar, Char: c}) }

func (x *Lexer) chars(s string) {
	for _, c := range s {
		x.char(c)
	}
}

// emit tells what is being made, with which its text ends.
func (x *Lexer) emit() verdict {
	x.tell(x)
	return x.to(data)
}

// end tells that the page is over. The state stays as it is.
func (x *Lexer) end() verdict {
	x.token(api.Token{Kind: api.TEOF})
	return done
}
