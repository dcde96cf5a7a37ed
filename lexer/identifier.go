package lexer

import (
	"hornbeam/api"
)

func (x *Lexer) inBeforePublic(c rune) verdict {
	switch c {
	case api.EOF:
		return x.cutDoctype()
	case '\t', '\n', '\f', ' ':
		return x.to(beforePublic)
	case '"', '\'':
		if x.state == afterPublicKey {
			x.fault("missing-whitespace-after-doctype-public-keyword")
		}
		return x.beginID(c, hasPublic, publicID)
	case '>':
		return x.wrongEnd("missing-doctype-public-identifier")
	}
	return x.wrong("missing-quote-before-doctype-public-identifier")
}

func (x *Lexer) inAfterPublic(c rune) verdict {
	switch c {
	case api.EOF:
		return x.cutDoctype()
	case '\t', '\n', '\f', ' ':
		return x.to(between)
	case '>':
		return x.emit()
	case '"', '\'':
		if x.state == afterPublic {
			x.fault("missing-whitespace-between-doctype-public-and-system-identifiers")
		}
		return x.beginID(c, hasSystem, systemID)
	}
	return x.wrong("missing-quote-before-doctype-system-identifier")
}

func (x *Lexer) inBeforeSystem(c rune) verdict {
	switch c {
	case api.EOF:
		return x.cutDoctype()
	case '\t', '\n', '\f', ' ':
		return x.to(beforeSystem)
	case '"', '\'':
		if x.state == afterSystemKey {
			x.fault("missing-whitespace-after-doctype-system-keyword")
		}
		return x.beginID(c, hasSystem, systemID)
	case '>':
		return x.wrongEnd("missing-doctype-system-identifier")
	}
	return x.wrong("missing-quote-before-doctype-system-identifier")
}

func (x *Lexer) inAfterSystem(c rune) verdict {
	switch c {
	case api.EOF:
		return x.cutDoctype()
	case '\t', '\n', '\f', ' ':
		return done
	case '>':
		return x.emit()
	}
	// Both identifiers are there: what follows them forces no quirks.
	x.fault("unexpected-character-after-doctype-system-identifier")
	return x.again(bogusDoctype)
}

// beginID begins an identifier, which is there then, though it may stay empty.
func (x *Lexer) beginID(quote rune, has, state int) verdict {
	x.doctype.has |= has
	x.quote = quote
	return x.to(state)
}

func (x *Lexer) inPublicID(c rune) verdict {
	return x.identifier(c, &x.doctype.public, afterPublic, "abrupt-doctype-public-identifier")
}

func (x *Lexer) inSystemID(c rune) verdict {
	return x.identifier(c, &x.doctype.system, afterSystem, "abrupt-doctype-system-identifier")
}

// identifier adds to one of both; abrupt is the fault of a > within it.
func (x *Lexer) identifier(c rune, text *[]byte, after int, abrupt string) verdict {
	switch c {
	case x.quote:
		return x.to(after)
	case '>':
		return x.wrongEnd(abrupt)
	case api.EOF:
		return x.cutDoctype()
	case 0:
		c = x.null()
		fallthrough
	default:
		*text = add(*text, c)
	}
	return done
}
