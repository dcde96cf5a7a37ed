package lexer

import (
	"strings"

	"hornbeam/api"
)

// What a doctype has.
const (
	hasName   = 1
	hasPublic = 2
	hasSystem = 4
)

// doctype is one that is being made.
type doctype struct {
	name   []byte
	public []byte
	system []byte
	has    int
	quirks bool
}

func (x *Lexer) newDoctype() {
	x.doctype = doctype{}
	x.tell = (*Lexer).tellDoctype
}

func (x *Lexer) tellDoctype() {
	d := x.doctype
	x.doctype = doctype{}
	x.token(api.Token{
		Kind: api.TDoctype, Name: string(d.name), Data: string(d.public), System: string(d.system), Has: d.has, Quirks: d.quirks,
	})
}

// wrongEnd is a > where the doctype lacks something.
func (x *Lexer) wrongEnd(fault string) verdict {
	x.fault(fault)
	x.doctype.quirks = true
	return x.emit()
}

// wrong is a sign with which the rest of the doctype means nothing.
func (x *Lexer) wrong(fault string) verdict {
	x.fault(fault)
	x.doctype.quirks = true
	return x.again(bogusDoctype)
}

// cutDoctype tells a doctype that the end comes into.
func (x *Lexer) cutDoctype() verdict {
	x.fault("eof-in-doctype")
	x.doctype.quirks = true
	x.tell(x)
	return x.end()
}

func (x *Lexer) inBeginDoctype(c rune) verdict {
	switch c {
	case '\t', '\n', '\f', ' ':
		return x.to(beforeDocName)
	case '>', api.EOF:
	default:
		x.fault("missing-whitespace-before-doctype-name")
	}
	return x.again(beforeDocName)
}

func (x *Lexer) inBeforeDocName(c rune) verdict {
	if isBlank(c) {
		return done
	}
	x.newDoctype()
	switch c {
	case '>':
		return x.wrongEnd("missing-doctype-name")
	case api.EOF:
		return x.cutDoctype()
	}
	x.doctype.has = hasName
	return x.again(docName)
}

func (x *Lexer) inDocName(c rune) verdict {
	switch c {
	case '\t', '\n', '\f', ' ':
		x.temp = nil
		return x.to(afterDocName)
	case '>':
		return x.emit()
	case api.EOF:
		return x.cutDoctype()
	case 0:
		c = x.null()
		fallthrough
	default:
		x.doctype.name = add(x.doctype.name, small(c))
	}
	return done
}

// inAfterDocName waits until it is sure which word stands behind the name.
func (x *Lexer) inAfterDocName(c rune) verdict {
	if len(x.temp) == 0 {
		switch c {
		case '\t', '\n', '\f', ' ':
			return done
		case '>':
			return x.emit()
		case api.EOF:
			return x.cutDoctype()
		}
	}
	x.temp = append(x.temp, c)
	switch word := smallText(x.temp); {
	case word == "public":
		return x.to(afterPublicKey)
	case word == "system":
		return x.to(afterSystemKey)
	case strings.HasPrefix("public", word), strings.HasPrefix("system", word):
		return done
	}
	return x.wrong("invalid-character-sequence-after-doctype-name")
}

func (x *Lexer) inBogusDoctype(c rune) verdict {
	switch c {
	case '>':
		return x.emit()
	case 0:
		x.null()
	case api.EOF:
		x.tell(x)
		return x.end()
	}
	return done
}
