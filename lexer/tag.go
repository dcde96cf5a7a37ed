package lexer

import (
	"hornbeam/api"
)

// tag is one that is being made.
type tag struct {
	name  []byte
	self  bool
	attrs []api.Attr
	names map[string]struct{} // of its attributes; there may be too many of them to be gone over for each
	attr  attr
}

// newTag begins a tag. What its end leads to is settled here, where its kind is known: the states that follow are the same for both.
func (x *Lexer) newTag(kind int) {
	x.tag = tag{}
	x.tell = func(x *Lexer) {
		x.endAttr()
		t := x.tag
		x.tag = tag{}
		if kind == api.TStart {
			x.last = string(t.name)
		} else {
			x.faultsOfEnd(t)
		}
		x.token(api.Token{Kind: kind, Name: string(t.name), Self: t.self, Attrs: t.attrs})
	}
}

// faultsOfEnd tells what an end tag has and should not have.
func (x *Lexer) faultsOfEnd(t tag) {
	if len(t.attrs) > 0 {
		x.fault("end-tag-with-attributes")
	}
	if t.self {
		x.fault("end-tag-with-trailing-solidus")
	}
}

// cutTag leaves a tag that the end comes into untold.
func (x *Lexer) cutTag() verdict {
	x.fault("eof-in-tag")
	return x.end()
}

func (x *Lexer) inTagOpen(c rune) verdict {
	switch {
	case isLetter(c):
		x.newTag(api.TStart)
		return x.again(tagName)
	case c == '!':
		x.temp = nil
		return x.to(markup)
	case c == '/':
		return x.to(endTagOpen)
	case c == '?':
		x.fault("unexpected-question-mark-instead-of-tag-name")
		x.newComment()
		return x.again(bogus)
	case c == api.EOF:
		x.fault("eof-before-tag-name")
		x.char('<')
		return x.end()
	}
	x.fault("invalid-first-character-of-tag-name")
	x.char('<')
	return x.again(data)
}

func (x *Lexer) inEndTagOpen(c rune) verdict {
	switch {
	case isLetter(c):
		x.newTag(api.TEnd)
		return x.again(tagName)
	case c == '>':
		x.fault("missing-end-tag-name")
		return x.to(data)
	case c == api.EOF:
		x.fault("eof-before-tag-name")
		x.chars("</")
		return x.end()
	}
	x.fault("invalid-first-character-of-tag-name")
	x.newComment()
	return x.again(bogus)
}

func (x *Lexer) inTagName(c rune) verdict {
	switch c {
	case '\t', '\n', '\f', ' ':
		return x.to(beforeAttr)
	case '/':
		return x.to(selfClose)
	case '>':
		return x.emit()
	case api.EOF:
		return x.cutTag()
	case 0:
		c = x.null()
		fallthrough
	default:
		x.tag.name = add(x.tag.name, small(c))
	}
	return done
}

func (x *Lexer) inSelfClose(c rune) verdict {
	switch c {
	case api.EOF:
		return x.cutTag()
	case '>':
		x.tag.self = true
		return x.emit()
	}
	x.fault("unexpected-solidus-in-tag")
	return x.again(beforeAttr)
}
