package lexer

import (
	"strings"

	"hornbeam/api"
)

func (x *Lexer) newComment() {
	x.comment = nil
	x.tell = (*Lexer).tellComment
}

func (x *Lexer) tellComment() {
	x.token(api.Token{Kind: api.TComment, Data: string(x.comment)})
	x.comment = nil
}

func (x *Lexer) addToComment(s string) { x.comment = append(x.comment, s...) }

// cutComment tells a comment that the end comes into.
func (x *Lexer) cutComment() verdict {
	x.fault("eof-in-comment")
	x.tell(x)
	return x.end()
}

// inMarkup waits, behind <!, until it is sure what begins there.
func (x *Lexer) inMarkup(c rune) verdict {
	word := string(x.temp) + string(c)
	name := smallText(x.temp) + string(small(c))
	switch {
	case word == "--":
		x.newComment()
		return x.to(comStart)
	case name == "doctype":
		return x.to(beginDoctype)
	case word == "[CDATA[":
		return x.section(word)
	case strings.HasPrefix("--", word), strings.HasPrefix("doctype", name), strings.HasPrefix("[CDATA[", word):
		x.temp = append(x.temp, c)
		return done
	}
	x.fault("incorrectly-opened-comment")
	x.newComment()
	x.state = bogus
	return behind
}

// section begins a CDATA section, or, where there may be none, a comment.
func (x *Lexer) section(word string) verdict {
	if x.may {
		return x.to(cdata)
	}
	x.fault("cdata-in-html-content")
	x.newComment()
	x.addToComment(word)
	return x.to(bogus)
}

func (x *Lexer) inBogus(c rune) verdict {
	switch c {
	case '>':
		return x.emit()
	case api.EOF:
		x.tell(x)
		return x.end()
	case 0:
		c = x.null()
		fallthrough
	default:
		x.comment = add(x.comment, c)
	}
	return done
}

func (x *Lexer) inComStart(c rune) verdict {
	switch c {
	case '>':
		x.fault("abrupt-closing-of-empty-comment")
		return x.emit()
	case '-':
		return x.to(comStartDash)
	}
	return x.again(com)
}

func (x *Lexer) inComStartDash(c rune) verdict {
	if c == '>' {
		x.fault("abrupt-closing-of-empty-comment")
		return x.emit()
	}
	return x.inComEndDash(c)
}

func (x *Lexer) inCom(c rune) verdict {
	switch c {
	case '<':
		x.addToComment("<")
		return x.to(comLess)
	case '-':
		return x.to(comEndDash)
	case api.EOF:
		return x.cutComment()
	case 0:
		c = x.null()
		fallthrough
	default:
		x.comment = add(x.comment, c)
	}
	return done
}

func (x *Lexer) inComLess(c rune) verdict {
	switch c {
	case '!':
		x.addToComment("!")
		return x.to(comLessBang)
	case '<':
		x.addToComment("<")
		return done
	}
	return x.again(com)
}

func (x *Lexer) inComLessBang(c rune) verdict {
	if c == '-' {
		return x.to(comLessDash)
	}
	return x.again(com)
}

func (x *Lexer) inComLessDash(c rune) verdict {
	if c == '-' {
		return x.to(comLessDashDash)
	}
	return x.again(comEndDash)
}

func (x *Lexer) inComLessDashDash(c rune) verdict {
	if c != '>' && c != api.EOF {
		x.fault("nested-comment")
	}
	return x.again(comEnd)
}

func (x *Lexer) inComEndDash(c rune) verdict {
	switch c {
	case '-':
		return x.to(comEnd)
	case api.EOF:
		return x.cutComment()
	}
	x.addToComment("-")
	return x.again(com)
}

func (x *Lexer) inComEnd(c rune) verdict {
	switch c {
	case '>':
		return x.emit()
	case '!':
		return x.to(comEndBang)
	case '-':
		x.addToComment("-") // the first of three: the other two may be those of the end
		return done
	case api.EOF:
		return x.cutComment()
	}
	x.addToComment("--")
	return x.again(com)
}

func (x *Lexer) inComEndBang(c rune) verdict {
	switch c {
	case '>':
		x.fault("incorrectly-closed-comment")
		return x.emit()
	case api.EOF:
		return x.cutComment()
	case '-':
		x.addToComment("--!")
		return x.to(comEndDash)
	}
	x.addToComment("--!")
	return x.again(com)
}
