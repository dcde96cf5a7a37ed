package builder

import (
	"hornbeam/api"
	"hornbeam/quirk"
)

func (b *tree) initial(t api.Token) verdict {
	switch {
	case isBlank(t):
	case t.Kind == api.TComment:
		b.commentAt(atEndOf(document), t)
	case t.Kind == api.TDoctype:
		b.doctype(t)
		b.mode = api.MBeforeHTML
	default:
		b.wrong()
		b.quirk = api.Quirks
		b.mode = api.MBeforeHTML
		return again
	}
	return done
}

func (b *tree) doctype(t api.Token) {
	if !quirk.Good(t) {
		b.wrong()
	}
	b.link(atEndOf(document), b.made(b.arena.Doctype(t.Name, t.Data, t.System)))
	b.quirk = quirk.Mode(t)
}

func (b *tree) beforeHTML(t api.Token) verdict {
	switch {
	case isBlank(t):
	case t.Kind == api.TDoctype, t.Kind == api.TEnd && !opensBody(t.Name) && t.Name != "head":
		b.wrong()
	case t.Kind == api.TComment:
		b.commentAt(atEndOf(document), t)
	case t.Kind == api.TStart && t.Name == "html":
		b.putRoot(t.Attrs)
		b.mode = api.MBeforeHead
	default:
		b.putRoot(nil)
		b.mode = api.MBeforeHead
		return again
	}
	return done
}

// opensBody tells of the end tags that are not passed over ahead of the body.
func opensBody(name string) bool {
	return name == "body" || name == "html" || name == "br"
}

// isUsual does what many modes do alike: false, if it is another token.
func (b *tree) isUsual(t api.Token) bool {
	switch {
	case t.Kind == api.TComment:
		b.comment(t)
	case t.Kind == api.TDoctype:
		b.wrong()
	case t.Kind == api.TStart && t.Name == "html":
		b.inBody(t)
	default:
		return false
	}
	return true
}

func (b *tree) beforeHead(t api.Token) verdict {
	switch {
	case isBlank(t), b.isUsual(t):
	case t.Kind == api.TStart && t.Name == "head":
		b.head = b.put(t)
		b.mode = api.MInHead
	case t.Kind == api.TEnd && !opensBody(t.Name) && t.Name != "head":
		b.wrong()
	default:
		b.head = b.putNamed("head")
		b.mode = api.MInHead
		return again
	}
	return done
}

func (b *tree) inHead(t api.Token) verdict {
	switch {
	case isBlank(t):
		b.char(t.Char)
	case b.isUsual(t), b.isHeadStart(t), b.isHeadEnd(t):
	default:
		b.open.Pop()
		b.mode = api.MAfterHead
		return again
	}
	return done
}

// isHeadStart does the start tags of a head: false, if it is another token.
func (b *tree) isHeadStart(t api.Token) bool {
	if t.Kind != api.TStart {
		return false
	}
	switch t.Name {
	case "base", "basefont", "bgsound", "link", "meta":
		b.void(t)
	case "title":
		b.raw(t, api.LexRCDATA)
	case "noscript":
		if !b.scripts {
			b.put(t)
			b.mode = api.MNoscript
			return true
		}
		fallthrough
	case "noframes", "style":
		b.raw(t, api.LexRAWTEXT)
	case "script":
		b.raw(t, api.LexScript)
	case "template":
		b.openTemplate(t)
	case "head":
		b.wrong()
	default:
		return false
	}
	return true
}

// isHeadEnd does the end tags of a head: false, if it is another token.
func (b *tree) isHeadEnd(t api.Token) bool {
	if t.Kind != api.TEnd || opensBody(t.Name) {
		return false
	}
	switch t.Name {
	case "head":
		b.open.Pop()
		b.mode = api.MAfterHead
	case "template":
		b.closeTemplate()
	default:
		b.wrong()
	}
	return true
}

func (b *tree) inNoscript(t api.Token) verdict {
	switch {
	case isBlank(t):
		return b.inHead(t)
	case b.isUsual(t):
		return done
	case t.Kind == api.TStart:
		switch t.Name {
		case "basefont", "bgsound", "link", "meta", "noframes", "style":
			return b.inHead(t)
		case "head", "noscript":
			b.wrong()
			return done
		}
	case t.Kind == api.TEnd && t.Name == "noscript":
		b.open.Pop()
		b.mode = api.MInHead
		return done
	case t.Kind == api.TEnd && t.Name != "br":
		b.wrong()
		return done
	}
	b.wrong()
	b.open.Pop()
	b.mode = api.MInHead
	return again
}

func (b *tree) afterHead(t api.Token) verdict {
	switch {
	case isBlank(t):
		b.char(t.Char)
		return done
	case b.isUsual(t):
		return done
	case t.Kind == api.TStart:
		if b.isAfterHeadStart(t) {
			return done
		}
	case t.Kind == api.TEnd && t.Name == "template":
		return b.inHead(t)
	case t.Kind == api.TEnd && !opensBody(t.Name):
		b.wrong()
		return done
	}
	b.putNamed("body")
	b.mode = api.MInBody
	return again
}

// isAfterHeadStart does the start tags that have a rule behind the head: false, if it is another one.
func (b *tree) isAfterHeadStart(t api.Token) bool {
	switch {
	case t.Name == "body":
		b.put(t)
		b.framesOff = true
		b.mode = api.MInBody
	case t.Name == "frameset":
		b.put(t)
		b.mode = api.MInFrameset
	case isMeta(t.Name):
		b.wrong()
		b.open.Push(b.head)
		b.inHead(t)
		b.open.Remove(b.head)
	case t.Name == "head":
		b.wrong()
	default:
		return false
	}
	return true
}
