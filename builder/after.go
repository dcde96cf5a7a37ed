package builder

import (
	"hornbeam/api"
)

func isHTMLStart(t api.Token) bool {
	return t.Kind == api.TStart && t.Name == "html"
}

func (b *tree) afterBody(t api.Token) verdict {
	switch {
	case isBlank(t), isHTMLStart(t):
		return b.inBody(t)
	case t.Kind == api.TComment:
		b.commentAt(atEndOf(b.open.At(0)), t)
	case t.Kind == api.TDoctype:
		b.wrong()
	case t.Kind == api.TEnd && t.Name == "html":
		if b.context != api.None {
			b.wrong()
		} else {
			b.mode = api.MAfter2
		}
	case t.Kind == api.TEOF:
		b.stop()
	default:
		return b.backToBody()
	}
	return done
}

// backToBody takes what comes behind a body into it.
func (b *tree) backToBody() verdict {
	b.wrong()
	b.mode = api.MInBody
	return again
}

func (b *tree) inFrameset(t api.Token) verdict {
	switch {
	case isBlank(t):
		b.char(t.Char)
	case b.isUsual(t):
	case t.Kind == api.TStart && t.Name == "frameset":
		b.put(t)
	case t.Kind == api.TEnd && t.Name == "frameset":
		b.framesetEnds()
	case t.Kind == api.TStart && t.Name == "frame":
		b.void(t)
	case t.Kind == api.TStart && t.Name == "noframes":
		return b.inHead(t)
	case t.Kind == api.TEOF:
		if b.open.Len() != 1 {
			b.wrong()
		}
		b.stop()
	default:
		b.wrong()
	}
	return done
}

func (b *tree) framesetEnds() {
	if b.open.Len() == 1 {
		b.wrong()
		return
	}
	b.open.Pop()
	if b.context == api.None && !b.isTop("frameset") {
		b.mode = api.MAfterSet
	}
}

func (b *tree) afterFrameset(t api.Token) verdict {
	switch {
	case isBlank(t):
		b.char(t.Char)
	case b.isUsual(t):
	case t.Kind == api.TStart && t.Name == "noframes":
		return b.inHead(t)
	case t.Kind == api.TEnd && t.Name == "html":
		b.mode = api.MAfterSet2
	case t.Kind == api.TEOF:
		b.stop()
	default:
		b.wrong()
	}
	return done
}

// isAfterAll does what both modes behind html do alike: false, if it is another token.
func (b *tree) isAfterAll(t api.Token) bool {
	switch {
	case t.Kind == api.TComment:
		b.commentAt(atEndOf(document), t)
	case t.Kind == api.TDoctype, isBlank(t), isHTMLStart(t):
		b.inBody(t)
	case t.Kind == api.TEOF:
		b.stop()
	default:
		return false
	}
	return true
}

func (b *tree) afterAfterBody(t api.Token) verdict {
	if b.isAfterAll(t) {
		return done
	}
	return b.backToBody()
}

func (b *tree) afterAfterFrameset(t api.Token) verdict {
	switch {
	case b.isAfterAll(t):
	case t.Kind == api.TStart && t.Name == "noframes":
		return b.inHead(t)
	default:
		b.wrong()
	}
	return done
}
