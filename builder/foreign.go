package builder

import (
	"hornbeam/adjust"
	"hornbeam/api"
)

// inForeign has the rules of foreign content.
func (b *tree) inForeign(t api.Token) verdict {
	switch t.Kind {
	case api.TChar:
		b.foreignChar(t)
		return done
	case api.TComment:
		b.comment(t)
		return done
	case api.TDoctype:
		b.wrong()
		return done
	}
	if adjust.Breaks(t) {
		return b.breakOut(t)
	}
	if t.Kind == api.TEnd {
		return b.foreignEnd(t)
	}
	x, _ := b.adjusted()
	b.putForeign(t, x.Space)
	return done
}

func (b *tree) foreignChar(t api.Token) {
	if t.Char == 0 {
		b.wrong()
		b.char('\uFFFD')
		return
	}
	b.char(t.Char)
	b.seen(t)
}

// breakOut leaves foreign content for a tag that can't be in it.
func (b *tree) breakOut(t api.Token) verdict {
	b.wrong()
	for b.open.Len() > 0 && !b.mayHoldHTML(b.open.Top()) {
		b.open.Pop()
	}
	return b.byMode(t)
}

// mayHoldHTML tells whether elements of HTML may be in an element.
func (b *tree) mayHoldHTML(id int) bool {
	x, _ := b.arena.Node(id)
	return x.Space == api.HTML || adjust.TextPoint(x.Space, x.Name) || adjust.HTMLPoint(x.Space, x.Name, x.Attrs)
}

// putForeign opens an element of a foreign namespace.
func (b *tree) putForeign(t api.Token, space int) {
	name, attrs := t.Name, t.Attrs
	switch space {
	case api.MathML:
		attrs = adjust.MathML(attrs)
	case api.SVG:
		name, attrs = adjust.Element(name), adjust.SVG(attrs)
	}
	b.putAt(b.spot(), space, name, adjust.Foreign(attrs))
	if t.Self {
		b.open.Pop()
		b.taken = true
	}
}

// foreignEnd closes a foreign element, or goes by the mode's rules where one of HTML is nearer.
func (b *tree) foreignEnd(t api.Token) verdict {
	if x, _ := b.arena.Node(b.open.Top()); small(x.Name) != t.Name {
		b.wrong()
	}
	for i := b.open.Len() - 1; i > 0; i-- {
		switch x, _ := b.arena.Node(b.open.At(i)); {
		case x.Space == api.HTML:
			return b.byMode(t)
		case small(x.Name) == t.Name:
			b.cutTo(i)
			return done
		}
	}
	return done
}
