package builder

import (
	"hornbeam/api"
)

func (b *tree) bodyEnd(t api.Token) verdict {
	switch {
	case isFormat(t.Name):
		b.adopt(t.Name)
		return done
	case isHeading(t.Name):
		b.headingEnd(t)
		return done
	case isOld(t.Name) && t.Name != "p":
		b.blockEnd(t.Name)
		return done
	}
	switch t.Name {
	case "template":
		return b.inHead(t)
	case "body", "html":
		return b.bodyEnds(t)
	case "button", "listing", "pre", "dd", "dt":
		b.blockEnd(t.Name)
	case "form":
		b.formEnd()
	case "p":
		if !b.open.Scope("p", buttonScope) {
			b.wrong()
			b.putNamed("p")
		}
		b.close("p")
	case "li":
		if !b.open.Scope("li", listScope) {
			b.wrong()
			break
		}
		b.close("li")
	case "applet", "marquee", "object":
		if b.blockEnd(t.Name) {
			b.list.Clear()
		}
	case "br":
		b.wrong()
		return b.bodyStart(api.Token{Kind: api.TStart, Name: "br"})
	default:
		b.anotherEnd(t.Name)
	}
	return done
}

// bodyEnds tells that the body is at its end. It stays open, for what comes behind it all the same.
func (b *tree) bodyEnds(t api.Token) verdict {
	if !b.in("body") {
		b.wrong()
		return done
	}
	b.checkOpen()
	b.mode = api.MAfterBody
	return verdict(t.Name == "html")
}

// blockEnd closes a block: false, if there is none.
func (b *tree) blockEnd(name string) bool {
	if !b.in(name) {
		b.wrong()
		return false
	}
	b.close(name)
	return true
}

func (b *tree) headingEnd(t api.Token) {
	if !b.inAny("h1", "h2", "h3", "h4", "h5", "h6") {
		b.wrong()
		return
	}
	b.open.Implied("")
	if !b.isTop(t.Name) {
		b.wrong()
	}
	b.popThrough("h1", "h2", "h3", "h4", "h5", "h6")
}

// formEnd closes a form: in a template the nearest one, else the form element, though others are open in it.
func (b *tree) formEnd() {
	if b.templateThere() {
		b.blockEnd("form")
		return
	}
	form := b.form
	b.form = api.None
	if form == api.None || !b.open.NodeScope(form, scope) {
		b.wrong()
		return
	}
	b.open.Implied("")
	if b.open.Top() != form {
		b.wrong()
	}
	b.open.Remove(form)
}
