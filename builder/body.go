package builder

import (
	"hornbeam/api"
)

func (b *tree) inBody(t api.Token) verdict {
	switch t.Kind {
	case api.TChar:
		b.bodyChar(t)
	case api.TComment:
		b.comment(t)
	case api.TDoctype:
		b.wrong()
	case api.TStart:
		return b.bodyStart(t)
	case api.TEnd:
		return b.bodyEnd(t)
	case api.TEOF:
		return b.bodyEOF(t)
	}
	return done
}

func (b *tree) bodyChar(t api.Token) {
	if t.Char == 0 {
		b.wrong()
		return
	}
	b.rebuild()
	b.char(t.Char)
	b.seen(t)
}

// seen tells that there is something to be seen, unless a character is blank: a frameset can't take its place then.
func (b *tree) seen(t api.Token) {
	if !isBlank(t) {
		b.framesOff = true
	}
}

func (b *tree) bodyEOF(t api.Token) verdict {
	if len(b.templates) > 0 {
		return b.inTemplate(t)
	}
	b.checkOpen()
	b.stop()
	return done
}

// checkOpen tells an error, if an element is open whose end tag may not be left out.
func (b *tree) checkOpen() {
	for i := range b.open.Len() {
		if x, _ := b.arena.Node(b.open.At(i)); x.Space != api.HTML || !mayStayOpen(x.Name) {
			b.wrong()
			return
		}
	}
}

// bodyStart has the start tags of blocks and of formatting elements.
func (b *tree) bodyStart(t api.Token) verdict {
	switch {
	case isMeta(t.Name):
		return b.inHead(t)
	case isOld(t.Name):
		b.shutP()
		b.put(t)
		return done
	case isHeading(t.Name):
		b.heading(t)
		return done
	case isFormat(t.Name):
		b.openFormat(t)
		return done
	}
	switch t.Name {
	case "html":
		b.secondHTML(t)
	case "body":
		b.secondBody(t)
	case "frameset":
		b.lateFrameset(t)
	case "pre", "listing":
		b.shutP()
		b.put(t)
		b.framesOff = true
		b.skip = true
	case "form":
		b.openForm(t)
	case "li":
		b.item(t, "li")
	case "dd", "dt":
		b.item(t, "dd", "dt")
	case "plaintext":
		b.shutP()
		b.put(t)
		b.want = api.LexPlaintext
	case "button":
		b.button(t)
	default:
		return b.inlineStart(t)
	}
	return done
}

func (b *tree) heading(t api.Token) {
	b.shutP()
	if x, _ := b.arena.Node(b.open.Top()); x.Space == api.HTML && isHeading(x.Name) {
		b.wrong()
		b.open.Pop()
	}
	b.put(t)
}

func (b *tree) secondHTML(t api.Token) {
	b.wrong()
	if !b.templateThere() {
		b.merge(b.open.At(0), t.Attrs)
	}
}

func (b *tree) secondBody(t api.Token) {
	b.wrong()
	if body := b.open.At(1); b.is(body, "body") && !b.templateThere() {
		b.framesOff = true
		b.merge(body, t.Attrs)
	}
}

// lateFrameset puts a frameset in the place of a body in which there is nothing to be seen.
func (b *tree) lateFrameset(t api.Token) {
	b.wrong()
	body := b.open.At(1)
	if !b.is(body, "body") || b.framesOff {
		return
	}
	// A script may have taken it away already.
	b.arena.Unlink(body)
	b.cutTo(1)
	b.put(t)
	b.mode = api.MInFrameset
}

func (b *tree) openForm(t api.Token) {
	templated := b.templateThere()
	if b.form != api.None && !templated {
		b.wrong()
		return
	}
	b.shutP()
	id := b.put(t)
	if !templated {
		b.form = id
	}
}

// item opens an item of a list, behind the item that is open there.
func (b *tree) item(t api.Token, names ...string) {
	b.framesOff = true
	for i := b.open.Len() - 1; i >= 0; i-- {
		id := b.open.At(i)
		if b.is(id, names...) {
			x, _ := b.arena.Node(id)
			b.close(x.Name)
			break
		}
		if b.open.Special(id) && !b.is(id, "address", "div", "p") {
			break
		}
	}
	b.shutP()
	b.put(t)
}

func (b *tree) button(t api.Token) {
	if b.in("button") {
		b.wrong()
		b.open.Implied("")
		b.open.PopTo("button")
	}
	b.rebuild()
	b.put(t)
	b.framesOff = true
}
