package builder

import (
	"hornbeam/api"
)

// inlineStart has the start tags of what stands in lines, of tables and of texts that are raw.
func (b *tree) inlineStart(t api.Token) verdict {
	switch t.Name {
	case "applet", "marquee", "object":
		b.rebuild()
		b.put(t)
		b.list.Mark()
		b.framesOff = true
	case "table":
		if b.quirk != api.Quirks {
			b.shutP()
		}
		b.put(t)
		b.framesOff = true
		b.mode = api.MInTable
	case "textarea":
		b.raw(t, api.LexRCDATA)
		b.skip = true
		b.framesOff = true
	case "xmp":
		b.shutP()
		b.rebuild()
		fallthrough
	case "iframe":
		b.framesOff = true
		fallthrough
	case "noembed":
		b.raw(t, api.LexRAWTEXT)
	default:
		return b.voidStart(t)
	}
	return done
}

// openFormat opens a formatting element. Of links and of nobr none is in another one.
func (b *tree) openFormat(t api.Token) {
	switch t.Name {
	case "a":
		b.closeLink()
	case "nobr":
		b.rebuild()
		if b.in("nobr") {
			b.wrong()
			b.adopt("nobr")
		}
	}
	b.rebuild()
	b.list.Push(b.put(t), t)
}

func (b *tree) closeLink() {
	id := b.list.Last("a")
	if id == api.None {
		return
	}
	b.wrong()
	b.adopt("a")
	b.list.Remove(id)
	b.open.Remove(id)
}

// voidStart has the start tags of what has nothing in it.
func (b *tree) voidStart(t api.Token) verdict {
	switch t.Name {
	case "image":
		b.wrong()
		t.Name = "img"
		fallthrough
	case "area", "br", "embed", "img", "keygen", "wbr":
		b.rebuild()
		b.void(t)
		b.framesOff = true
	case "input":
		b.rebuild()
		b.void(t)
		if !isHidden(t) {
			b.framesOff = true
		}
	case "hr":
		b.shutP()
		b.framesOff = true
		fallthrough
	case "param", "source", "track":
		b.void(t)
	default:
		return b.otherStart(t)
	}
	return done
}

// otherStart has the start tags that are left.
func (b *tree) otherStart(t api.Token) verdict {
	switch t.Name {
	case "noscript":
		if b.scripts {
			b.raw(t, api.LexRAWTEXT)
			return done
		}
	case "select":
		b.openSelect(t)
		return done
	case "option", "optgroup":
		b.popTop("option")
	case "rb", "rtc":
		b.ruby(t, "", "ruby")
		return done
	case "rp", "rt":
		b.ruby(t, "rtc", "ruby", "rtc")
		return done
	case "math", "svg":
		b.openForeign(t)
		return done
	case "caption", "col", "colgroup", "frame", "head", "tbody", "td", "tfoot", "th", "thead", "tr":
		b.wrong()
		return done
	}
	b.rebuild()
	b.put(t)
	return done
}

func (b *tree) openSelect(t api.Token) {
	b.rebuild()
	b.put(t)
	b.framesOff = true
	switch b.mode {
	case api.MInTable, api.MInCaption, api.MInTbody, api.MInRow, api.MInCell:
		b.mode = api.MSelTable
	default:
		b.mode = api.MInSelect
	}
}

// ruby opens a part of a ruby. Other parts are closed, but for one of a name; it should be in one of the holders then.
func (b *tree) ruby(t api.Token, but string, holders ...string) {
	if b.in("ruby") {
		b.open.Implied(but)
		if !b.isTop(holders...) {
			b.wrong()
		}
	}
	b.put(t)
}

func (b *tree) openForeign(t api.Token) {
	b.rebuild()
	space := api.MathML
	if t.Name == "svg" {
		space = api.SVG
	}
	b.putForeign(t, space)
}
