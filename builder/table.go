package builder

import (
	"slices"

	"hornbeam/api"
)

func (b *tree) inTable(t api.Token) verdict {
	switch t.Kind {
	case api.TChar:
		if b.isTop("table", "tbody", "template", "tfoot", "thead", "tr") {
			b.original = b.mode
			b.mode = api.MTableText
			return again
		}
	case api.TComment:
		b.comment(t)
		return done
	case api.TDoctype:
		b.wrong()
		return done
	case api.TEOF:
		return b.inBody(t)
	case api.TStart:
		return b.tableStart(t)
	case api.TEnd:
		return b.tableEnd(t)
	}
	return b.strayInTable(t)
}

// strayInTable does what a table has no rule for: it is put ahead of the table.
func (b *tree) strayInTable(t api.Token) verdict {
	b.wrong()
	return b.fostered(t)
}

func (b *tree) fostered(t api.Token) verdict {
	b.foster = true
	v := b.inBody(t)
	b.foster = false
	return v
}

func (b *tree) clearToTable() {
	b.clearTo("table", "template", "html")
}

func (b *tree) tableStart(t api.Token) verdict {
	switch t.Name {
	case "caption":
		b.clearToTable()
		b.list.Mark()
		b.put(t)
		b.mode = api.MInCaption
	case "colgroup":
		b.clearToTable()
		b.put(t)
		b.mode = api.MInColgroup
	case "col":
		b.clearToTable()
		b.putNamed("colgroup")
		b.mode = api.MInColgroup
		return again
	case "tbody", "tfoot", "thead":
		b.clearToTable()
		b.put(t)
		b.mode = api.MInTbody
	case "td", "th", "tr":
		b.clearToTable()
		b.putNamed("tbody")
		b.mode = api.MInTbody
		return again
	case "table":
		return b.tableInTable()
	case "style", "script", "template":
		return b.inHead(t)
	case "input":
		if !isHidden(t) {
			return b.strayInTable(t)
		}
		b.wrong()
		b.void(t)
	case "form":
		b.formInTable(t)
	default:
		return b.strayInTable(t)
	}
	return done
}

// tableInTable closes the table in which another one can't be.
func (b *tree) tableInTable() verdict {
	b.wrong()
	if !b.inTableScope("table") {
		return done
	}
	b.open.PopTo("table")
	b.reset()
	return again
}

// formInTable puts a form that has nothing in it, but is the form of what comes.
func (b *tree) formInTable(t api.Token) {
	b.wrong()
	if b.templateThere() || b.form != api.None {
		return
	}
	b.form = b.put(t)
	b.open.Pop()
}

func (b *tree) tableEnd(t api.Token) verdict {
	switch {
	case t.Name == "table":
		if !b.inTableScope("table") {
			b.wrong()
			break
		}
		b.open.PopTo("table")
		b.reset()
	case t.Name == "body", t.Name == "html", isPart(t.Name):
		b.wrong()
	case t.Name == "template":
		return b.inHead(t)
	default:
		return b.strayInTable(t)
	}
	return done
}

func (b *tree) inTableText(t api.Token) verdict {
	if t.Kind == api.TChar {
		if t.Char == 0 {
			b.wrong()
		} else {
			b.pending = append(b.pending, t.Char)
		}
		return done
	}
	b.tellPending()
	b.mode = b.original
	return again
}

// tellPending puts a table's text: into the table, if it is blank. Nothing is pending behind it.
func (b *tree) tellPending() {
	l := b.pending
	b.pending = nil
	if !slices.ContainsFunc(l, isNoBlank) {
		for _, c := range l {
			b.char(c)
		}
	} else {
		b.wrong()
		for _, c := range l {
			b.fostered(api.Token{Kind: api.TChar, Char: c})
		}
	}
	// These were taken when they came. What a text has no room for now is left out, and is no fault of the token that
	// came behind them.
	b.refused = api.OK
}

func isNoBlank(c rune) bool {
	return !isBlankChar(c)
}

func (b *tree) inCaption(t api.Token) verdict {
	start, end := t.Kind == api.TStart, t.Kind == api.TEnd
	switch {
	case end && (t.Name == "caption" || t.Name == "table"), start && isPart(t.Name):
		if !b.inTableScope("caption") {
			b.wrong()
			return done
		}
		b.close("caption")
		b.list.Clear()
		b.mode = api.MInTable
		return verdict(start || t.Name != "caption")
	case end && (t.Name == "body" || t.Name == "html" || isPart(t.Name)):
		b.wrong()
		return done
	}
	return b.inBody(t)
}

func (b *tree) inColgroup(t api.Token) verdict {
	start, end := t.Kind == api.TStart, t.Kind == api.TEnd
	switch {
	case isBlank(t):
		b.char(t.Char)
		return done
	case b.isUsual(t):
		return done
	case t.Kind == api.TEOF:
		return b.inBody(t)
	case start && t.Name == "col":
		b.void(t)
		return done
	case (start || end) && t.Name == "template":
		return b.inHead(t)
	case end && t.Name == "col", !b.isTop("colgroup"):
		b.wrong()
		return done
	}
	b.open.Pop()
	b.mode = api.MInTable
	return verdict(!end || t.Name != "colgroup")
}
