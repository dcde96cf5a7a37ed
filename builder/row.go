package builder

import (
	"hornbeam/api"
)

func (b *tree) clearToSection() {
	b.clearTo("tbody", "tfoot", "thead", "template", "html")
}

func (b *tree) inTbody(t api.Token) verdict {
	switch t.Kind {
	case api.TStart:
		return b.tbodyStart(t)
	case api.TEnd:
		return b.tbodyEnd(t)
	}
	return b.inTable(t)
}

func (b *tree) tbodyStart(t api.Token) verdict {
	switch t.Name {
	case "tr":
		b.clearToSection()
		b.put(t)
		b.mode = api.MInRow
		return done
	case "th", "td":
		b.wrong()
		b.clearToSection()
		b.putNamed("tr")
		b.mode = api.MInRow
		return again
	case "caption", "col", "colgroup", "tbody", "tfoot", "thead":
		return b.leaveSection()
	}
	return b.inTable(t)
}

func (b *tree) tbodyEnd(t api.Token) verdict {
	switch {
	case isSection(t.Name):
		if !b.inTableScope(t.Name) {
			b.wrong()
			return done
		}
		b.sectionEnds()
		return done
	case t.Name == "table":
		return b.leaveSection()
	case t.Name == "body", t.Name == "html", isPart(t.Name):
		b.wrong()
		return done
	}
	return b.inTable(t)
}

// leaveSection closes the rows' part for what is not in one.
func (b *tree) leaveSection() verdict {
	if !b.inTableScope("tbody", "tfoot", "thead") {
		b.wrong()
		return done
	}
	b.sectionEnds()
	return again
}

func (b *tree) sectionEnds() {
	b.clearToSection()
	b.open.Pop()
	b.mode = api.MInTable
}

func (b *tree) clearToRow() {
	b.clearTo("tr", "template", "html")
}

func (b *tree) inRow(t api.Token) verdict {
	switch t.Kind {
	case api.TStart:
		return b.rowStart(t)
	case api.TEnd:
		return b.rowEnd(t)
	}
	return b.inTable(t)
}

func (b *tree) rowStart(t api.Token) verdict {
	switch {
	case isCell(t.Name):
		b.clearToRow()
		b.put(t)
		b.mode = api.MInCell
		b.list.Mark()
		return done
	case isPart(t.Name):
		return b.leaveRow()
	}
	return b.inTable(t)
}

func (b *tree) rowEnd(t api.Token) verdict {
	switch {
	case t.Name == "tr":
		b.leaveRow()
		return done
	case t.Name == "table":
		return b.leaveRow()
	case isSection(t.Name):
		if !b.inTableScope(t.Name) {
			b.wrong()
			return done
		}
		if !b.inTableScope("tr") {
			return done
		}
		b.rowEnds()
		return again
	case t.Name == "body", t.Name == "html", isPart(t.Name):
		b.wrong()
		return done
	}
	return b.inTable(t)
}

// leaveRow closes the row for what is not in one.
func (b *tree) leaveRow() verdict {
	if !b.inTableScope("tr") {
		b.wrong()
		return done
	}
	b.rowEnds()
	return again
}

func (b *tree) rowEnds() {
	b.clearToRow()
	b.open.Pop()
	b.mode = api.MInTbody
}

func (b *tree) inCell(t api.Token) verdict {
	switch {
	case t.Kind == api.TStart && isPart(t.Name):
		if !b.inTableScope("td", "th") {
			b.wrong()
			return done
		}
		b.cellEnds()
		return again
	case t.Kind == api.TEnd:
		return b.cellEnd(t)
	}
	return b.inBody(t)
}

func (b *tree) cellEnd(t api.Token) verdict {
	switch t.Name {
	case "td", "th":
		if !b.inTableScope(t.Name) {
			b.wrong()
			return done
		}
		b.close(t.Name)
		b.list.Clear()
		b.mode = api.MInRow
		return done
	case "body", "caption", "col", "colgroup", "html":
		b.wrong()
		return done
	case "table", "tbody", "tfoot", "thead", "tr":
		if !b.inTableScope(t.Name) {
			b.wrong()
			return done
		}
		b.cellEnds()
		return again
	}
	return b.inBody(t)
}

// cellEnds closes the cell for what is not in one.
func (b *tree) cellEnds() {
	b.open.Implied("")
	if !b.isTop("td", "th") {
		b.wrong()
	}
	b.popThrough("td", "th")
	b.list.Clear()
	b.mode = api.MInRow
}
