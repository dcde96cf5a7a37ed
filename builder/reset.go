package builder

import (
	"hornbeam/api"
)

// beginFragment sets a builder up for what would be in an element.
func (b *tree) beginFragment(name string) {
	b.context, _ = b.arena.Element(api.HTML, name, nil)
	b.putRoot(nil)
	switch name {
	case "template":
		b.templates = append(b.templates, api.MInTemplate)
	case "form":
		b.form = b.context
	}
	b.reset()
	b.want = firstState(name, b.scripts)
}

// firstState is the lexer's state for what would be in an element.
func firstState(name string, scripts bool) int {
	switch name {
	case "title", "textarea":
		return api.LexRCDATA
	case "noscript":
		if !scripts {
			return nothing
		}
		fallthrough
	case "style", "xmp", "iframe", "noembed", "noframes":
		return api.LexRAWTEXT
	case "script":
		return api.LexScript
	case "plaintext":
		return api.LexPlaintext
	}
	return nothing
}

// reset finds the mode by the stack.
func (b *tree) reset() {
	for i := b.open.Len() - 1; i >= 0; i-- {
		if mode, told := b.modeAt(i); told {
			b.mode = mode
			return
		}
	}
	b.mode = api.MInBody
}

// modeAt is the mode that the element at a place of the stack tells, if it tells one.
func (b *tree) modeAt(i int) (int, bool) {
	last, id := i == 0, b.open.At(i)
	if last && b.context != api.None {
		id = b.context
	}
	x, _ := b.arena.Node(id)
	if x.Space != api.HTML {
		return 0, false
	}
	switch x.Name {
	case "select":
		return b.selectMode(i), true
	case "td", "th":
		return api.MInCell, !last
	case "template":
		n := len(b.templates)
		if n == 0 {
			return 0, false
		}
		return b.templates[n-1], true
	case "head":
		return api.MInHead, !last
	case "html":
		if b.head == api.None {
			return api.MBeforeHead, true
		}
		return api.MAfterHead, true
	}
	return plainMode(x.Name)
}

// plainMode is the mode that an element tells by its name alone.
func plainMode(name string) (int, bool) {
	switch name {
	case "tr":
		return api.MInRow, true
	case "tbody", "thead", "tfoot":
		return api.MInTbody, true
	case "caption":
		return api.MInCaption, true
	case "colgroup":
		return api.MInColgroup, true
	case "table":
		return api.MInTable, true
	case "body":
		return api.MInBody, true
	case "frameset":
		return api.MInFrameset, true
	}
	return 0, false
}

// selectMode is the mode of a select at a place of the stack: whether it is in a table.
func (b *tree) selectMode(i int) int {
	for i--; i >= 0; i-- {
		switch id := b.open.At(i); {
		case b.is(id, "template"):
			return api.MInSelect
		case b.is(id, "table"):
			return api.MSelTable
		}
	}
	return api.MInSelect
}
