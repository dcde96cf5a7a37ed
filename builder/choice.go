package builder

import (
	"hornbeam/api"
)

func (b *tree) inSelect(t api.Token) verdict {
	switch t.Kind {
	case api.TChar:
		if t.Char == 0 {
			b.wrong()
		} else {
			b.char(t.Char)
		}
		return done
	case api.TEOF:
		return b.inBody(t)
	case api.TStart:
		return b.selectStart(t)
	case api.TEnd:
		return b.selectEnd(t)
	}
	b.isUsual(t)
	return done
}

func (b *tree) selectStart(t api.Token) verdict {
	switch t.Name {
	case "html":
		return b.inBody(t)
	case "option":
		b.popTop("option")
		b.put(t)
	case "optgroup":
		b.leaveOptions()
		b.put(t)
	case "hr":
		b.leaveOptions()
		b.void(t)
	case "select", "input", "keygen", "textarea":
		b.wrong()
		if b.selectEnds() {
			return verdict(t.Name != "select")
		}
	case "script", "template":
		return b.inHead(t)
	default:
		b.wrong()
	}
	return done
}

// leaveOptions closes what can't have an optgroup in it.
func (b *tree) leaveOptions() {
	b.popTop("option")
	b.popTop("optgroup")
}

func (b *tree) selectEnd(t api.Token) verdict {
	switch t.Name {
	case "optgroup":
		if b.isTop("option") && b.is(b.open.At(b.open.Len()-2), "optgroup") {
			b.open.Pop()
		}
		fallthrough
	case "option":
		if !b.popTop(t.Name) {
			b.wrong()
		}
	case "select":
		if !b.selectEnds() {
			b.wrong()
		}
	case "template":
		return b.inHead(t)
	default:
		b.wrong()
	}
	return done
}

// selectEnds closes the select: false, if there is none.
func (b *tree) selectEnds() bool {
	if !b.open.Scope("select", selectScope) {
		return false
	}
	b.open.PopTo("select")
	b.reset()
	return true
}

func (b *tree) inSelectInTable(t api.Token) verdict {
	if t.Kind != api.TStart && t.Kind != api.TEnd || !leavesSelect(t.Name) {
		return b.inSelect(t)
	}
	b.wrong()
	if t.Kind == api.TEnd && !b.inTableScope(t.Name) {
		return done
	}
	b.open.PopTo("select")
	b.reset()
	return again
}

// leavesSelect tells of the parts of a table that close a select in it, and the table.
func leavesSelect(name string) bool {
	return name == "table" || isPart(name) && name != "col" && name != "colgroup"
}
