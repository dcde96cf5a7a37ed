package place_test

import (
	"testing"

	"hornbeam/api"
	"hornbeam/place"
)

// P14.1: the chapter's example.
func TestExample(t *testing.T) {
	b := newBench(t)
	ids := b.open("html", "body", "table")
	b.spot(ids[2], true, ids[1], ids[2])
	b.spot(ids[1], true, ids[1], none)
}

// P14.1: without foster every node is its own place, whatever is open.
func TestWithoutFoster(t *testing.T) {
	for _, open := range [][]string{nil, {"html"}, {"html", "body", "table"}, {"html", "template"}, {"html", "table", "template"}} {
		b := newBench(t)
		b.open(open...)
		b.spot(0, false, 0, none)
		for _, id := range b.one() {
			b.spot(id, false, id, none)
		}
		for _, name := range tableParts {
			id := b.elem(name)
			b.spot(id, false, id, none)
			id = b.child(0, name)
			b.spot(id, false, id, none)
		}
	}
}

// P14.1: foster leads out of parts of tables of HTML alone.
func TestFosterOfOthers(t *testing.T) {
	b := newBench(t)
	b.open("html", "body", "table", "tbody", "tr", "td")
	b.spot(0, true, 0, none)
	others := b.one()
	for _, name := range []string{"td", "th", "caption", "col", "colgroup", "body", "html", "select", "p", "tabl", "tables", "TABLE", "Tr", "tbody ", ""} {
		others = append(others, b.got(b.a.Element(html, name, nil)))
	}
	for _, name := range tableParts {
		others = append(others, b.elem("svg "+name), b.elem("math "+name))
		others = append(others, b.got(b.a.Doctype(name, "", "")), b.text(name), b.got(b.a.Comment(name)))
	}
	for _, id := range others {
		b.spot(id, true, id, none)
	}
}

// P14.1: a target in the stack is a target as any other one.
func TestFosterOfWhatIsOpen(t *testing.T) {
	b := newBench(t)
	ids := b.open("html", "body", "table", "tbody", "tr", "td")
	for _, id := range ids[2:5] {
		b.spot(id, true, ids[1], ids[2])
	}
	b.spot(ids[5], true, ids[5], none)
}

// P14.1: a table that has a parent: that one, ahead of the table.
func TestFosterAheadOfTheTable(t *testing.T) {
	b := newBench(t)
	ids := b.open("html", "body", "table")
	b.fosters(ids[1], ids[2])
	b.open("tbody", "tr", "td", "p")
	b.fosters(ids[1], ids[2])
	b.child(ids[1], "p")
	b.fosters(ids[1], ids[2])
}

// P14.1: the table's parent counts, not what is below the table in the stack.
func TestFosterByTheParent(t *testing.T) {
	b := newBench(t)
	ids := b.open("html", "body", "table")
	fragment := b.got(b.a.Fragment())
	for _, parent := range []int{b.elem("div"), ids[0], 0, fragment, b.elem("svg g"), b.elem("svg template"), b.elem("math template")} {
		gives(t, "Unlink", b.a.Unlink(ids[2]), ok)
		b.link(parent, ids[2])
		b.fosters(parent, ids[2])
	}
}

// P14.1: a table that is the first of the stack, with a parent and without one.
func TestFosterOfTheFirstTable(t *testing.T) {
	b := newBench(t)
	table := b.elem("table")
	b.push(table)
	b.stays()
	b.spot(table, true, table, none)
	b.open("tbody", "tr")
	b.stays()
	b.link(0, table)
	b.fosters(0, table)
	b.spot(table, true, 0, table)
}

// P14.1: a table without a parent that is not the first: what is below it in the stack.
func TestFosterOfATableWithoutParent(t *testing.T) {
	for _, below := range []string{"p", "html", "tr", "svg g", "svg template", "math template", "svg table"} {
		b := newBench(t)
		b.open("html", "body")
		id, table := b.elem(below), b.elem("table")
		b.push(id, table)
		b.fosters(id, none)
		b.open("tr", "td", "b")
		b.fosters(id, none)
		b.spot(table, true, id, none)
	}
}

// P14.1: neither a table nor a template: the stack's first element; of an empty stack the target.
func TestFosterWithoutTable(t *testing.T) {
	b := newBench(t)
	b.stays()
	first := b.open("html")[0]
	b.fosters(first, none)
	b.open("body", "tbody", "tr", "p")
	b.fosters(first, none)
	for b.s.Pop() != none {
	}
	b.stays()
	tr := b.elem("tr")
	b.push(tr)
	b.spot(tr, true, tr, none)
	b.fosters(tr, none)
}

// P14.1: a template above the table in the stack, next to it and further off: its contents.
func TestFosterInATemplate(t *testing.T) {
	b := newBench(t)
	ids := b.open("html", "body", "table", "template")
	b.fosters(ids[3]+1, none)
	b.open("tbody", "tr")
	b.fosters(ids[3]+1, none)
	more := b.open("td", "template", "tr")
	b.fosters(more[1]+1, none)
}

// P14.1: a template below the table in the stack does not count.
func TestFosterOfATableInATemplate(t *testing.T) {
	b := newBench(t)
	ids := b.open("html", "body", "template", "table")
	b.fosters(ids[2]+1, ids[3])
	b.open("tr", "td")
	b.fosters(ids[2]+1, ids[3])
	b = newBench(t)
	ids = b.open("html", "template", "body", "table")
	b.fosters(ids[2], ids[3])
}

// P14.1: a template and no table: its contents, wherever it stands.
func TestFosterWithATemplateAlone(t *testing.T) {
	for _, open := range [][]string{{"template"}, {"template", "tr"}, {"html", "template"}, {"html", "template", "tr", "td"}} {
		b := newBench(t)
		ids := b.open(open...)
		for i, name := range open {
			if name == "template" {
				b.fosters(ids[i]+1, none)
			}
		}
	}
}

// P14.1: of several tables and templates the last of each.
func TestFosterOfSeveral(t *testing.T) {
	b := newBench(t)
	ids := b.open("html", "table", "td", "table")
	b.fosters(ids[2], ids[3])
	ids = b.open("template")
	b.fosters(ids[0]+1, none)
	ids = b.open("td", "table", "tr")
	b.fosters(ids[0], ids[1])
	ids = b.open("template", "template")
	b.fosters(ids[1]+1, none)
	b.s.Pop()
	b.fosters(ids[0]+1, none)
	ids = b.open("p", "table", "table")
	b.fosters(ids[1], ids[2])
	b.s.Pop()
	b.fosters(ids[0], ids[1])
}

// P14.1: elements of other namespaces count neither as tables nor as templates.
func TestFosterWithOtherNamespaces(t *testing.T) {
	b := newBench(t)
	first := b.open("svg table", "math table", "svg template", "math template")[0]
	b.fosters(first, none)
	ids := b.open("body", "table", "svg template", "math template", "svg table", "math table")
	b.fosters(ids[0], ids[1])
	ids = b.open("template", "svg table", "math table", "svg template")
	b.fosters(ids[0]+1, none)
}

// P14.1: nodes with the names of tables and templates that are no elements can't be open, and what is not open does
// not count.
func TestFosterByTheStackAlone(t *testing.T) {
	b := newBench(t)
	first := b.open("html")[0]
	template := b.child(first, "template")
	b.child(template+1, "table")
	b.child(first, "table")
	b.fosters(first, none)
}

// P14.1: a place in a template of HTML is in its contents.
func TestSpotInATemplate(t *testing.T) {
	b := newBench(t)
	template := b.elem("template")
	for _, foster := range []bool{false, true} {
		b.spot(template, foster, template+1, none)
		b.spot(template+1, foster, template+1, none)
		for _, name := range []string{"svg template", "math template"} {
			id := b.elem(name)
			b.spot(id, foster, id, none)
		}
	}
	b.child(template+1, "p")
	b.child(template, "p")
	b.spot(template, false, template+1, none)
}

// P14.1: so is one that foster leads to, the end and the one ahead of a table alike.
func TestFosterIntoATemplate(t *testing.T) {
	b := newBench(t)
	template, table := b.elem("template"), b.elem("table")
	b.push(template, table)
	b.fosters(template+1, none)
	b.link(template, table)
	b.fosters(template+1, none)
	gives(t, "Unlink", b.a.Unlink(table), ok)
	b.link(template+1, table)
	b.fosters(template+1, table)
}

// P14.1: a doctype named template has no contents.
func TestSpotInADoctype(t *testing.T) {
	b := newBench(t)
	id := b.got(b.a.Doctype("template", "", ""))
	b.spot(id, true, id, none)
	b.spot(id, false, id, none)
}

// P14.1: numbers that are no node.
func TestSpotOfNoNode(t *testing.T) {
	b := newBench(t)
	for range 2 {
		for _, id := range b.strangers() {
			for _, foster := range []bool{false, true} {
				if at, e := place.Spot(b.a, b.s, id, foster); at != (api.Spot{}) || e != errNone {
					t.Errorf("Spot(%d): %v, %d", id, at, e)
				}
			}
		}
		b.open("html", "body", "table")
	}
}

// P1: a stack of another arena, whose numbers may be any node here, or none.
func TestSpotWithAStrangeStack(t *testing.T) {
	b, other := newBench(t), newBench(t)
	tr := b.elem("tr")
	b.one()
	b.elem("template")
	other.open("html", "table", "p", "p", "p", "p", "p", "p", "p", "p", "p")
	for other.s.Len() > 0 {
		if _, e := place.Spot(b.a, other.s, tr, true); e != ok {
			t.Errorf("Spot: %d", e)
		}
		other.s.Pop()
	}
}
