package edit_test

import (
	"testing"

	"hornbeam/api"
	"hornbeam/edit"
)

// P2.1

// marks tells May's answers for each place among a document's children, the last place behind them all: . is OK, H is ErrHierarchy.
func marks(t *testing.T, m maker, id int, kids []int) string {
	t.Helper()
	s := ""
	for _, before := range append(kids, none) {
		switch e := edit.May(m.Arena, id, 0, before); e {
		case api.OK:
			s += "."
		case api.ErrHierarchy:
			s += "H"
		default:
			t.Errorf("May(%d, 0, %d): %d", id, before, e)
		}
	}
	return s
}

func TestMayBelowTheDocument(t *testing.T) {
	for _, row := range []struct{ page, guest, want string }{
		{"", "e", "."}, {"c", "e", ".."}, {"d", "e", "H."}, {"e", "e", "HH"}, {"de", "e", "HHH"},
		{"cdc", "e", "HH.."}, {"ccd", "e", "HHH."}, {"dcc", "e", "H..."}, {"cec", "e", "HHHH"}, {"cdcec", "e", "HHHHHH"},
		{"", "d", "."}, {"c", "d", ".."}, {"d", "d", "HH"}, {"e", "d", ".H"}, {"de", "d", "HHH"},
		{"cec", "d", "..HH"}, {"ecc", "d", ".HHH"}, {"cce", "d", "...H"}, {"cdc", "d", "HHHH"}, {"cdcec", "d", "HHHHHH"},
		{"", "c", "."}, {"d", "c", ".."}, {"e", "c", ".."}, {"cdcec", "c", "......"},
		{"", "t", "H"}, {"d", "t", "HH"}, {"e", "t", "HH"}, {"cdcec", "t", "HHHHHH"},
	} {
		m := newMaker(t)
		kids := m.put(0, row.page)
		id := m.one(rune(row.guest[0]))
		was := all(m.Arena)
		if got := marks(t, m, id, kids); got != row.want {
			t.Errorf("document %q, %s put in: %s; want %s", row.page, row.guest, got, row.want)
		}
		checkSame(t, m.Arena, was)
	}
}

func TestMayOfFragmentsBelowTheDocument(t *testing.T) {
	for _, row := range []struct{ page, inside, want string }{
		{"", "", "."}, {"de", "", "..."}, {"cdcec", "", "......"},
		{"", "c", "."}, {"de", "c", "..."}, {"cdcec", "cc", "......"},
		{"", "e", "."}, {"c", "e", ".."}, {"d", "e", "H."}, {"e", "e", "HH"}, {"de", "e", "HHH"},
		{"cdc", "e", "HH.."}, {"ccd", "cec", "HHH."}, {"dcc", "ec", "H..."}, {"cec", "ce", "HHHH"},
		{"", "ee", "H"}, {"", "ece", "H"}, {"d", "ee", "HH"}, {"c", "eee", "HH"},
		{"", "t", "H"}, {"", "ct", "H"}, {"", "tc", "H"}, {"", "te", "H"}, {"", "et", "H"}, {"d", "tt", "HH"},
	} {
		m := newMaker(t)
		kids := m.put(0, row.page)
		f := m.with('f', row.inside)
		was := all(m.Arena)
		if got := marks(t, m, f, kids); got != row.want {
			t.Errorf("document %q, a fragment of %q: %s; want %s", row.page, row.inside, got, row.want)
		}
		checkSame(t, m.Arena, was)
	}
}

func TestMayCountsChildrenAlone(t *testing.T) {
	m := newMaker(t)
	f := m.with('f', "c")
	p := m.with('e', "teet")
	m.Link(f, p, none)
	checkErr(t, "texts and elements below a fragment's one element", edit.May(m.Arena, f, 0, none), api.OK)
	m.Link(0, m.elem("template"), none)
	m.Unlink(m.Kids(0)[0])
	checkErr(t, "an element that is no child any more", edit.May(m.Arena, p, 0, none), api.OK)
}

func TestMayCountsTheNodeItself(t *testing.T) { // a node that is below the document already
	m := newMaker(t)
	kids := m.put(0, "cdcec")
	for i, want := range []string{"......", "HHHHHH", "......", "HHHHHH", "......"} {
		if got := marks(t, m, kids[i], kids); got != want {
			t.Errorf("child %d: %s; want %s", i, got, want)
		}
	}
}

func TestMayBelowOtherParents(t *testing.T) {
	m := newMaker(t)
	template := m.elem("template")
	for _, parent := range []int{m.one('e'), m.one('f'), template, template + 1, m.got(m.Element(api.SVG, "g", nil))} {
		kids := m.put(parent, "etce")
		for _, before := range append(kids, none) {
			for _, guest := range "etcf" {
				checkErr(t, "May", edit.May(m.Arena, m.one(guest), parent, before), api.OK)
			}
			checkErr(t, "a fragment of much", edit.May(m.Arena, m.with('f', "teetced"), parent, before), api.OK)
			checkErr(t, "a doctype", edit.May(m.Arena, m.one('d'), parent, before), api.ErrHierarchy)
			checkErr(t, "the document", edit.May(m.Arena, 0, parent, before), api.ErrHierarchy)
		}
	}
}

func TestMayBelowWhatIsNoParent(t *testing.T) {
	m := newMaker(t)
	page := m.put(0, "cde")
	for _, parent := range []int{m.one('t'), m.one('c'), m.one('d'), page[0], page[1]} {
		for _, guest := range "etcdf" {
			id := m.one(guest)
			checkErr(t, "May", edit.May(m.Arena, id, parent, none), api.ErrHierarchy)
			checkErr(t, "ahead of what is no child of it", edit.May(m.Arena, id, parent, page[2]), api.ErrHierarchy)
		}
		checkErr(t, "below itself", edit.May(m.Arena, parent, parent, none), api.ErrHierarchy)
		checkErr(t, "the document", edit.May(m.Arena, 0, parent, none), api.ErrHierarchy)
	}
}

func TestMayBelowItself(t *testing.T) {
	m := newMaker(t)
	top := m.put(0, "e")[0]
	mid := m.put(top, "e")[0]
	low := m.put(mid, "e")[0]
	f := m.one('f')
	in := m.put(f, "e")[0]
	for _, row := range [][2]int{{0, 0}, {0, top}, {0, low}, {top, top}, {top, mid}, {top, low}, {mid, low}, {f, f}, {f, in}, {in, in}} {
		checkErr(t, "None", edit.May(m.Arena, row[0], row[1], none), api.ErrHierarchy)
		checkErr(t, "ahead of what is elsewhere", edit.May(m.Arena, row[0], row[1], f), api.ErrHierarchy)
	}
	for _, row := range [][2]int{{low, mid}, {low, top}, {mid, top}, {in, f}, {in, low}, {f, low}, {top, f}} {
		checkErr(t, "None", edit.May(m.Arena, row[0], row[1], none), api.OK)
	}
}

func TestMayOfTemplates(t *testing.T) {
	m := newMaker(t)
	outer, inner := m.elem("template"), m.elem("template")
	m.put(0, "e")
	m.Link(m.Kids(0)[0], outer, none)
	m.Link(outer+1, inner, none)
	low := m.put(inner+1, "e")[0]
	for _, row := range [][2]int{{outer, outer + 1}, {outer, inner}, {outer, inner + 1}, {outer, low}, {outer + 1, outer + 1}, {outer + 1, low}, {inner, inner + 1}, {0, low}} {
		checkErr(t, "below itself", edit.May(m.Arena, row[0], row[1], none), api.ErrHierarchy)
	}
	for _, row := range [][2]int{{outer + 1, outer}, {inner + 1, inner}, {inner + 1, outer + 1}, {inner, outer}, {low, outer + 1}, {inner + 1, outer}} {
		checkErr(t, "elsewhere", edit.May(m.Arena, row[0], row[1], none), api.OK)
	}
	checkErr(t, "contents are no child", edit.May(m.Arena, low, outer, outer+1), api.ErrNotFound)
	checkErr(t, "contents below the document, which has an element", edit.May(m.Arena, inner+1, 0, none), api.ErrHierarchy)
}

func TestMayOfTemplateContentsBelowTheDocument(t *testing.T) {
	for _, row := range []struct {
		inside string
		want   api.Errno
	}{{"", api.OK}, {"c", api.OK}, {"e", api.OK}, {"ee", api.ErrHierarchy}, {"t", api.ErrHierarchy}} {
		m := newMaker(t)
		template := m.elem("template")
		m.put(template+1, row.inside)
		checkErr(t, row.inside, edit.May(m.Arena, template+1, 0, none), row.want)
	}
}

func TestMayAheadOfWhatIsNoChild(t *testing.T) {
	m := newMaker(t)
	page := m.put(0, "cde")
	parent := page[2]
	kids := m.put(parent, "et")
	below := m.put(kids[0], "t")[0]
	for _, before := range []int{0, page[0], page[2], below, m.one('c'), m.one('f'), m.one('e')} {
		for _, guest := range "etcf" {
			checkErr(t, "May", edit.May(m.Arena, m.one(guest), parent, before), api.ErrNotFound)
		}
		checkErr(t, "a doctype, which may not be there either", edit.May(m.Arena, m.one('d'), parent, before), api.ErrNotFound)
		checkErr(t, "a node ahead of itself elsewhere", edit.May(m.Arena, below, parent, below), api.ErrNotFound)
	}
	loose := m.one('e')
	checkErr(t, "the document, which may be nowhere", edit.May(m.Arena, 0, loose, page[0]), api.ErrNotFound)
	checkErr(t, "the document ahead of itself", edit.May(m.Arena, 0, loose, 0), api.ErrNotFound)
	for _, guest := range "etdf" {
		checkErr(t, "below the document", edit.May(m.Arena, m.one(guest), 0, kids[1]), api.ErrNotFound)
		checkErr(t, "ahead of the document", edit.May(m.Arena, m.one(guest), 0, 0), api.ErrNotFound)
	}
}

func TestMayAheadOfItself(t *testing.T) {
	m := newMaker(t)
	parent := m.one('e')
	for _, id := range m.put(parent, "etc") {
		checkErr(t, "May", edit.May(m.Arena, id, parent, id), api.OK)
	}
	loose := m.one('e')
	checkErr(t, "without a parent", edit.May(m.Arena, loose, parent, loose), api.ErrNotFound)
}

func TestMayOfNumbersThatAreNoNodes(t *testing.T) {
	m := newMaker(t)
	text, top := m.one('t'), m.put(0, "e")[0]
	was := all(m.Arena)
	for _, x := range append(outside, m.Len()) {
		checkErr(t, "id", edit.May(m.Arena, x, top, none), api.ErrNone)
		checkErr(t, "parent", edit.May(m.Arena, text, x, none), api.ErrNone)
		checkErr(t, "before", edit.May(m.Arena, text, top, x), api.ErrNone)
		checkErr(t, "id, below what is no parent", edit.May(m.Arena, x, text, none), api.ErrNone)
		checkErr(t, "parent, of the document", edit.May(m.Arena, 0, x, none), api.ErrNone)
		checkErr(t, "before, below itself", edit.May(m.Arena, top, top, x), api.ErrNone)
		checkErr(t, "before, a text below the document", edit.May(m.Arena, text, 0, x), api.ErrNone)
		checkErr(t, "all", edit.May(m.Arena, x, x, x), api.ErrNone)
	}
	checkErr(t, "id is None", edit.May(m.Arena, none, top, none), api.ErrNone)
	checkErr(t, "parent is None", edit.May(m.Arena, text, none, none), api.ErrNone)
	checkSame(t, m.Arena, was)
}
