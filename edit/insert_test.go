package edit_test

import (
	"testing"

	"hornbeam/api"
	"hornbeam/edit"
)

// P2.2

func TestInsertPutsANodeThere(t *testing.T) {
	for at := range 4 {
		m := newMaker(t)
		parent := m.one('e')
		kids := m.put(parent, "etc")
		want := append(append(append([]int{}, kids[:at]...), m.Len()), kids[at:]...)
		id := m.with('e', "tt")
		checkErr(t, "Insert", edit.Insert(m.Arena, id, parent, append(kids, none)[at]), api.OK)
		checkKids(t, m.Arena, parent, want...)
		checkKids(t, m.Arena, id, id+1, id+2)
		checkSound(t, m.Arena)
	}
}

func TestInsertTakesANodeFromItsParent(t *testing.T) {
	m := newMaker(t)
	from, to := m.one('e'), m.one('f')
	kids, others := m.put(from, "etc"), m.put(to, "et")
	checkErr(t, "ahead of one", edit.Insert(m.Arena, kids[1], to, others[0]), api.OK)
	checkErr(t, "at the end", edit.Insert(m.Arena, kids[0], to, none), api.OK)
	checkKids(t, m.Arena, from, kids[2])
	checkKids(t, m.Arena, to, kids[1], others[0], others[1], kids[0])
	checkSound(t, m.Arena)
}

func TestInsertWithinOneParent(t *testing.T) {
	for _, row := range []struct {
		id, before int // places among the children 0 to 3; 4 is None
		want       [4]int
	}{
		{0, 0, [4]int{0, 1, 2, 3}}, {1, 1, [4]int{0, 1, 2, 3}}, {3, 3, [4]int{0, 1, 2, 3}},
		{0, 1, [4]int{0, 1, 2, 3}}, {2, 3, [4]int{0, 1, 2, 3}}, {3, 4, [4]int{0, 1, 2, 3}},
		{0, 4, [4]int{1, 2, 3, 0}}, {0, 2, [4]int{1, 0, 2, 3}}, {0, 3, [4]int{1, 2, 0, 3}},
		{1, 0, [4]int{1, 0, 2, 3}}, {3, 0, [4]int{3, 0, 1, 2}}, {2, 1, [4]int{0, 2, 1, 3}}, {1, 4, [4]int{0, 2, 3, 1}},
	} {
		m := newMaker(t)
		parent := m.one('e')
		kids := m.put(parent, "etct")
		places := append(kids, none)
		checkErr(t, "Insert", edit.Insert(m.Arena, kids[row.id], parent, places[row.before]), api.OK)
		checkKids(t, m.Arena, parent, kids[row.want[0]], kids[row.want[1]], kids[row.want[2]], kids[row.want[3]])
		checkSound(t, m.Arena)
	}
}

func TestInsertTheOnlyChildAheadOfItself(t *testing.T) {
	m := newMaker(t)
	parent := m.one('e')
	id := m.put(parent, "e")[0]
	was := all(m.Arena)
	checkErr(t, "Insert", edit.Insert(m.Arena, id, parent, id), api.OK)
	checkSame(t, m.Arena, was)
}

func TestInsertAFragment(t *testing.T) {
	for _, inside := range []string{"", "e", "t", "etc", "tttee"} {
		for at := range 3 {
			m := newMaker(t)
			parent, f := m.one('e'), m.one('f')
			kids, moved := m.put(parent, "et"), m.put(f, inside)
			want := append(append(append([]int{}, kids[:at]...), moved...), kids[at:]...)
			checkErr(t, "Insert", edit.Insert(m.Arena, f, parent, append(kids, none)[at]), api.OK)
			checkKids(t, m.Arena, parent, want...)
			checkKids(t, m.Arena, f)
			checkSound(t, m.Arena)
			if m.tell(f).Parent != none {
				t.Error("a fragment has a parent")
			}
			checkErr(t, "once more, empty", edit.Insert(m.Arena, f, parent, none), api.OK)
			checkKids(t, m.Arena, parent, want...)
		}
	}
}

func TestInsertAFragmentIntoAnother(t *testing.T) {
	m := newMaker(t)
	f, g := m.one('f'), m.one('f')
	a, b := m.put(f, "et"), m.put(g, "tc")
	checkErr(t, "Insert", edit.Insert(m.Arena, f, g, b[1]), api.OK)
	checkKids(t, m.Arena, g, b[0], a[0], a[1], b[1])
	checkSound(t, m.Arena)
}

func TestInsertBelowTheDocument(t *testing.T) {
	m := newMaker(t)
	comment, html, doctype := m.one('c'), m.one('e'), m.one('d')
	checkErr(t, "an element", edit.Insert(m.Arena, html, 0, none), api.OK)
	checkErr(t, "a doctype ahead of it", edit.Insert(m.Arena, doctype, 0, html), api.OK)
	checkErr(t, "a comment between", edit.Insert(m.Arena, comment, 0, html), api.OK)
	checkKids(t, m.Arena, 0, doctype, comment, html)
	checkErr(t, "a comment ahead", edit.Insert(m.Arena, comment, 0, doctype), api.OK)
	checkKids(t, m.Arena, 0, comment, doctype, html)
	f := m.with('f', "cc")
	checkErr(t, "a fragment of comments", edit.Insert(m.Arena, f, 0, html), api.OK)
	checkKids(t, m.Arena, 0, comment, doctype, f+1, f+2, html)
	checkSound(t, m.Arena)
}

func TestInsertAFragmentWithOneElementBelowTheDocument(t *testing.T) {
	m := newMaker(t)
	page := m.put(0, "dc")
	f := m.with('f', "cec")
	was := all(m.Arena)
	checkErr(t, "ahead of the doctype", edit.Insert(m.Arena, f, 0, page[0]), api.ErrHierarchy)
	checkSame(t, m.Arena, was)
	checkErr(t, "behind it", edit.Insert(m.Arena, f, 0, page[1]), api.OK)
	checkKids(t, m.Arena, 0, page[0], f+1, f+2, f+3, page[1])
	checkSound(t, m.Arena)
}

func TestInsertTemplates(t *testing.T) {
	m := newMaker(t)
	template, p := m.elem("template"), m.one('e')
	inside := m.put(template+1, "et")
	checkErr(t, "a template", edit.Insert(m.Arena, template, p, none), api.OK)
	checkKids(t, m.Arena, template+1, inside...)
	checkErr(t, "into contents", edit.Insert(m.Arena, m.one('c'), template+1, inside[1]), api.OK)
	checkKids(t, m.Arena, template+1, inside[0], m.Len()-1, inside[1])
	checkErr(t, "contents below their template", edit.Insert(m.Arena, template+1, template, none), api.OK)
	checkKids(t, m.Arena, template+1)
	checkKids(t, m.Arena, template, inside[0], m.Len()-1, inside[1])
	if m.tell(template).Inner != template+1 || m.Host(template+1) != template {
		t.Error("the contents are its own no more")
	}
	checkSound(t, m.Arena)
}

func TestInsertTellsMaysErrorAndChangesNothing(t *testing.T) {
	m := newMaker(t)
	m.put(0, "cdce")
	top := m.Kids(0)[3]
	m.put(top, "etc")
	template := m.elem("template")
	m.put(template+1, "et")
	m.with('f', "te")
	m.with('f', "e")
	m.with('f', "d")
	for _, letter := range "etcdf" {
		m.one(letter)
	}
	was := all(m.Arena)
	seen := 0
	for id := none - 1; id <= m.Len(); id++ {
		for parent := none - 1; parent <= m.Len(); parent++ {
			for before := none - 1; before <= m.Len(); before++ {
				may := edit.May(m.Arena, id, parent, before)
				if may == api.OK {
					continue
				}
				seen++
				if e := edit.Insert(m.Arena, id, parent, before); e != may {
					t.Fatalf("Insert(%d, %d, %d): %d; May: %d", id, parent, before, e, may)
				}
			}
		}
	}
	if seen < 1000 {
		t.Errorf("refused: %d", seen)
	}
	checkSame(t, m.Arena, was)
}

func TestRemove(t *testing.T) {
	m := newMaker(t)
	page := m.put(0, "cde")
	kids := m.put(page[2], "etc")
	template := m.elem("template")
	inside := m.put(template+1, "t")[0]
	checkErr(t, "one in the middle", edit.Remove(m.Arena, kids[1]), api.OK)
	checkErr(t, "the first one", edit.Remove(m.Arena, kids[0]), api.OK)
	checkErr(t, "out of contents", edit.Remove(m.Arena, inside), api.OK)
	checkErr(t, "the document's", edit.Remove(m.Arena, page[2]), api.OK)
	checkErr(t, "a doctype", edit.Remove(m.Arena, page[1]), api.OK)
	checkKids(t, m.Arena, 0, page[0])
	checkKids(t, m.Arena, page[2], kids[2])
	checkKids(t, m.Arena, template+1)
	checkSound(t, m.Arena)
	checkErr(t, "twice", edit.Remove(m.Arena, kids[1]), api.ErrNotFound)
	checkErr(t, "and back", edit.Insert(m.Arena, kids[1], page[2], kids[2]), api.OK)
	checkKids(t, m.Arena, page[2], kids[1], kids[2])
}

func TestRemoveRefuses(t *testing.T) {
	m := newMaker(t)
	m.put(0, "cde")
	template := m.elem("template")
	was := all(m.Arena)
	for _, id := range append(outside, none, m.Len()) {
		checkErr(t, "no node", edit.Remove(m.Arena, id), api.ErrNone)
	}
	for _, id := range []int{0, template, template + 1} {
		checkErr(t, "no parent", edit.Remove(m.Arena, id), api.ErrNotFound)
	}
	checkSame(t, m.Arena, was)
}
