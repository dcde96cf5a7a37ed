package edit_test

import (
	"testing"

	"hornbeam/api"
	"hornbeam/edit"
)

// P2.3, of nodes

// parents makes one of each kind of parents that may have texts.
func (m maker) parents() []int {
	m.t.Helper()
	template := m.elem("template")
	return []int{m.one('e'), m.one('f'), template, template + 1, m.got(m.Element(api.MathML, "mi", nil)), m.put(0, "e")[0]}
}

// barren makes one of each kind of nodes that are no parents.
func (m maker) barren() []int {
	m.t.Helper()
	return append(m.put(0, "cd"), m.one('t'), m.one('c'), m.one('d'))
}

func TestAddText(t *testing.T) {
	m := newMaker(t)
	for _, parent := range m.parents() {
		kids := m.put(parent, "et")
		for _, s := range []string{"x", "", "\x00\xff<", most} {
			n := m.Len()
			id, e := edit.AddText(m.Arena, s, parent)
			if e != api.OK || id != n || m.Len() != n+1 || m.tell(id).Kind != api.KText || m.tell(id).Data != s {
				t.Errorf("AddText below %d: %d, %d", parent, id, e)
			}
			kids = append(kids, id)
			checkKids(t, m.Arena, parent, kids...)
		}
	}
	checkSound(t, m.Arena)
}

func TestAddTextRefuses(t *testing.T) {
	m := newMaker(t)
	m.parents()
	barren := m.barren()
	was := all(m.Arena)
	for _, parent := range append(outside, none, m.Len()) {
		for _, s := range []string{"x", more} {
			id, e := edit.AddText(m.Arena, s, parent)
			checkRefused(t, "no node", id, e, api.ErrNone)
		}
	}
	for _, parent := range append(barren, 0) {
		id, e := edit.AddText(m.Arena, "x", parent)
		checkRefused(t, "no parent of texts", id, e, api.ErrHierarchy)
		id, e = edit.AddText(m.Arena, more, parent)
		checkRefused(t, "no parent of texts, and long", id, e, api.ErrLong)
	}
	id, e := edit.AddText(m.Arena, more, m.Kids(0)[0])
	checkRefused(t, "a long text", id, e, api.ErrLong)
	checkSame(t, m.Arena, was)
}

func TestAddTextToAFullArena(t *testing.T) {
	m := newMaker(t)
	p, text := m.one('e'), m.one('t')
	m.fill(maxNodes - 1)
	id, e := edit.AddText(m.Arena, "last", p)
	if e != api.OK || id != maxNodes-1 || m.Len() != maxNodes {
		t.Errorf("the last one: %d, %d", id, e)
	}
	for _, parent := range []int{p, text, 0} {
		id, e = edit.AddText(m.Arena, "x", parent)
		checkRefused(t, "one more", id, e, api.ErrFull)
		id, e = edit.AddText(m.Arena, more, parent)
		checkRefused(t, "a long one more", id, e, api.ErrLong)
	}
	id, e = edit.AddText(m.Arena, more, maxNodes)
	checkRefused(t, "below no node", id, e, api.ErrNone)
	checkKids(t, m.Arena, p, maxNodes-1)
	if m.Len() != maxNodes {
		t.Errorf("Len: %d", m.Len())
	}
}

func TestAddTextToAFullArenaBelowTheDocument(t *testing.T) { // ErrFull is named ahead of ErrHierarchy
	m := newMaker(t)
	m.fill(maxNodes - 1)
	id, e := edit.AddText(m.Arena, "x", 0)
	checkRefused(t, "room for one", id, e, api.ErrHierarchy)
	m.fill(maxNodes)
	id, e = edit.AddText(m.Arena, "x", 0)
	checkRefused(t, "no room", id, e, api.ErrFull)
}

func TestAddElement(t *testing.T) {
	m := newMaker(t)
	for _, parent := range m.parents() {
		kids := m.put(parent, "et")
		for range 3 {
			n := m.Len()
			id, e := edit.AddElement(m.Arena, "Div", parent)
			x := m.tell(id)
			if e != api.OK || id != n || m.Len() != n+1 || x.Kind != api.KElement || x.Space != api.HTML || x.Name != "div" {
				t.Errorf("AddElement below %d: %d, %d", parent, id, e)
			}
			kids = append(kids, id)
			checkKids(t, m.Arena, parent, kids...)
		}
	}
	checkSound(t, m.Arena)
}

func TestAddElementBelowTheDocument(t *testing.T) {
	for _, page := range []string{"", "c", "d", "cdc"} {
		m := newMaker(t)
		kids := m.put(0, page)
		id, e := edit.AddElement(m.Arena, "html", 0)
		checkErr(t, page, e, api.OK)
		checkKids(t, m.Arena, 0, append(kids, id)...)
		was := all(m.Arena)
		id, e = edit.AddElement(m.Arena, "html", 0)
		checkRefused(t, "a second one", id, e, api.ErrHierarchy)
		checkSame(t, m.Arena, was)
		checkErr(t, "Remove", edit.Remove(m.Arena, m.Len()-1), api.OK)
		_, e = edit.AddElement(m.Arena, "html", 0)
		checkErr(t, "once the first is gone", e, api.OK)
	}
}

func TestAddElementOfATemplate(t *testing.T) {
	m := newMaker(t)
	p := m.put(0, "e")[0]
	id, e := edit.AddElement(m.Arena, "TEMPLATE", p)
	if e != api.OK || m.Len() != id+2 || m.tell(id).Inner != id+1 || m.tell(id+1).Kind != api.KFragment {
		t.Errorf("a template: %d, %d, %+v", id, e, m.tell(id))
	}
	in, e := edit.AddElement(m.Arena, "b", id+1)
	checkErr(t, "into its contents", e, api.OK)
	checkKids(t, m.Arena, id+1, in)
	checkKids(t, m.Arena, id)
	checkKids(t, m.Arena, p, id)
}

func TestAddElementRefuses(t *testing.T) {
	m := newMaker(t)
	m.parents()
	barren := m.barren()
	was := all(m.Arena)
	for _, parent := range append(outside, none, m.Len()) {
		for _, name := range []string{"b", "", "1", more} {
			id, e := edit.AddElement(m.Arena, name, parent)
			checkRefused(t, "no node", id, e, api.ErrNone)
		}
	}
	for _, parent := range append(barren, 0) {
		for _, name := range []string{"", "1", "a b", more} {
			id, e := edit.AddElement(m.Arena, name, parent)
			checkRefused(t, "no name, and no parent", id, e, api.ErrName)
		}
		id, e := edit.AddElement(m.Arena, "b", parent)
		checkRefused(t, "no parent", id, e, api.ErrHierarchy)
	}
	checkSame(t, m.Arena, was)
}

func TestAddElementToAFullArena(t *testing.T) {
	m := newMaker(t)
	p, text := m.put(0, "e")[0], m.one('t')
	m.fill(maxNodes - 1)
	id, e := edit.AddElement(m.Arena, "template", p)
	checkRefused(t, "a template where there is room for one", id, e, api.ErrFull)
	checkKids(t, m.Arena, p)
	id, e = edit.AddElement(m.Arena, "b", p)
	if e != api.OK || id != maxNodes-1 || m.Len() != maxNodes {
		t.Errorf("the last one: %d, %d", id, e)
	}
	id, e = edit.AddElement(m.Arena, "b", p)
	checkRefused(t, "one more", id, e, api.ErrFull)
	for _, parent := range []int{text, 0} {
		id, e = edit.AddElement(m.Arena, "b", parent)
		checkRefused(t, "one more, where it may not be", id, e, api.ErrHierarchy)
	}
	id, e = edit.AddElement(m.Arena, "", p)
	checkRefused(t, "one more without a name", id, e, api.ErrName)
	id, e = edit.AddElement(m.Arena, "", maxNodes)
	checkRefused(t, "one more below no node", id, e, api.ErrNone)
	checkKids(t, m.Arena, p, maxNodes-1)
	if m.Len() != maxNodes {
		t.Errorf("Len: %d", m.Len())
	}
}

func TestAddTemplateToTheLastTwoPlaces(t *testing.T) {
	m := newMaker(t)
	m.fill(maxNodes - 2)
	id, e := edit.AddElement(m.Arena, "template", 0)
	if e != api.OK || id != maxNodes-2 || m.Len() != maxNodes {
		t.Errorf("a template: %d, %d", id, e)
	}
}
