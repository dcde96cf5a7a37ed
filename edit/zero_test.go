package edit_test

import (
	"testing"

	"hornbeam/api"
	"hornbeam/edit"
	"hornbeam/node"
)

// P2.4

func TestArenasThatNoCallMade(t *testing.T) {
	for _, a := range []*node.Arena{nil, {}, new(node.Arena)} {
		for _, x := range append(outside, none, 0, 1) {
			checkErr(t, "May", edit.May(a, x, 0, none), api.ErrZero)
			checkErr(t, "May", edit.May(a, 0, x, x), api.ErrZero)
			checkErr(t, "Insert", edit.Insert(a, x, 0, none), api.ErrZero)
			checkErr(t, "Insert", edit.Insert(a, 0, x, x), api.ErrZero)
			checkErr(t, "Remove", edit.Remove(a, x), api.ErrZero)
			for _, s := range []string{"a", "", more} {
				id, e := edit.AddText(a, s, x)
				checkRefused(t, "AddText", id, e, api.ErrZero)
				id, e = edit.AddElement(a, s, x)
				checkRefused(t, "AddElement", id, e, api.ErrZero)
				checkErr(t, "SetAttr", edit.SetAttr(a, x, s, s), api.ErrZero)
				checkErr(t, "DelAttr", edit.DelAttr(a, x, s), api.ErrZero)
				checkErr(t, "SetData", edit.SetData(a, x, s), api.ErrZero)
			}
		}
		if a.Len() != 0 {
			t.Errorf("Len: %d", a.Len())
		}
	}
}

func TestExamplesOfTheChapter(t *testing.T) {
	a := node.New()
	if id, e := edit.AddElement(a, "html", 0); id != 1 || e != api.OK {
		t.Errorf("AddElement(html, 0): %d, %d", id, e)
	}
	id, e := edit.AddElement(a, "b", 0)
	checkRefused(t, "AddElement(b, 0)", id, e, api.ErrHierarchy)
	id, e = edit.AddText(a, "x", 0)
	checkRefused(t, "AddText(x, 0)", id, e, api.ErrHierarchy)
	checkErr(t, "Insert(0, 1, None)", edit.Insert(a, 0, 1, none), api.ErrHierarchy)
	checkErr(t, "Insert(1, 0, 1)", edit.Insert(a, 1, 0, 1), api.ErrHierarchy)
	if a.Len() != 2 {
		t.Errorf("Len: %d", a.Len())
	}
}
