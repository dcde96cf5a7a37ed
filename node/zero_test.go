package node_test

import (
	"reflect"
	"testing"

	"hornbeam/api"
	"hornbeam/node"
)

// P1.5

func TestArenasThatNoCallMade(t *testing.T) {
	for _, a := range []*node.Arena{nil, {}, new(node.Arena)} {
		checkZeroMakers(t, a)
		for _, id := range append(outside, 0, 1) {
			checkZeroAnswers(t, a, id)
			checkZeroChanges(t, a, id)
		}
		if a.Len() != 0 || a.Copy() != nil {
			t.Errorf("Len: %d", a.Len())
		}
	}
}

// checkZeroMakers: ErrZero also where another error would apply.
func checkZeroMakers(t *testing.T, a *node.Arena) {
	t.Helper()
	checkRefusals(t, a, []refusal{
		{"Element", element(api.HTML, "p"), api.ErrZero},
		{"Element of a template", element(api.HTML, "template"), api.ErrZero},
		{"Element of no namespace", element(9, "p"), api.ErrZero},
		{"Element of a long name", element(api.HTML, more), api.ErrZero},
		{"Text", func(a *node.Arena) (int, api.Errno) { return a.Text("") }, api.ErrZero},
		{"Text that is long", func(a *node.Arena) (int, api.Errno) { return a.Text(more) }, api.ErrZero},
		{"Comment", func(a *node.Arena) (int, api.Errno) { return a.Comment("") }, api.ErrZero},
		{"Comment that is long", func(a *node.Arena) (int, api.Errno) { return a.Comment(more) }, api.ErrZero},
		{"Doctype", func(a *node.Arena) (int, api.Errno) { return a.Doctype("", "", "") }, api.ErrZero},
		{"Doctype that is long", func(a *node.Arena) (int, api.Errno) { return a.Doctype(more, "", "") }, api.ErrZero},
		{"Fragment", func(a *node.Arena) (int, api.Errno) { return a.Fragment() }, api.ErrZero},
	})
}

func checkZeroAnswers(t *testing.T, a *node.Arena, id int) {
	t.Helper()
	if x, e := a.Node(id); e != api.ErrZero || !reflect.DeepEqual(x, api.Node{}) {
		t.Errorf("Node(%d): %+v, %d", id, x, e)
	}
	if l := a.Kids(id); len(l) != 0 {
		t.Errorf("Kids(%d): %v", id, l)
	}
	if h := a.Host(id); h != none {
		t.Errorf("Host(%d): %d", id, h)
	}
	if a.Above(id, id) || a.Above(id, 0) || a.Above(0, id) {
		t.Errorf("Above of %d", id)
	}
}

func checkZeroChanges(t *testing.T, a *node.Arena, id int) {
	t.Helper()
	checkErr(t, "Link", a.Link(0, id, none), api.ErrZero)
	checkErr(t, "Link", a.Link(id, 1, id), api.ErrZero)
	checkErr(t, "Unlink", a.Unlink(id), api.ErrZero)
	checkErr(t, "SetData", a.SetData(id, more), api.ErrZero)
	checkErr(t, "SetAttr", a.SetAttr(id, api.Attr{Name: more}), api.ErrZero)
	checkErr(t, "DelAttr", a.DelAttr(id, 0, "a"), api.ErrZero)
}

func TestArenaCopiedAsAValueDoesNotPanic(t *testing.T) { // P1
	m := newMaker(t)
	m.link(0, m.elem("html"), none)
	value := *m.Arena
	for range 100 {
		id, e := value.Element(api.HTML, "p", nil)
		checkErr(t, "Element", e, api.OK)
		checkErr(t, "Link", value.Link(1, id, none), api.OK)
	}
	for _, a := range []*node.Arena{m.Arena, &value} {
		checkSound(t, a)
	}
}
