package edit_test

import (
	"reflect"
	"strings"
	"testing"

	"hornbeam/api"
	"hornbeam/node"
)

// The limits as the document's numbers, so that a test does not lean on the constants that the program reads.
const (
	maxNodes = 32768
	maxText  = 1048576
	maxAttrs = 1024
	none     = -1
)

var (
	most = strings.Repeat("x", maxText)
	more = strings.Repeat("x", maxText+1)
)

// outside are numbers that are no node's in an arena of a few nodes, and not None.
var outside = []int{none - 1, 1000, maxNodes, maxNodes + 1, -1 << 63, 1<<63 - 1}

// maker makes nodes by layer 1, which all must be made.
type maker struct {
	t *testing.T
	*node.Arena
}

func newMaker(t *testing.T) maker {
	t.Helper()
	return maker{t, node.New()}
}

func (m maker) got(id int, e api.Errno) int {
	m.t.Helper()
	if e != api.OK {
		m.t.Fatalf("a node was refused: %d", e)
	}
	return id
}

func (m maker) elem(name string) int {
	m.t.Helper()
	return m.got(m.Element(api.HTML, name, nil))
}

// one makes a node: of the letters e, t, c, d, f an element, a text, a comment, a doctype, a fragment.
func (m maker) one(letter rune) int {
	m.t.Helper()
	switch letter {
	case 'e':
		return m.elem("p")
	case 't':
		return m.got(m.Text("t"))
	case 'c':
		return m.got(m.Comment("c"))
	case 'd':
		return m.got(m.Doctype("html", "", ""))
	}
	return m.got(m.Fragment())
}

// put makes a node for each letter, children of parent one behind the other.
func (m maker) put(parent int, letters string) []int {
	m.t.Helper()
	var ids []int
	for _, letter := range letters {
		id := m.one(letter)
		if e := m.Link(parent, id, none); e != api.OK {
			m.t.Fatalf("Link(%d, %d): %d", parent, id, e)
		}
		ids = append(ids, id)
	}
	return ids
}

// with makes a node that has a child for each letter.
func (m maker) with(letter rune, letters string) int {
	m.t.Helper()
	id := m.one(letter)
	m.put(id, letters)
	return id
}

// fill makes texts until there are n nodes.
func (m maker) fill(n int) {
	m.t.Helper()
	for m.Len() < n {
		m.one('t')
	}
}

func (m maker) tell(id int) api.Node {
	m.t.Helper()
	x, e := m.Node(id)
	if e != api.OK {
		m.t.Fatalf("Node(%d): %d", id, e)
	}
	return x
}

// all is all that an arena tells of its nodes.
func all(a *node.Arena) []api.Node {
	var l []api.Node
	for id := range a.Len() {
		x, _ := a.Node(id)
		l = append(l, x)
	}
	return l
}

func checkErr(t *testing.T, what string, got, want api.Errno) {
	t.Helper()
	if got != want {
		t.Errorf("%s: %d; want %d", what, got, want)
	}
}

// checkRefused asks for an error, and that no number stands beside it.
func checkRefused(t *testing.T, what string, id int, got, want api.Errno) {
	t.Helper()
	if got != want || id != 0 {
		t.Errorf("%s: %d, %d; want 0, %d", what, id, got, want)
	}
}

func checkKids(t *testing.T, a *node.Arena, id int, want ...int) {
	t.Helper()
	got := a.Kids(id)
	if len(got) != len(want) || len(want) > 0 && !reflect.DeepEqual(got, want) {
		t.Errorf("Kids(%d): %v; want %v", id, got, want)
	}
}

// checkSame asks that nothing has changed since before was told.
func checkSame(t *testing.T, a *node.Arena, before []api.Node) {
	t.Helper()
	if !reflect.DeepEqual(all(a), before) {
		t.Errorf("the arena changed: %+v; was %+v", all(a), before)
	}
}
