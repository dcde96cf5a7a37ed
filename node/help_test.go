package node_test

import (
	"reflect"
	"strings"
	"testing"

	"hornbeam/api"
	"hornbeam/node"
)

// The limits as the document's numbers, so that a test does not lean on the constants that the program reads.
const (
	maxNodes = 32768
	maxText  = 1048576
	maxAttrs = 1024
	none     = -1
)

var (
	most = strings.Repeat("x", maxText)
	more = strings.Repeat("x", maxText+1)
)

// outside are numbers that are no node's in an arena of a few nodes.
var outside = []int{none - 1, none, 1000, maxNodes, maxNodes + 1, -1 << 63, 1<<63 - 1}

// maker makes nodes, which all must be made.
type maker struct {
	t *testing.T
	*node.Arena
}

func newMaker(t *testing.T) maker {
	t.Helper()
	return maker{t, node.New()}
}

func (m maker) got(id int, e api.Errno) int {
	m.t.Helper()
	if e != api.OK {
		m.t.Fatalf("a node was refused: %d", e)
	}
	return id
}

func (m maker) elem(name string, attrs ...api.Attr) int {
	m.t.Helper()
	return m.got(m.Element(api.HTML, name, attrs))
}

func (m maker) text(s string) int {
	m.t.Helper()
	return m.got(m.Text(s))
}

func (m maker) link(parent, child, before int) {
	m.t.Helper()
	if e := m.Link(parent, child, before); e != api.OK {
		m.t.Fatalf("Link(%d, %d, %d): %d", parent, child, before, e)
	}
}

// fill makes texts until there are n nodes.
func (m maker) fill(n int) {
	m.t.Helper()
	for m.Len() < n {
		m.text("")
	}
}

func (m maker) attrs(id int) []api.Attr {
	m.t.Helper()
	x, e := m.Node(id)
	if e != api.OK {
		m.t.Fatalf("Node(%d): %d", id, e)
	}
	return x.Attrs
}

// all is all that an arena tells of its nodes.
func all(a *node.Arena) []api.Node {
	var l []api.Node
	for id := range a.Len() {
		x, _ := a.Node(id)
		l = append(l, x)
	}
	return l
}

// unlinked is a node of a kind with none of the six links.
func unlinked(kind int) api.Node {
	return api.Node{Kind: kind, Parent: none, First: none, Last: none, Prev: none, Next: none, Inner: none}
}

func checkNode(t *testing.T, a *node.Arena, id int, want api.Node) {
	t.Helper()
	got, e := a.Node(id)
	if e != api.OK || !reflect.DeepEqual(got, want) {
		t.Errorf("Node(%d): %+v, %d; want %+v", id, got, e, want)
	}
}

func checkKids(t *testing.T, a *node.Arena, id int, want ...int) {
	t.Helper()
	got := a.Kids(id)
	if len(got) != len(want) || len(want) > 0 && !reflect.DeepEqual(got, want) {
		t.Errorf("Kids(%d): %v; want %v", id, got, want)
	}
}

func checkErr(t *testing.T, what string, got, want api.Errno) {
	t.Helper()
	if got != want {
		t.Errorf("%s: %d; want %d", what, got, want)
	}
}

// checkSame asks that nothing has changed since before was told.
func checkSame(t *testing.T, a *node.Arena, before []api.Node) {
	t.Helper()
	if !reflect.DeepEqual(all(a), before) {
		t.Errorf("a call that errs changed the arena: %+v; was %+v", all(a), before)
	}
}
