package place_test

import (
	"reflect"
	"slices"
	"strings"
	"testing"

	"hornbeam/api"
	"hornbeam/node"
	"hornbeam/place"
	"hornbeam/stack"
)

// Errors, limits and namespaces by the document's numbers: a test leans on no constant that the program reads.
const (
	ok        = 0
	errLong   = 2
	errNone   = 6
	errZero   = 7
	errFull   = 9
	errLinked = 11

	none     = -1
	maxNodes = 32768
	maxText  = 1048576

	html   = 0
	mathML = 1
	svg    = 2

	minInt = -1 << 63
	maxInt = 1<<63 - 1
)

// tableParts are what foster leads out of.
var tableParts = []string{"table", "tbody", "tfoot", "thead", "tr"}

// bench is an arena with a stack of its elements; what is made and linked in it must be taken.
type bench struct {
	t *testing.T
	a *node.Arena
	s *stack.Stack
}

func newBench(t *testing.T) bench {
	t.Helper()
	a := node.New()
	s, e := stack.New(a)
	if e != ok {
		t.Fatalf("stack.New: %d", e)
	}
	return bench{t, a, s}
}

func (b bench) got(id int, e api.Errno) int {
	b.t.Helper()
	if e != ok {
		b.t.Fatalf("a node was refused: %d", e)
	}
	return id
}

// elem makes an element; a name may begin with its namespace, as in "svg table".
func (b bench) elem(name string) int {
	b.t.Helper()
	space := html
	if head, tail, cut := strings.Cut(name, " "); cut {
		space = map[string]int{"math": mathML, "svg": svg}[head]
		name = tail
	}
	return b.got(b.a.Element(space, name, nil))
}

func (b bench) text(data string) int {
	b.t.Helper()
	return b.got(b.a.Text(data))
}

func (b bench) link(parent int, child int) {
	b.t.Helper()
	gives(b.t, "Link", b.a.Link(parent, child, none), ok)
}

// child makes an element that is another's last child.
func (b bench) child(parent int, name string) int {
	b.t.Helper()
	id := b.elem(name)
	b.link(parent, id)
	return id
}

func (b bench) push(ids ...int) {
	b.t.Helper()
	for _, id := range ids {
		gives(b.t, "Push", b.s.Push(id), ok)
	}
}

// open makes elements and pushes them, each a child of the one ahead of it (of a template: of its contents).
func (b bench) open(names ...string) []int {
	b.t.Helper()
	parent := b.s.Top()
	if parent == none {
		parent = 0
	}
	var ids []int
	for _, name := range names {
		if in := b.node(parent).Inner; in != none {
			parent = in
		}
		parent = b.child(parent, name)
		ids = append(ids, parent)
	}
	b.push(ids...)
	return ids
}

func (b bench) node(id int) api.Node {
	b.t.Helper()
	x, e := b.a.Node(id)
	if e != ok {
		b.t.Fatalf("Node(%d): %d", id, e)
	}
	return x
}

// one makes one node of each kind, beside the document: element, text, comment, doctype, fragment.
func (b bench) one() []int {
	b.t.Helper()
	return []int{
		b.elem("p"),
		b.text("table"),
		b.got(b.a.Comment("table")),
		b.got(b.a.Doctype("table", "", "")),
		b.got(b.a.Fragment()),
	}
}

// strangers are numbers that are no node.
func (b bench) strangers() []int {
	return []int{none, -2, b.a.Len(), b.a.Len() + 1, maxNodes, 1 << 32, minInt, maxInt}
}

// state is all that there is to say of an arena.
func (b bench) state() []api.Node {
	var all []api.Node
	for id := range b.a.Len() {
		all = append(all, b.node(id))
	}
	return all
}

func (b bench) unchanged(what string, was []api.Node) {
	b.t.Helper()
	if !reflect.DeepEqual(b.state(), was) {
		b.t.Errorf("%s: changed the arena", what)
	}
}

// spot asks for the place that Spot tells, and that it changes nothing.
func (b bench) spot(target int, foster bool, parent int, before int) {
	b.t.Helper()
	var open []int
	for i := range b.s.Len() {
		open = append(open, b.s.At(i))
	}
	was := b.state()
	at, e := place.Spot(b.a, b.s, target, foster)
	if want := (api.Spot{Parent: parent, Before: before}); at != want || e != ok {
		b.t.Errorf("Spot(%d, %v) with %v open: %v, %d; want %v", target, foster, open, at, e, want)
	}
	b.unchanged("Spot", was)
	for i, id := range open {
		if b.s.At(i) != id || b.s.Len() != len(open) {
			b.t.Errorf("Spot changed the stack")
		}
	}
}

// fosters asks where what would go into any part of a table goes instead.
func (b bench) fosters(parent int, before int) {
	b.t.Helper()
	for _, name := range tableParts {
		b.spot(b.elem(name), true, parent, before)
	}
}

// stays asks that what would go into any part of a table goes there.
func (b bench) stays() {
	b.t.Helper()
	for _, name := range tableParts {
		id := b.elem(name)
		b.spot(id, true, id, none)
	}
}

func (b bench) put(parent int, before int, id int, want api.Errno) {
	b.t.Helper()
	if e := place.Put(b.a, api.Spot{Parent: parent, Before: before}, id); e != want {
		b.t.Errorf("Put(%d below %d, ahead of %d): %d; want %d", id, parent, before, e, want)
	}
}

func (b bench) chars(parent int, before int, l []rune, want api.Errno) {
	b.t.Helper()
	if e := place.Chars(b.a, api.Spot{Parent: parent, Before: before}, l); e != want {
		b.t.Errorf("Chars(%d below %d, ahead of %d): %d; want %d", len(l), parent, before, e, want)
	}
}

func (b bench) kids(parent int, want ...int) {
	b.t.Helper()
	if got := b.a.Kids(parent); !slices.Equal(got, want) {
		b.t.Errorf("children of %d: %v; want %v", parent, got, want)
	}
}

// reads asks for the texts of the children, in order; an element is told by its name in brackets.
func (b bench) reads(parent int, want ...string) {
	b.t.Helper()
	var got []string
	for _, id := range b.a.Kids(parent) {
		x := b.node(id)
		if x.Kind == api.KText {
			got = append(got, x.Data)
		} else {
			got = append(got, "<"+x.Name+">")
		}
	}
	if !slices.Equal(got, want) {
		b.t.Errorf("children of %d: %q; want %q", parent, got, want)
	}
}

func gives(t *testing.T, what string, got api.Errno, want api.Errno) {
	t.Helper()
	if got != want {
		t.Errorf("%s: %d; want %d", what, got, want)
	}
}
