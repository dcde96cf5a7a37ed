package active_test

import (
	"reflect"
	"slices"
	"testing"

	"hornbeam/active"
	"hornbeam/api"
	"hornbeam/node"
)

// Errors and namespaces by the document's numbers: a test leans on no constant that the program reads.
const (
	ok      = 0
	errArg  = 1
	errNone = 6
	errZero = 7

	none = -1

	html   = 0
	mathML = 1
	svg    = 2

	minInt = -1 << 63
	maxInt = 1<<63 - 1
)

// places are such that no list here has.
var places = []int{-1, -2, minInt, 40000, 1 << 32, maxInt}

// bench is an arena with a list of its elements; what is made and pushed in it must be taken.
type bench struct {
	t *testing.T
	a *node.Arena
	l *active.List
}

func newBench(t *testing.T) bench {
	t.Helper()
	a := node.New()
	return bench{t, a, newList(t, a)}
}

func newList(t *testing.T, a *node.Arena) *active.List {
	t.Helper()
	l, e := active.New(a)
	if l == nil || e != ok {
		t.Fatalf("New: %v, %d", l, e)
	}
	return l
}

func tag(name string, attrs ...api.Attr) api.Token {
	return api.Token{Kind: api.TStart, Name: name, Attrs: attrs}
}

// attr is an attribute without a namespace.
func attr(name string, value string) api.Attr {
	return api.Attr{Name: name, Value: value}
}

func (b bench) elem(space int, name string) int {
	b.t.Helper()
	id, e := b.a.Element(space, name, nil)
	if e != ok {
		b.t.Fatalf("Element(%d, %q): %d", space, name, e)
	}
	return id
}

func (b bench) push(space int, name string, attrs ...api.Attr) int {
	b.t.Helper()
	id := b.elem(space, name)
	gives(b.t, "Push of "+name, b.l.Push(id, tag(name, attrs...)), ok)
	return id
}

func (b bench) put(i int, space int, name string, attrs ...api.Attr) int {
	b.t.Helper()
	id := b.elem(space, name)
	gives(b.t, "Put of "+name, b.l.Put(i, id, tag(name, attrs...)), ok)
	return id
}

// grow pushes elements of HTML without attributes; a name that is empty is a marker.
func (b bench) grow(names ...string) []int {
	b.t.Helper()
	var ids []int
	for _, name := range names {
		if name == "" {
			b.mark()
			ids = append(ids, none)
		} else {
			ids = append(ids, b.push(html, name))
		}
	}
	return ids
}

func (b bench) mark() {
	b.t.Helper()
	gives(b.t, "Mark", b.l.Mark(), ok)
}

// others are numbers that are no element: one of each kind of nodes but elements, and numbers that are no node.
func (b bench) others() []int {
	b.t.Helper()
	text, _ := b.a.Text("p")
	comment, _ := b.a.Comment("p")
	doctype, _ := b.a.Doctype("p", "", "")
	fragment, _ := b.a.Fragment()
	contents := b.elem(html, "template") + 1
	return []int{0, text, comment, doctype, fragment, contents, none, -2, b.a.Len(), b.a.Len() + 1, 32768, 1 << 32, minInt, maxInt}
}

func gives(t *testing.T, what string, got api.Errno, want api.Errno) {
	t.Helper()
	if got != want {
		t.Errorf("%s: %d; want %d", what, got, want)
	}
}

// holds asks that a list has the entries of these elements (None: a marker) and no other, by all calls that tell of
// them.
func holds(t *testing.T, l *active.List, want ...int) {
	t.Helper()
	if l.Len() != len(want) {
		t.Fatalf("Len: %d; want %d", l.Len(), len(want))
	}
	for i, id := range want {
		x, e := l.At(i)
		if x.Node != id || e != ok {
			t.Fatalf("At(%d): %d, %d; want %v", i, x.Node, e, want)
		}
		if id == none && !reflect.DeepEqual(x.Token, api.Token{}) {
			t.Errorf("At(%d): a marker with the token %v", i, x.Token)
		}
		if id != none && l.Find(id) != i {
			t.Fatalf("Find(%d): %d; want %v", id, l.Find(id), want)
		}
	}
	if l.Find(none) != -1 {
		t.Errorf("Find of None: %d", l.Find(none))
	}
	for _, i := range append(places, len(want), len(want)+1) {
		if x, e := l.At(i); e != errArg || !reflect.DeepEqual(x, api.Entry{}) {
			t.Errorf("At(%d) of %d entries: %v, %d", i, len(want), x, e)
		}
	}
}

// carries asks for the token of the entry at a place.
func carries(t *testing.T, l *active.List, i int, want api.Token) {
	t.Helper()
	x, e := l.At(i)
	if e != ok || !sameToken(x.Token, want) {
		t.Errorf("At(%d): %v, %d; want the token %v", i, x.Token, e, want)
	}
}

// sameToken takes nil and empty lists as the same (P3), and attributes in their order.
func sameToken(x api.Token, y api.Token) bool {
	same := slices.Equal(x.Attrs, y.Attrs)
	x.Attrs, y.Attrs = nil, nil
	return same && reflect.DeepEqual(x, y)
}

func last(t *testing.T, l *active.List, name string, want int) {
	t.Helper()
	if got := l.Last(name); got != want {
		t.Errorf("Last(%q): %d; want %d", name, got, want)
	}
}

func cleared(t *testing.T, l *active.List, want int) {
	t.Helper()
	if got := l.Clear(); got != want {
		t.Errorf("Clear: %d; want %d", got, want)
	}
}
