package write_test

import (
	"math/rand"
	"reflect"
	"slices"
	"strings"
	"testing"

	"hornbeam/api"
	"hornbeam/node"
	"hornbeam/write"
)

// The limits as the document's numbers, so that a test does not lean on the constants that the program reads.
const (
	maxNodes = 32768
	maxText  = 1048576
	maxAttrs = 1024
	none     = -1
)

// outside are numbers that are no node's in an arena of a few nodes.
var outside = []int{none, none - 1, 1000, maxNodes - 1, maxNodes, maxNodes + 1, -1 << 63, 1<<63 - 1}

// The chapter's names.
var (
	voids = strings.Fields("area base basefont bgsound br col embed frame hr img input keygen link meta param source track wbr")
	plain = strings.Fields("style script xmp iframe noembed noframes plaintext")
)

// others are names that are neither void nor plain, those of elements that were or might be taken for such among them.
var others = strings.Fields("html head body p a b div span title textarea pre listing template noframe frameset image " +
	"command menuitem isindex nextid spacer applet object select option svg math table tr td th colgroup button canvas video audio " +
	"BR Br bR STYLE Style SCRIPT sCRIPT NOSCRIPT Noscript XMP TEMPLATE br/ style/ x-br br-x h r i")

// thing is a node and what is below it, told without links.
type thing struct {
	kind   int
	space  int
	name   string
	data   string
	system string
	attrs  []api.Attr
	kids   []thing
	inner  []thing // what is below the contents of a template
}

func document(kids ...thing) thing { return thing{kind: api.KDocument, kids: kids} }
func fragment(kids ...thing) thing { return thing{kind: api.KFragment, kids: kids} }
func text(s string) thing          { return thing{kind: api.KText, data: s} }
func comment(s string) thing       { return thing{kind: api.KComment, data: s} }

func doctype(name, public, system string) thing {
	return thing{kind: api.KDoctype, name: name, data: public, system: system}
}

func elem(name string, kids ...thing) thing {
	return thing{kind: api.KElement, name: name, kids: kids}
}

func (x thing) in(space int) thing {
	x.space = space
	return x
}

func (x thing) with(attrs ...api.Attr) thing {
	x.attrs = attrs
	return x
}

// template has contents, and children beside them.
func template(inner []thing, kids ...thing) thing {
	return thing{kind: api.KElement, name: "template", inner: inner, kids: kids}
}

// isAmong tells whether a thing is an element of HTML of one of the names.
func (x thing) isAmong(names ...string) bool {
	return x.kind == api.KElement && x.space == api.HTML && slices.Contains(names, x.name)
}

// maker makes nodes by layer 1, which all must be made.
type maker struct {
	t *testing.T
	*node.Arena
}

func newMaker(t *testing.T) maker {
	t.Helper()
	return maker{t, node.New()}
}

func (m maker) got(id int, e api.Errno) int {
	m.t.Helper()
	if e != api.OK {
		m.t.Fatalf("a node was refused: %d", e)
	}
	return id
}

func (m maker) link(parent, child, before int) {
	m.t.Helper()
	if e := m.Link(parent, child, before); e != api.OK {
		m.t.Fatalf("Link(%d, %d, %d): %d", parent, child, before, e)
	}
}

// one makes the node alone; a document is there already.
func (m maker) one(x thing) int {
	m.t.Helper()
	switch x.kind {
	case api.KDocument:
		return 0
	case api.KElement:
		return m.got(m.Element(x.space, x.name, x.attrs))
	case api.KText:
		return m.got(m.Text(x.data))
	case api.KComment:
		return m.got(m.Comment(x.data))
	case api.KDoctype:
		return m.got(m.Doctype(x.name, x.data, x.system))
	}
	return m.got(m.Fragment())
}

// make makes a node and what is below it, from its beginning on.
func (m maker) make(x thing) int {
	m.t.Helper()
	id := m.one(x)
	for _, kid := range x.inner {
		m.link(id+1, m.make(kid), none)
	}
	for _, kid := range x.kids {
		m.link(id, m.make(kid), none)
	}
	return id
}

// back makes the same from its end on, so that the order of the numbers is not that of the tree.
func (m maker) back(x thing) int {
	m.t.Helper()
	m.got(m.Text("in no tree"))
	id := m.one(x)
	m.prepend(id, x.kids)
	m.prepend(id+1, x.inner)
	return id
}

func (m maker) prepend(parent int, kids []thing) {
	m.t.Helper()
	before := none
	for i := len(kids) - 1; i >= 0; i-- {
		id := m.back(kids[i])
		m.link(parent, id, before)
		before = id
	}
}

// all is all that an arena tells of its nodes.
func all(a *node.Arena) []api.Node {
	var l []api.Node
	for id := range a.Len() {
		x, _ := a.Node(id)
		l = append(l, x)
	}
	return l
}

// checkUnchanged asks that nothing has changed since before was told.
func checkUnchanged(t *testing.T, a *node.Arena, before []api.Node) {
	t.Helper()
	if !reflect.DeepEqual(all(a), before) {
		t.Errorf("the arena changed: %+v; was %+v", all(a), before)
	}
}

func checkInner(t *testing.T, a *node.Arena, id int, scripts bool, want string) {
	t.Helper()
	got, e := write.Inner(a, id, scripts)
	if got == want && e == api.OK {
		return
	}
	if len(got)+len(want) > 10000 {
		t.Fatalf("Inner(%d, %v): %d bytes, %d; want others, %d bytes", id, scripts, len(got), e, len(want))
	}
	t.Fatalf("Inner(%d, %v): %q, %d; want %q", id, scripts, got, e, want)
}

// checkWritten makes a thing and asks what is in it, which must be the same with the scripting flag and without.
func checkWritten(t *testing.T, x thing, want string) {
	t.Helper()
	m := newMaker(t)
	id := m.make(x)
	checkInner(t, m.Arena, id, false, want)
	checkInner(t, m.Arena, id, true, want)
}

func pick(r *rand.Rand, texts ...string) string {
	return texts[r.Intn(len(texts))]
}
