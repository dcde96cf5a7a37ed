package show_test

import (
	"math/rand"
	"reflect"
	"strings"
	"testing"

	"hornbeam/api"
	"hornbeam/node"
	"hornbeam/show"
)

// The limits as the document's numbers, so that a test does not lean on the constants that the program reads.
const (
	maxNodes = 32768
	maxText  = 1048576
	maxAttrs = 1024
	none     = -1
)

// outside are numbers that are no node's in an arena of a few nodes.
var outside = []int{none, none - 1, 1000, maxNodes, maxNodes + 1, -1 << 63, 1<<63 - 1}

// thing is a node and what is below it, told without links.
type thing struct {
	kind   int
	space  int
	name   string
	data   string
	system string
	attrs  []api.Attr
	kids   []thing
	inner  []thing // what is below the contents of a template
}

func document(kids ...thing) thing { return thing{kind: api.KDocument, kids: kids} }
func fragment(kids ...thing) thing { return thing{kind: api.KFragment, kids: kids} }
func text(s string) thing          { return thing{kind: api.KText, data: s} }
func comment(s string) thing       { return thing{kind: api.KComment, data: s} }

func doctype(name, public, system string) thing {
	return thing{kind: api.KDoctype, name: name, data: public, system: system}
}

func elem(name string, kids ...thing) thing {
	return thing{kind: api.KElement, name: name, kids: kids}
}

func (x thing) in(space int) thing {
	x.space = space
	return x
}

func (x thing) with(attrs ...api.Attr) thing {
	x.attrs = attrs
	return x
}

// template has contents, and children beside them.
func template(inner []thing, kids ...thing) thing {
	return thing{kind: api.KElement, name: "template", inner: inner, kids: kids}
}

// isTemplate asks what chapter 1 says of templates, for the tests' own use.
func (x thing) isTemplate() bool {
	return x.kind == api.KElement && x.space == api.HTML && x.name == "template"
}

// maker makes nodes by layer 1, which all must be made.
type maker struct {
	t *testing.T
	*node.Arena
}

func newMaker(t *testing.T) maker {
	t.Helper()
	return maker{t, node.New()}
}

func (m maker) got(id int, e api.Errno) int {
	m.t.Helper()
	if e != api.OK {
		m.t.Fatalf("a node was refused: %d", e)
	}
	return id
}

func (m maker) link(parent, child, before int) {
	m.t.Helper()
	if e := m.Link(parent, child, before); e != api.OK {
		m.t.Fatalf("Link(%d, %d, %d): %d", parent, child, before, e)
	}
}

// one makes the node alone; a document is there already.
func (m maker) one(x thing) int {
	m.t.Helper()
	switch x.kind {
	case api.KDocument:
		return 0
	case api.KElement:
		return m.got(m.Element(x.space, x.name, x.attrs))
	case api.KText:
		return m.got(m.Text(x.data))
	case api.KComment:
		return m.got(m.Comment(x.data))
	case api.KDoctype:
		return m.got(m.Doctype(x.name, x.data, x.system))
	}
	return m.got(m.Fragment())
}

// make makes a node and what is below it, from its beginning on.
func (m maker) make(x thing) int {
	m.t.Helper()
	id := m.one(x)
	for _, kid := range x.inner {
		m.link(id+1, m.make(kid), none)
	}
	for _, kid := range x.kids {
		m.link(id, m.make(kid), none)
	}
	return id
}

// back makes the same in another order, so that its nodes have other numbers.
func (m maker) back(x thing) int {
	m.t.Helper()
	m.got(m.Text("in no tree"))
	var kids, inner []int
	for i := len(x.kids) - 1; i >= 0; i-- {
		kids = append(kids, m.back(x.kids[i]))
	}
	for i := len(x.inner) - 1; i >= 0; i-- {
		inner = append(inner, m.back(x.inner[i]))
	}
	id := m.one(x)
	m.prepend(id, kids)
	m.prepend(id+1, inner)
	return id
}

func (m maker) prepend(parent int, ids []int) {
	m.t.Helper()
	before := none
	for _, id := range ids {
		m.link(parent, id, before)
		before = id
	}
}

// all is all that an arena tells of its nodes.
func all(a *node.Arena) []api.Node {
	var l []api.Node
	for id := range a.Len() {
		x, _ := a.Node(id)
		l = append(l, x)
	}
	return l
}

// checkSame asks that nothing has changed since before was told.
func checkSame(t *testing.T, a *node.Arena, before []api.Node) {
	t.Helper()
	if !reflect.DeepEqual(all(a), before) {
		t.Errorf("the arena changed: %+v; was %+v", all(a), before)
	}
}

func checkShow(t *testing.T, a *node.Arena, id int, want string) {
	t.Helper()
	got, e := show.Show(a, id)
	if got == want && e == api.OK {
		return
	}
	if len(got)+len(want) > 10000 {
		t.Fatalf("Show(%d): %d bytes, %d; want others, %d bytes", id, len(got), e, len(want))
	}
	t.Fatalf("Show(%d), %d:\n%swant\n%s", id, e, got, want)
}

// checkShown makes a thing and asks how it is shown.
func checkShown(t *testing.T, x thing, lines ...string) {
	t.Helper()
	m := newMaker(t)
	id := m.make(x)
	checkShow(t, m.Arena, id, joined(lines))
}

// joined is lines with a byte 10 behind each.
func joined(lines []string) string {
	if len(lines) == 0 {
		return ""
	}
	return strings.Join(lines, "\n") + "\n"
}

// randomThing is a node of a few names and texts, so that some are alike.
func randomThing(r *rand.Rand, depth int) thing {
	if depth == 0 || r.Intn(4) == 0 {
		switch r.Intn(3) {
		case 0:
			return text(pick(r, "", "a", "\n\"<"))
		case 1:
			return comment(pick(r, "", "a", "-->"))
		}
		return doctype(pick(r, "", "html"), pick(r, "", "p"), pick(r, "", "s"))
	}
	x := elem(pick(r, "template", "p", "b"), randomThings(r, depth-1)...)
	x.space = r.Intn(3)
	for range r.Intn(5) {
		x.attrs = append(x.attrs, api.Attr{Space: r.Intn(7), Prefix: pick(r, "", "x"), Name: pick(r, "a", "xlink a", "xml b", "b", "~"), Value: pick(r, "", "1")})
	}
	if x.isTemplate() {
		x.inner = randomThings(r, depth-1)
	}
	return x
}

func randomThings(r *rand.Rand, depth int) []thing {
	var l []thing
	for range r.Intn(4) {
		l = append(l, randomThing(r, depth))
	}
	return l
}

func pick(r *rand.Rand, texts ...string) string {
	return texts[r.Intn(len(texts))]
}
