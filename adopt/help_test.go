package adopt_test

import (
	"reflect"
	"strconv"
	"strings"
	"testing"

	"hornbeam/active"
	"hornbeam/adopt"
	"hornbeam/api"
	"hornbeam/node"
	"hornbeam/show"
	"hornbeam/stack"
)

// Errors, limits and namespaces by the document's numbers: a test leans on no constant that the program reads.
const (
	ok      = 0
	errLong = 2
	errZero = 7
	errFull = 9

	none     = -1
	maxNodes = 32768
	maxText  = 1048576
	maxAttrs = 1024

	html   = 0
	mathML = 1
	svg    = 2
)

// bench is an arena with a stack and a list of its elements; what is made and linked in it must be taken.
//
// Elements are told by words, such as b, b1, b2: a name, and a digit if several have the name. An element has the
// attribute own, with its word, if it was made here; the token of its entry has the attribute of, so that a new element
// for it is told by the word and a stroke.
type bench struct {
	t *testing.T
	a *node.Arena
	s *stack.Stack
	l *active.List
}

func newBench(t *testing.T) bench {
	t.Helper()
	a := node.New()
	s, e := stack.New(a)
	gives(t, "stack.New", e, ok)
	l, e := active.New(a)
	gives(t, "active.New", e, ok)
	return bench{t, a, s, l}
}

// kinds are what words begin with that are elements of other namespaces.
var kinds = map[string]int{"math:": mathML, "svg:": svg}

// named parts a word into a namespace and a name.
func named(word string) (int, string) {
	for head, space := range kinds {
		if name, cut := strings.CutPrefix(word, head); cut {
			return space, strings.TrimRight(name, "123456789")
		}
	}
	return html, strings.TrimRight(word, "123456789")
}

// tag is the token for an element that is told by a word.
func tag(word string) api.Token {
	_, name := named(word)
	return api.Token{Kind: api.TStart, Name: name, Attrs: []api.Attr{{Name: "of", Value: word}}}
}

func (b bench) got(id int, e api.Errno) int {
	b.t.Helper()
	if e != ok {
		b.t.Fatalf("a node was refused: %d", e)
	}
	return id
}

func (b bench) elem(word string) int {
	b.t.Helper()
	space, name := named(word)
	return b.got(b.a.Element(space, name, []api.Attr{{Name: "own", Value: word}}))
}

func (b bench) link(parent int, child int) {
	b.t.Helper()
	gives(b.t, "Link", b.a.Link(parent, child, none), ok)
}

// inside is where children of an element go: of a template its contents.
func (b bench) inside(id int) int {
	b.t.Helper()
	if id == none {
		return 0
	}
	if in := b.node(id).Inner; in != none {
		return in
	}
	return id
}

// child makes an element that is another's last child.
func (b bench) child(parent int, word string) int {
	b.t.Helper()
	id := b.elem(word)
	b.link(b.inside(parent), id)
	return id
}

// text puts a text at the end of what is in the top.
func (b bench) text(data string) int {
	b.t.Helper()
	id := b.got(b.a.Text(data))
	b.link(b.inside(b.s.Top()), id)
	return id
}

func (b bench) push(id int) {
	b.t.Helper()
	gives(b.t, "Push", b.s.Push(id), ok)
}

// enter makes an entry the last one, however many there are alike.
func (b bench) enter(id int, t api.Token) {
	b.t.Helper()
	gives(b.t, "Put", b.l.Put(b.l.Len(), id, t), ok)
}

// open pushes elements, each a child of the top; a word with a star behind it has an entry, a stroke is a marker.
func (b bench) open(words string) []int {
	b.t.Helper()
	var ids []int
	for _, word := range strings.Fields(words) {
		if word == "|" {
			gives(b.t, "Mark", b.l.Mark(), ok)
			continue
		}
		word, starred := strings.CutSuffix(word, "*")
		id := b.child(b.s.Top(), word)
		b.push(id)
		ids = append(ids, id)
		if starred {
			b.enter(id, tag(word))
		}
	}
	return ids
}

func (b bench) node(id int) api.Node {
	b.t.Helper()
	x, e := b.a.Node(id)
	if e != ok {
		b.t.Fatalf("Node(%d): %d", id, e)
	}
	return x
}

// word tells an element.
func (b bench) word(id int) string {
	b.t.Helper()
	x := b.node(id)
	if x.Kind != api.KElement || len(x.Attrs) != 1 {
		return "?" + strconv.Itoa(id)
	}
	word, stroke := x.Attrs[0].Value, ""
	if x.Attrs[0] == (api.Attr{Name: "of", Value: word}) {
		stroke = "'"
	}
	space, name := named(word)
	if stroke != "" {
		space = html
	}
	if x.Space != space || x.Name != name {
		return "?" + word
	}
	return word + stroke
}

// tell tells what is below a node: elements with what is in them in brackets (a template's contents in square ones).
func (b bench) tell(id int) string {
	b.t.Helper()
	var parts []string
	for _, kid := range b.a.Kids(id) {
		x := b.node(kid)
		if x.Kind == api.KText {
			parts = append(parts, strconv.Quote(x.Data))
			continue
		}
		s := b.word(kid)
		if x.Inner != none && b.node(x.Inner).First != none {
			s += "[" + b.tell(x.Inner) + "]"
		}
		if x.First != none {
			s += "(" + b.tell(kid) + ")"
		}
		parts = append(parts, s)
	}
	return strings.Join(parts, " ")
}

// tree asks for what is below the document, and that all links agree.
func (b bench) tree(want string) {
	b.t.Helper()
	b.below(0, want)
	if !show.Sound(b.a) {
		b.t.Errorf("the tree is not sound")
	}
}

func (b bench) below(id int, want string) {
	b.t.Helper()
	if got := b.tell(id); got != want {
		b.t.Errorf("the tree is %s\nwant        %s", got, want)
	}
}

// opened asks for what is in the stack.
func (b bench) opened(want string) {
	b.t.Helper()
	var words []string
	for i := range b.s.Len() {
		words = append(words, b.word(b.s.At(i)))
	}
	if got := strings.Join(words, " "); got != want {
		b.t.Errorf("the stack is %s\nwant         %s", got, want)
	}
}

// entered asks for what is in the list, each with the token that its word tells.
func (b bench) entered(want string) {
	b.t.Helper()
	var words []string
	for i := range b.l.Len() {
		x, _ := b.l.At(i)
		if x.Node == none {
			words = append(words, "|")
			continue
		}
		word := b.word(x.Node)
		if !reflect.DeepEqual(x.Token, tag(strings.TrimSuffix(word, "'"))) {
			word += " with " + x.Token.Name
		}
		words = append(words, word)
	}
	if got := strings.Join(words, " "); got != want {
		b.t.Errorf("the list is %s\nwant        %s", got, want)
	}
}

// closes runs for an end tag that is not another one.
func (b bench) closes(name string, errors int) {
	b.t.Helper()
	b.runs(name, false, false, errors, ok)
}

func (b bench) runs(name string, foster bool, another bool, errors int, e api.Errno) {
	b.t.Helper()
	x, n, err := adopt.Run(b.a, b.s, b.l, name, foster)
	if x != another || n != errors || err != e {
		b.t.Errorf("Run(%q, %v): %v, %d, %d; want %v, %d, %d", name, foster, x, n, err, another, errors, e)
	}
}

// state is all that there is to say of the tree, the stack and the list.
type state struct {
	nodes []api.Node
	open  []int
	list  []api.Entry
}

func (b bench) state() state {
	b.t.Helper()
	var w state
	for id := range b.a.Len() {
		w.nodes = append(w.nodes, b.node(id))
	}
	for i := range b.s.Len() {
		w.open = append(w.open, b.s.At(i))
	}
	for i := range b.l.Len() {
		x, _ := b.l.At(i)
		w.list = append(w.list, x)
	}
	return w
}

func (b bench) unchanged(what string, was state) {
	b.t.Helper()
	if !reflect.DeepEqual(b.state(), was) {
		b.t.Errorf("%s: something has changed", what)
	}
}

// fill makes nodes until there are so many.
func (b bench) fill(n int) {
	b.t.Helper()
	for b.a.Len() < n {
		b.got(b.a.Text(""))
	}
}

func gives(t *testing.T, what string, got api.Errno, want api.Errno) {
	t.Helper()
	if got != want {
		t.Fatalf("%s: %d; want %d", what, got, want)
	}
}
