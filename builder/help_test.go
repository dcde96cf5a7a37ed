package builder_test

import (
	"reflect"
	"strconv"
	"strings"
	"testing"

	"hornbeam/api"
	"hornbeam/builder"
	"hornbeam/lexer"
	"hornbeam/node"
	"hornbeam/show"
)

// Errors, limits, kinds and modes by the document's numbers: a test leans on no constant that the program reads.
const (
	ok       = 0
	errArg   = 1
	errLong  = 2
	errState = 5
	errZero  = 7
	errFull  = 9

	none     = -1
	maxNodes = 32768
	maxText  = 1048576
	maxAttrs = 1024

	html   = 0
	mathML = 1
	svg    = 2

	doctype   = 0
	start     = 1
	end       = 2
	comment   = 3
	character = 4
	eof       = 5

	noQuirks = 0
	limited  = 1
	quirks   = 2

	minInt = -1 << 63
	maxInt = 1<<63 - 1
)

// States of the lexer.
const (
	rcdata    = 1
	rawtext   = 2
	script    = 3
	plaintext = 4
)

// Modes.
const (
	initial   = 0
	inBody    = 6
	tableText = 9
	inCell    = 14
)

// bench is a builder with its arena, and the lexer that it is fed by.
type bench struct {
	t *testing.T
	a *node.Arena
	b *builder.Builder
	x *lexer.Lexer
}

func newBench(t *testing.T) bench {
	t.Helper()
	return benchOf(t, false, "")
}

// benchOf is a bench of a document, or of what would be in a context element.
func benchOf(t *testing.T, scripts bool, context string) bench {
	t.Helper()
	a := node.New()
	if context == "" {
		b, e := builder.New(a, scripts)
		gives(t, "New", e, ok)
		return bench{t, a, b, lexer.New()}
	}
	b, e := builder.Fragment(a, scripts, context)
	gives(t, "Fragment", e, ok)
	w := bench{t, a, b, lexer.New()}
	w.x.Name(context)
	w.obey()
	return w
}

// feed brings a text, code point by code point, as the parser does.
func (w bench) feed(s string) {
	w.t.Helper()
	for _, c := range s {
		w.put(c)
	}
}

func (w bench) feedEnd() {
	w.t.Helper()
	w.put(api.EOF)
}

func (w bench) put(c rune) {
	w.t.Helper()
	w.x.Sections(w.b.Foreign())
	w.x.Put(c)
	for _, t := range w.x.Tokens() {
		gives(w.t, "Token", w.b.Token(t), ok)
	}
	w.obey()
}

// obey gives the lexer the state that is wanted.
func (w bench) obey() {
	if state := w.b.Want(); state >= 0 {
		w.x.Set(state)
	}
}

// take brings tokens that no lexer made.
func (w bench) take(l ...api.Token) {
	w.t.Helper()
	for _, t := range l {
		gives(w.t, "Token", w.b.Token(t), ok)
	}
}

func (w bench) refuses(t api.Token, e api.Errno) {
	w.t.Helper()
	was := w.state()
	if got := w.b.Token(t); got != e {
		w.t.Fatalf("Token: %d; want %d", got, e)
	}
	if !reflect.DeepEqual(w.state(), was) {
		w.t.Errorf("a token that was refused has changed something")
	}
}

func opens(name string, attrs ...string) api.Token {
	return api.Token{Kind: start, Name: name, Attrs: attrsOf(attrs)}
}

func closes(name string) api.Token {
	return api.Token{Kind: end, Name: name}
}

func char(c rune) api.Token {
	return api.Token{Kind: character, Char: c}
}

// attrsOf are attributes of names and values in turn.
func attrsOf(l []string) []api.Attr {
	var attrs []api.Attr
	for i := 0; i+1 < len(l); i += 2 {
		attrs = append(attrs, api.Attr{Name: l[i], Value: l[i+1]})
	}
	return attrs
}

func (w bench) node(id int) api.Node {
	w.t.Helper()
	x, e := w.a.Node(id)
	if e != ok {
		w.t.Fatalf("Node(%d): %d", id, e)
	}
	return x
}

// word tells an element.
func (w bench) word(id int) string {
	w.t.Helper()
	x := w.node(id)
	if x.Kind != api.KElement {
		return "?" + strconv.Itoa(id)
	}
	return []string{html: "", mathML: "math:", svg: "svg:"}[x.Space] + x.Name
}

// tell tells what is below a node: elements with their attributes in curly brackets, a template's contents in square
// ones, and children in round ones.
func (w bench) tell(id int) string {
	w.t.Helper()
	var parts []string
	for _, kid := range w.a.Kids(id) {
		parts = append(parts, w.tellOne(kid))
	}
	return strings.Join(parts, " ")
}

func (w bench) tellOne(id int) string {
	w.t.Helper()
	x := w.node(id)
	switch x.Kind {
	case api.KText:
		return strconv.Quote(x.Data)
	case api.KComment:
		return "<!--" + x.Data + "-->"
	case api.KDoctype:
		return tellDoctype(x)
	}
	s := w.word(id) + tellAttrs(x.Attrs)
	if x.Inner != none && w.node(x.Inner).First != none {
		s += "[" + w.tell(x.Inner) + "]"
	}
	if x.First != none {
		s += "(" + w.tell(id) + ")"
	}
	return s
}

func tellDoctype(x api.Node) string {
	if x.Data == "" && x.System == "" {
		return "<!" + x.Name + ">"
	}
	return "<!" + x.Name + " " + strconv.Quote(x.Data) + " " + strconv.Quote(x.System) + ">"
}

func tellAttrs(attrs []api.Attr) string {
	if len(attrs) == 0 {
		return ""
	}
	var parts []string
	for _, x := range attrs {
		parts = append(parts, []string{0: "", 3: "xlink ", 4: "xml ", 5: "xmlns "}[x.Space]+x.Name+"="+x.Value)
	}
	return "{" + strings.Join(parts, " ") + "}"
}

// tree asks for what is below the document, and that all links agree.
func (w bench) tree(want string) {
	w.t.Helper()
	if got := w.tell(0); got != want {
		w.t.Errorf("the tree is %s\nwant        %s", got, want)
	}
	if !show.Sound(w.a) {
		w.t.Errorf("the tree is not sound")
	}
}

// opened tells the stack.
func (w bench) opened() string {
	w.t.Helper()
	var words []string
	for _, id := range w.b.Open() {
		words = append(words, w.word(id))
	}
	return strings.Join(words, " ")
}

// entered tells the list, markers as strokes.
func (w bench) entered() string {
	w.t.Helper()
	var words []string
	for _, x := range w.b.Active() {
		if x.Node == none {
			words = append(words, "|")
		} else {
			words = append(words, w.word(x.Node))
		}
	}
	return strings.Join(words, " ")
}

func (w bench) isOver() {
	w.t.Helper()
	if !w.b.Over() || len(w.b.Open()) != 0 || w.b.Foreign() {
		w.t.Errorf("behind the end: over %v, the stack %s", w.b.Over(), w.opened())
	}
}

func (w bench) has(errors int) {
	w.t.Helper()
	if got := w.b.Errors(); got != errors {
		w.t.Errorf("%d errors; want %d", got, errors)
	}
}

// state is all that there is to say of a builder and its arena, but for what is told once.
type state struct {
	nodes               []api.Node
	open                []int
	list                []api.Entry
	mode, quirk, errors int
	foreign, over       bool
}

func (w bench) state() state {
	w.t.Helper()
	s := state{open: w.b.Open(), list: w.b.Active(), mode: w.b.Mode(), quirk: w.b.Quirk(), errors: w.b.Errors(),
		foreign: w.b.Foreign(), over: w.b.Over()}
	for id := range w.a.Len() {
		s.nodes = append(s.nodes, w.node(id))
	}
	return s
}

// fill makes nodes until there are so many.
func (w bench) fill(n int) {
	w.t.Helper()
	for w.a.Len() < n {
		if _, e := w.a.Text(""); e != ok {
			w.t.Fatalf("Text: %d", e)
		}
	}
}

// place is where rows begin: behind a text, with a tree that has theirs at the sign %.
type place struct {
	begin   string
	shell   string
	scripts bool
	context string
}

// row is a text and what it leads to: the tree, the stack, the list, the mode, how many errors it makes, and how many
// more the end makes.
type row struct {
	in     string
	tree   string
	open   string
	list   string
	mode   int
	errors int
	atEnd  int
}

// around is the tree of a place with a row's in it. An element that has nothing in it is told without brackets.
func (p place) around(tree string) string {
	if tree == "" {
		for _, empty := range []string{"(%)", "[%]"} {
			if strings.Contains(p.shell, empty) {
				return strings.Replace(p.shell, empty, "", 1)
			}
		}
	}
	return strings.Replace(p.shell, "%", tree, 1)
}

func leads(t *testing.T, p place, rows []row) {
	t.Helper()
	for _, r := range rows {
		t.Run(r.in, func(t *testing.T) {
			t.Helper()
			w := benchOf(t, p.scripts, p.context)
			w.feed(p.begin)
			before := w.b.Errors()
			w.feed(r.in)
			w.tree(p.around(r.tree))
			if open, list := w.opened(), w.entered(); open != r.open || list != r.list {
				t.Errorf("the stack is %s, the list %s\nwant         %s, the list %s", open, list, r.open, r.list)
			}
			if w.b.Mode() != r.mode || w.b.Over() {
				t.Errorf("the mode is %d; want %d", w.b.Mode(), r.mode)
			}
			w.has(before + r.errors)
			w.feedEnd()
			w.isOver()
			w.has(before + r.errors + r.atEnd)
			w.refuses(api.Token{Kind: eof}, errState)
		})
	}
}

func gives(t *testing.T, what string, got api.Errno, want api.Errno) {
	t.Helper()
	if got != want {
		t.Fatalf("%s: %d; want %d", what, got, want)
	}
}
