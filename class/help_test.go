package class_test

import (
	"math/rand"
	"reflect"
	"regexp"
	"slices"
	"strings"
	"testing"
	"unicode/utf8"

	"hornbeam/api"
	"hornbeam/class"
	"hornbeam/node"
	"hornbeam/parse"
	"hornbeam/show"
)

// Errors, limits and namespaces by the document's numbers: a test leans on no constant that the program reads.
const (
	ok      = 0
	errForm = 4
	errZero = 7

	none     = -1
	maxNodes = 32768
	maxText  = 1048576
	maxAttrs = 1024
	maxInput = 1048576

	mathML = 1
	svg    = 2
)

// holders are the elements that have blocks, but for body.
var holders = strings.Fields("div section article main aside")

// thing is a node and what is below it, told without links.
type thing struct {
	kind  int
	space int
	name  string
	data  string
	attrs []api.Attr
	kids  []thing
}

func document(kids ...thing) thing { return thing{kind: api.KDocument, kids: kids} }
func text(s string) thing          { return thing{kind: api.KText, data: s} }
func comment(s string) thing       { return thing{kind: api.KComment, data: s} }
func doctype(name string) thing    { return thing{kind: api.KDoctype, name: name} }

func elem(name string, kids ...thing) thing {
	return thing{kind: api.KElement, name: name, kids: kids}
}

func (x thing) in(space int) thing {
	x.space = space
	return x
}

// with has attributes besides, of names and values in turn.
func (x thing) with(parts ...string) thing {
	x.attrs = slices.Clone(x.attrs)
	for i := 0; i < len(parts); i += 2 {
		x.attrs = append(x.attrs, api.Attr{Name: parts[i], Value: parts[i+1]})
	}
	return x
}

func (x thing) and(attrs ...api.Attr) thing {
	x.attrs = append(slices.Clone(x.attrs), attrs...)
	return x
}

// page is a document with an empty head, and these children of its body.
func page(kids ...thing) thing {
	return document(elem("html", elem("head"), elem("body", kids...)))
}

// headed is a document with these children of its head, and an empty body.
func headed(kids ...thing) thing {
	return document(elem("html", elem("head", kids...), elem("body")))
}

// within puts a thing into elements, the first one on the outside.
func within(x thing, names ...string) thing {
	for _, name := range slices.Backward(names) {
		x = elem(name, x)
	}
	return x
}

// The chapter's words, in other ones than the program's.
var (
	plainName   = regexp.MustCompile(`\A[a-z][a-z0-9-]{0,49}\z`)
	plainPoints = regexp.MustCompile(`\A[^\x00\r]*\z`)
	badComment  = regexp.MustCompile(`--|\A-?>|-\z`)
)

func isPlain(s string) bool { return utf8.ValidString(s) && plainPoints.MatchString(s) }

func (x thing) isHTML(names ...string) bool {
	return x.kind == api.KElement && x.space == 0 && slices.Contains(names, x.name)
}

func (x thing) hasPlainAttrs() bool {
	for i, attr := range x.attrs {
		if attr.Space != 0 || attr.Prefix != "" || !plainName.MatchString(attr.Name) || !isPlain(attr.Value) {
			return false
		}
		for _, y := range x.attrs[:i] {
			if y.Name == attr.Name {
				return false
			}
		}
	}
	return true
}

func (x thing) isText() bool { return x.kind == api.KText && x.data != "" && isPlain(x.data) }

func (x thing) isInline() bool {
	return x.isText() ||
		x.kind == api.KComment && isPlain(x.data) && !badComment.MatchString(x.data) ||
		x.isHTML("span") && x.hasPlainAttrs() && x.each(thing.isInline)
}

func (x thing) isBlock() bool {
	return x.isInline() ||
		x.isHTML(holders...) && x.hasPlainAttrs() && x.each(thing.isBlock) ||
		x.isHTML("p") && x.hasPlainAttrs() && x.each(thing.isInline)
}

func (x thing) each(rule func(thing) bool) bool {
	for i, kid := range x.kids {
		if !rule(kid) || i > 0 && kid.kind == api.KText && x.kids[i-1].kind == api.KText {
			return false
		}
	}
	return true
}

func (x thing) isHead() bool {
	if !x.isHTML("head") || len(x.attrs) > 0 || len(x.kids) > 1 {
		return false
	}
	if len(x.kids) == 0 {
		return true
	}
	t := x.kids[0]
	return t.isHTML("title") && len(t.attrs) == 0 && (len(t.kids) == 0 || len(t.kids) == 1 && t.kids[0].isText())
}

func (x thing) depth() int {
	n := 0
	for _, kid := range x.kids {
		n = max(n, 1+kid.depth())
	}
	return n
}

// isClass tells whether a document is in the class, by the chapter's words.
func (x thing) isClass() bool {
	if x.kind != api.KDocument || len(x.kids) != 1 || x.depth() > 200 {
		return false
	}
	top := x.kids[0]
	if !top.isHTML("html") || len(top.attrs) > 0 || len(top.kids) != 2 {
		return false
	}
	body := top.kids[1]
	return top.kids[0].isHead() && body.isHTML("body") && body.hasPlainAttrs() && body.each(thing.isBlock)
}

var (
	escapesText  = strings.NewReplacer("&", "&amp;", "\u00a0", "&nbsp;", "<", "&lt;", ">", "&gt;")
	escapesValue = strings.NewReplacer("&", "&amp;", "\u00a0", "&nbsp;", `"`, "&quot;")
)

// written tells the text of a document of the class: what is in its html.
func (x thing) written() string { return x.kids[0].inside() }

func (x thing) inside() string {
	var s strings.Builder
	for _, kid := range x.kids {
		switch kid.kind {
		case api.KText:
			s.WriteString(escapesText.Replace(kid.data))
		case api.KComment:
			s.WriteString("<!--" + kid.data + "-->")
		default:
			s.WriteString("<" + kid.name)
			for _, attr := range kid.attrs {
				s.WriteString(" " + attr.Name + `="` + escapesValue.Replace(attr.Value) + `"`)
			}
			s.WriteString(">" + kid.inside() + "</" + kid.name + ">")
		}
	}
	return s.String()
}

// maker makes nodes by layer 1, which all must be made.
type maker struct {
	t *testing.T
	*node.Arena
}

func newMaker(t *testing.T) maker {
	t.Helper()
	return maker{t, node.New()}
}

func (m maker) got(id int, e api.Errno) int {
	m.t.Helper()
	if e != ok {
		m.t.Fatalf("a node was refused: %d", e)
	}
	return id
}

func (m maker) link(parent, child, before int) {
	m.t.Helper()
	if e := m.Link(parent, child, before); e != ok {
		m.t.Fatalf("Link(%d, %d, %d): %d", parent, child, before, e)
	}
}

// one makes the node alone; a document is there already.
func (m maker) one(x thing) int {
	m.t.Helper()
	switch x.kind {
	case api.KDocument:
		return 0
	case api.KElement:
		return m.got(m.Element(x.space, x.name, x.attrs))
	case api.KText:
		return m.got(m.Text(x.data))
	case api.KComment:
		return m.got(m.Comment(x.data))
	}
	return m.got(m.Doctype(x.name, x.data, ""))
}

// make makes a node and what is below it, from its beginning on.
func (m maker) make(x thing) int {
	m.t.Helper()
	id := m.one(x)
	for _, kid := range x.kids {
		m.link(id, m.make(kid), none)
	}
	return id
}

// back makes the same from its end on, with nodes of no tree in between, so that the numbers tell nothing.
func (m maker) back(x thing) int {
	m.t.Helper()
	m.make(elem("ul", text("")).with("A", "\x00"))
	id := m.one(x)
	before := none
	for _, kid := range slices.Backward(x.kids) {
		made := m.back(kid)
		m.link(id, made, before)
		before = made
	}
	return id
}

func arenaOf(t *testing.T, x thing) *node.Arena {
	t.Helper()
	m := newMaker(t)
	m.make(x)
	return m.Arena
}

// all is all that an arena tells of its nodes.
func all(a *node.Arena) []api.Node {
	var l []api.Node
	for id := range a.Len() {
		x, _ := a.Node(id)
		l = append(l, x)
	}
	return l
}

func short(s string) string { return s[:min(len(s), 300)] }

// checkClass makes a document, and asks whether it is in the class, what its text is, and whether it comes back.
func checkClass(t *testing.T, what string, x thing, want bool) {
	t.Helper()
	if x.isClass() != want {
		t.Fatalf("%s: the plain way says %v", what, !want)
	}
	checkPlainly(t, what, x)
}

// checkPlainly asks the same where the plain way knows the answer.
func checkPlainly(t *testing.T, what string, x thing) {
	t.Helper()
	want := x.isClass()
	m, n := newMaker(t), newMaker(t)
	m.make(x)
	checkAnswers(t, what, m.Arena, x, want)
	if len(m.Kids(0)) < 100 && m.Len() < 2000 {
		n.back(x)
		checkAnswers(t, what+", made from its end on", n.Arena, x, want)
	}
	if want {
		checkComesBack(t, what, m.Arena, x.written())
	}
}

func checkAnswers(t *testing.T, what string, a *node.Arena, x thing, want bool) {
	t.Helper()
	before := all(a)
	if class.In(a) != want {
		t.Fatalf("%s: In: %v", what, !want)
	}
	s, e := class.Text(a)
	if want && (s != x.written() || e != ok) {
		t.Fatalf("%s: Text: %q, %d", what, short(s), e)
	}
	if !want && (s != "" || e != errForm) {
		t.Fatalf("%s: Text of what is not in the class: %q, %d", what, short(s), e)
	}
	if !reflect.DeepEqual(all(a), before) {
		t.Fatalf("%s: the arena has changed", what)
	}
}

// checkComesBack parses a document's text at once and in chunks, and holds what comes of it against the document.
func checkComesBack(t *testing.T, what string, a *node.Arena, s string) {
	t.Helper()
	b, is := class.Back(s)
	checkSame(t, what+", at once", a, b)
	again, e := class.Text(b)
	if !is || !class.In(b) || again != s || e != ok {
		t.Fatalf("%s: Back: %v; the text of that: %q, %d", what, is, short(again), e)
	}
	if len(s) < 100 {
		for i := range len(s) {
			checkSame(t, what+", cut in two", a, inChunks(t, s[:i], s[i:]))
		}
	}
	if len(s) < 20000 {
		checkSame(t, what+", byte by byte", a, inChunks(t, strings.Split(s, "")...))
	}
	r := rand.New(rand.NewSource(int64(len(s))))
	checkSame(t, what+", in chunks", a, inChunks(t, randomChunks(r, s)...))
}

func checkSame(t *testing.T, what string, a, b *node.Arena) {
	t.Helper()
	if show.Same(a, 0, b, 0) {
		return
	}
	want, _ := show.Show(a, 0)
	got, _ := show.Show(b, 0)
	t.Fatalf("%s: it comes back as another one:\n%s; want\n%s", what, short(got), short(want))
}

func inChunks(t *testing.T, chunks ...string) *node.Arena {
	t.Helper()
	p := parse.New("utf-8", false)
	for _, s := range chunks {
		if e := p.Feed([]byte(s)); e != ok {
			t.Fatalf("Feed: %d", e)
		}
	}
	p.End()
	return p.Tree()
}

func randomChunks(r *rand.Rand, s string) []string {
	cuts := []int{0, len(s)}
	for range r.Intn(20) + len(s)/500000 {
		cuts = append(cuts, r.Intn(len(s)+1))
	}
	slices.Sort(cuts)
	var l []string
	for i := range len(cuts) - 1 {
		l = append(l, s[cuts[i]:cuts[i+1]])
	}
	return l
}

func pick(r *rand.Rand, l ...string) string { return l[r.Intn(len(l))] }
