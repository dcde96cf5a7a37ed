package stack_test

import (
	"slices"
	"strings"
	"testing"

	"hornbeam/api"
	"hornbeam/node"
	"hornbeam/stack"
)

// Errors, namespaces and kinds by the document's numbers: a test leans on no constant that the program reads.
const (
	ok      = 0
	errArg  = 1
	errNone = 6
	errZero = 7

	none = -1

	html   = 0
	mathML = 1
	svg    = 2

	scope       = 0
	listScope   = 1
	buttonScope = 2
	tableScope  = 3
	selectScope = 4

	minInt = -1 << 63
	maxInt = 1<<63 - 1
)

// The chapter's lists, word for word.
var (
	htmlBorders = list("applet, caption, html, table, td, th, marquee, object, template")
	mathNames   = list("mi, mo, mn, ms, mtext, annotation-xml")
	svgNames    = list("foreignObject, desc, title")
	specials    = list("address, applet, area, article, aside, base, basefont, bgsound, blockquote, body, br, button, " +
		"caption, center, col, colgroup, dd, details, dir, div, dl, dt, embed, fieldset, figcaption, figure, footer, " +
		"form, frame, frameset, h1, h2, h3, h4, h5, h6, head, header, hgroup, hr, html, iframe, img, input, keygen, " +
		"li, link, listing, main, marquee, menu, meta, nav, noembed, noframes, noscript, object, ol, p, param, " +
		"plaintext, pre, script, search, section, select, source, style, summary, table, tbody, td, template, " +
		"textarea, tfoot, th, thead, title, tr, track, ul, wbr, xmp")
	implied    = list("dd, dt, li, optgroup, option, p, rb, rp, rt, rtc")
	tableParts = list("caption, colgroup, tbody, td, tfoot, th, thead, tr")
)

var (
	kinds      = []int{scope, listScope, buttonScope, tableScope, selectScope}
	otherKinds = []int{-1, 5, -2, 6, 256, 260, 1 << 32, 1<<32 + 4, minInt, minInt + 4, maxInt}
	spaces     = []int{html, mathML, svg}
	places     = []int{-1, -2, minInt, 40000, 1 << 32, maxInt}
)

func list(s string) []string { return strings.Split(s, ", ") }

// everyName is each name of each list, once, with some that stand in none.
func everyName() []string {
	l := slices.Concat(htmlBorders, mathNames, svgNames, specials, implied, tableParts,
		list("ol, ul, button, optgroup, option, a, b, span, svg, math, x, foreignobject, Desc, ruby, dialog, image"))
	slices.Sort(l)
	return slices.Compact(l)
}

// otherSizes are the same letters as a name's in other sizes: large ones, the first one large, small ones.
func otherSizes(s string) []string {
	l := []string{strings.ToUpper(s), strings.ToUpper(s[:1]) + s[1:], strings.ToLower(s)}
	return slices.DeleteFunc(l, func(x string) bool { return x == s })
}

// near are names that are nearly s: a sign more, a sign less, another one.
func near(s string) []string {
	return append(otherSizes(s), s+" ", " "+s, s+"x", "x"+s, s[1:]+"\x00", s[:len(s)-1]+"\xff", s+"\u0301", s+s)
}

// isBorder is the chapter's reading of the borders, list by list.
func isBorder(space int, name string, kind int) bool {
	is := space == html && slices.Contains(htmlBorders, name) ||
		space == mathML && slices.Contains(mathNames, name) ||
		space == svg && slices.Contains(svgNames, name)
	switch kind {
	case scope:
		return is
	case listScope:
		return is || space == html && (name == "ol" || name == "ul")
	case buttonScope:
		return is || space == html && name == "button"
	case tableScope:
		return space == html && (name == "html" || name == "table" || name == "template")
	}
	return space != html || name != "optgroup" && name != "option"
}

func isSpecial(space int, name string) bool {
	return space == html && slices.Contains(specials, name) ||
		space == mathML && slices.Contains(mathNames, name) ||
		space == svg && slices.Contains(svgNames, name)
}

// bench is an arena with a stack of its elements; what is made and pushed in it must be taken.
type bench struct {
	t *testing.T
	a *node.Arena
	s *stack.Stack
}

func newBench(t *testing.T) bench {
	t.Helper()
	a := node.New()
	return bench{t, a, newStack(t, a)}
}

func newStack(t *testing.T, a *node.Arena) *stack.Stack {
	t.Helper()
	s, e := stack.New(a)
	if s == nil || e != ok {
		t.Fatalf("New: %v, %d", s, e)
	}
	return s
}

func (b bench) elem(space int, name string) int {
	b.t.Helper()
	id, e := b.a.Element(space, name, nil)
	if e != ok {
		b.t.Fatalf("Element(%d, %q): %d", space, name, e)
	}
	return id
}

func (b bench) push(space int, name string) int {
	b.t.Helper()
	id := b.elem(space, name)
	gives(b.t, "Push of "+name, b.s.Push(id), ok)
	return id
}

// grow pushes elements of HTML.
func (b bench) grow(names ...string) []int {
	b.t.Helper()
	var ids []int
	for _, name := range names {
		ids = append(ids, b.push(html, name))
	}
	return ids
}

// others are numbers that are no element: one of each kind of nodes but elements, and numbers that are no node.
func (b bench) others() []int {
	b.t.Helper()
	text, _ := b.a.Text("p")
	comment, _ := b.a.Comment("p")
	doctype, _ := b.a.Doctype("p", "", "")
	fragment, _ := b.a.Fragment()
	contents := b.elem(html, "template") + 1
	return []int{0, text, comment, doctype, fragment, contents, none, -2, b.a.Len(), b.a.Len() + 1, 32768, 1 << 32, minInt, maxInt}
}

func gives(t *testing.T, what string, got api.Errno, want api.Errno) {
	t.Helper()
	if got != want {
		t.Errorf("%s: %d; want %d", what, got, want)
	}
}

// holds asks that a stack has these elements and no other, by all calls that tell of them.
func holds(t *testing.T, s *stack.Stack, want ...int) {
	t.Helper()
	if s.Len() != len(want) {
		t.Fatalf("Len: %d; want %d", s.Len(), len(want))
	}
	top := none
	for i, id := range want {
		if s.At(i) != id || s.Find(id) != i {
			t.Fatalf("At(%d): %d, Find(%d): %d; want %v", i, s.At(i), id, s.Find(id), want)
		}
		top = id
	}
	if s.Top() != top {
		t.Errorf("Top: %d; want %d", s.Top(), top)
	}
	for _, i := range append(places, len(want), len(want)+1) {
		if s.At(i) != none {
			t.Errorf("At(%d) of %d elements: %d", i, len(want), s.At(i))
		}
	}
}

func inScope(t *testing.T, s *stack.Stack, name string, kind int, want bool) {
	t.Helper()
	if s.Scope(name, kind) != want {
		t.Errorf("Scope(%q, %d): %v", name, kind, !want)
	}
}

func inNodeScope(t *testing.T, s *stack.Stack, id int, kind int, want bool) {
	t.Helper()
	if s.NodeScope(id, kind) != want {
		t.Errorf("NodeScope(%d, %d): %v", id, kind, !want)
	}
}
