package builder_test

import (
	"slices"
	"strings"
	"testing"

	"hornbeam/api"
	"hornbeam/builder"
	"hornbeam/node"
	"hornbeam/show"
)

func fragment(t *testing.T, a *node.Arena, scripts bool, name string) *builder.Builder {
	t.Helper()
	b, e := builder.Fragment(a, scripts, name)
	gives(t, "Fragment", e, ok)
	return b
}

// P16.1: a new builder.
func TestNew(t *testing.T) {
	for _, scripts := range []bool{false, true} {
		w := benchOf(t, scripts, "")
		if w.a.Len() != 1 || w.b.Mode() != initial || w.b.Quirk() != noQuirks || w.b.Errors() != 0 || w.b.Over() || w.b.Foreign() ||
			len(w.b.Open()) != 0 || len(w.b.Active()) != 0 {
			t.Errorf("a new builder: the mode is %d, the stack %s", w.b.Mode(), w.opened())
		}
		w.wants("at first", -1)
		w.isReady("at first", none)
	}
}

// P16.1: a builder of a document that has children already, and of an arena that has other nodes.
func TestNewOfAnArenaWithNodes(t *testing.T) {
	w := newBench(t)
	w.feed("<!--x-->")
	w.fill(10)
	b, e := builder.New(w.a, false)
	gives(t, "New", e, ok)
	w.b = b
	w.take(opens("p"))
	w.tree("<!--x--> html(head body(p))")
	if !slices.Equal(b.Open(), []int{10, 12, 13}) {
		t.Errorf("the stack is %v", b.Open())
	}
}

// P16.1: a fragment's nodes: the context element, without a parent, and html, the document's last child.
func TestFragmentNodes(t *testing.T) {
	for _, c := range []struct {
		name string
		mode int
		html int
	}{
		{"div", 6, 2}, {"td", 6, 2}, {"th", 6, 2}, {"tr", 13, 2}, {"tbody", 12, 2}, {"thead", 12, 2}, {"tfoot", 12, 2}, {"caption", 10, 2}, {"colgroup", 11, 2}, {"table", 8, 2},
		{"template", 17, 3}, {"head", 6, 2}, {"body", 6, 2}, {"frameset", 19, 2}, {"html", 2, 2}, {"select", 15, 2}, {"form", 6, 2}, {"x", 6, 2}, {"SELECT", 6, 2}, {"é\x00\xff ", 6, 2},
		{strings.Repeat("x", 100), 6, 2}, {strings.Repeat("é", 50), 6, 2},
	} {
		w := newBench(t)
		w.b = fragment(t, w.a, false, c.name)
		x := w.node(1)
		if x.Kind != api.KElement || x.Space != html || x.Name != c.name || len(x.Attrs) != 0 || x.Parent != none || x.First != none {
			t.Errorf("%q: the context element is %v", c.name, x)
		}
		w.tree("html")
		if w.a.Len() != c.html+1 || !slices.Equal(w.b.Open(), []int{c.html}) || len(w.b.Active()) != 0 {
			t.Errorf("%q: %d nodes, the stack is %v", c.name, w.a.Len(), w.b.Open())
		}
		if w.b.Mode() != c.mode || w.b.Errors() != 0 || w.b.Over() || w.b.Foreign() {
			t.Errorf("%q: the mode is %d; want %d", c.name, w.b.Mode(), c.mode)
		}
	}
}

// P16.1: html is the last child of a document that has others.
func TestFragmentIsLast(t *testing.T) {
	w := newBench(t)
	w.feed("<!DOCTYPE html><!--x-->")
	w.b = fragment(t, w.a, false, "div")
	w.take(char('a'))
	w.tree(`<!html> <!--x--> html("a")`)
}

// P16.1: names that can't be, ahead of an arena that is full; nothing is made.
func TestFragmentErrors(t *testing.T) {
	w := newBench(t)
	wrong := []string{"", strings.Repeat("x", 101), strings.Repeat("é", 51), strings.Repeat("x", maxText+1)}
	refused := func(name string, want api.Errno) {
		t.Helper()
		n := w.a.Len()
		if b, e := builder.Fragment(w.a, false, name); b != nil || e != want || w.a.Len() != n {
			t.Errorf("Fragment(%.10q): %v, %d; want %d; %d nodes", name, b, e, want, w.a.Len())
		}
	}
	for _, n := range []int{1, maxNodes - 64, maxNodes - 63, maxNodes} {
		w.fill(n)
		for _, name := range wrong {
			refused(name, errArg)
		}
	}
	refused("div", errFull)
	refused("template", errFull)
	w.tree("")
}

// P16.1: the last arena that a fragment's builder can be made of, and the first that none can.
func TestFragmentOfAnArenaThatIsNearlyFull(t *testing.T) {
	for _, name := range []string{"div", "template", "form"} {
		w := newBench(t)
		w.fill(maxNodes - 64)
		b := fragment(t, w.a, false, name)
		gives(t, "Token", b.Token(char('a')), errFull)
		w = newBench(t)
		w.fill(maxNodes - 63)
		if b, e := builder.Fragment(w.a, false, name); b != nil || e != errFull {
			t.Errorf("Fragment: %v, %d", b, e)
		}
		if b, e := builder.New(w.a, false); b == nil || e != ok {
			t.Errorf("New: %v, %d", b, e)
		}
	}
}

// P16.2: kinds that are none, in every mode.
func TestNoKind(t *testing.T) {
	for _, s := range []string{"", "<!DOCTYPE html>", "<html>", "<head>", "<p>", "<textarea>", "<table>", "<table>a", "<select>", "<template>", "<frameset>", "<svg>", "<pre>"} {
		w := newBench(t)
		w.feed(s)
		for _, kind := range []int{-1, 6, 7, 256, 1 << 32, minInt, maxInt} {
			w.refuses(api.Token{Kind: kind}, errArg)
			w.refuses(api.Token{Kind: kind, Name: strings.Repeat("x", maxText+1), Attrs: make([]api.Attr, maxAttrs+1)}, errArg)
		}
	}
}

// P16.2: tokens behind the end, wrong ones too.
func TestBehindTheEnd(t *testing.T) {
	for _, context := range []string{"", "div", "template", "frameset"} {
		w := benchOf(t, false, context)
		w.feed("<p>a")
		w.feedEnd()
		w.isOver()
		for _, x := range []api.Token{char('a'), opens("p"), closes("p"), {Kind: eof}, {Kind: comment}, {Kind: doctype}, {Kind: 9}, {Kind: start, Attrs: make([]api.Attr, maxAttrs+1)}} {
			w.refuses(x, errState)
		}
		w.fill(maxNodes)
		w.refuses(char('a'), errState)
	}
}

// P16.3, P4: what is answered is new memory, and what is handed in is not kept.
func TestListsAreTheirOwners(t *testing.T) {
	w := newBench(t)
	attrs := []api.Attr{{Name: "a", Value: "1"}, {Name: "c", Value: "2"}}
	w.feed("<!DOCTYPE html>")
	w.take(api.Token{Kind: start, Name: "html", Attrs: attrs}, api.Token{Kind: start, Name: "body", Attrs: attrs}, api.Token{Kind: start, Name: "p", Attrs: attrs},
		api.Token{Kind: start, Name: "b", Attrs: attrs}, api.Token{Kind: start, Name: "svg", Attrs: attrs})
	attrs[0].Value = "changed"
	w.take(closes("svg"), closes("p"), char('x'))
	w.tree(`<!html> html{a=1 c=2}(head body{a=1 c=2}(p{a=1 c=2}(b{a=1 c=2}(svg:svg{a=1 c=2})) b{a=1 c=2}("x")))`)
	open, list := w.b.Open(), w.b.Active()
	open[0], list[0].Node, list[0].Token.Attrs[0].Value = 9, 9, "changed"
	_ = append(open[:1], 7)
	if w.opened() != "html body b" || w.entered() != "b" || w.b.Active()[0].Token.Attrs[0].Value != "1" {
		t.Errorf("the stack is %s, the list %s", w.opened(), w.entered())
	}
}

// P16.3: the list has the tokens of its elements.
func TestActive(t *testing.T) {
	w := newBench(t)
	w.feed("<!DOCTYPE html><b x=1><object><i y=2>")
	l := w.b.Active()
	if len(l) != 3 || l[0].Token.Name != "b" || l[1].Node != none || l[2].Token.Kind != start || len(l[2].Token.Attrs) != 1 || l[2].Token.Attrs[0].Name != "y" {
		t.Errorf("the list is %v", l)
	}
	if l[0].Node != w.b.Open()[2] || l[2].Node != w.b.Open()[4] {
		t.Errorf("the list is %v, the stack %v", l, w.b.Open())
	}
}

// P1: a builder that was copied as a value is the same builder.
func TestCopiedAsAValue(t *testing.T) {
	w := newBench(t)
	w.feed("<!DOCTYPE html><p>")
	value := *w.b
	gives(t, "Token", value.Token(opens("b")), ok)
	gives(t, "Token", w.b.Token(char('a')), ok)
	gives(t, "Token", value.Token(closes("p")), ok)
	gives(t, "Token", w.b.Token(char('c')), ok)
	w.tree(`<!html> html(head body(p(b("a")) b("c")))`)
	if value.Errors() != 1 || w.b.Errors() != 1 || !slices.Equal(value.Open(), w.b.Open()) {
		t.Errorf("errors: %d, %d", value.Errors(), w.b.Errors())
	}
}

// P5: builders know nothing of each other, though they work on one arena.
func TestTwoBuilders(t *testing.T) {
	w := newBench(t)
	w.feed("<!DOCTYPE html><p>a")
	other := fragment(t, w.a, false, "div")
	gives(t, "Token", other.Token(char('x')), ok)
	w.feed("c")
	gives(t, "Token", other.Token(char('y')), ok)
	w.tree(`<!html> html(head body(p("ac"))) html("xy")`)
	if w.b.Errors() != 0 || len(other.Open()) != 1 {
		t.Errorf("the stack is %v", other.Open())
	}
}

// P16.5: the example pages.
func TestExamples(t *testing.T) {
	for _, c := range []struct{ in, body string }{
		{"<!DOCTYPE html><p>a<table>b", `p("a") "b" table`},
		{"<!DOCTYPE html><b><p>1</b>2", `b p(b("1") "2")`},
	} {
		w := newBench(t)
		w.feed(c.in)
		w.feedEnd()
		w.tree("<!html> html(head body(" + c.body + "))")
		if !show.Sound(w.a) {
			t.Error("not sound")
		}
	}
}
