package adopt_test

import (
	"reflect"
	"strings"
	"testing"

	"hornbeam/api"
)

// P15.1: with MaxNodes - 64 nodes all is as below, with one more nothing is done, whatever the tag would lead to.
func TestFull(t *testing.T) {
	for _, c := range []struct {
		words, name string
		another     bool
		errors      int
		opened      string
		entered     string
	}{
		{"body b", "b", false, 0, "body", ""},
		{"body b*", "b", false, 0, "body", ""},
		{"body b* i", "b", false, 1, "body", ""},
		{"body b* i* p", "b", false, 1, "body i' p", "i'"},
		{"body i*", "b", true, 0, "body i", "i"},
		{"body b* table", "b", false, 1, "body b table", "b"},
		{"", "b", true, 0, "", ""},
	} {
		b := newBench(t)
		b.open(c.words)
		b.fill(maxNodes - 64)
		b.runs(c.name, false, c.another, c.errors, ok)
		b.opened(c.opened)
		b.entered(c.entered)

		for _, n := range []int{63, 0} {
			b = newBench(t)
			b.open(c.words)
			b.fill(maxNodes - n)
			was := b.state()
			b.runs(c.name, false, false, 0, errFull)
			b.runs(c.name, true, false, 0, errFull)
			b.unchanged("a full arena", was)
		}
	}
}

// P15.3: at most 32 new elements.
func TestMostNewElements(t *testing.T) {
	b := newBench(t)
	b.open("body b*" + strings.Repeat(" i* u* em* s* div", 9))
	nodes := b.a.Len()
	b.closes("b", 8)
	if n := b.a.Len() - nodes; n != 32 {
		t.Errorf("%d new elements", n)
	}
	b.opened("body" + strings.Repeat(" u' em' s' div", 8) + " b' i u em s div")
	b.entered(strings.Repeat("u' em' s' ", 8) + "b' i u em s")
}

// P15.1, P15.3: each of them a template: 64 new nodes, for which there is room.
func TestMostNewNodes(t *testing.T) {
	b := newBench(t)
	b.open("body template*")
	for range 9 {
		for _, word := range []string{"i", "u", "em", "s"} {
			b.enter(b.open(word)[0], tag("template"))
		}
		b.open("div")
	}
	b.fill(maxNodes - 64)
	b.closes("template", 8)
	if b.a.Len() != maxNodes {
		t.Errorf("%d nodes", b.a.Len())
	}
	b.opened("body" + strings.Repeat(" template' template' template' div", 8) + " template' i u em s div")
	if b.l.Len() != 8*3+1+4 {
		t.Errorf("%d entries", b.l.Len())
	}
	b.tree(b.tell(0))
}

// refused are tokens of which no element can be made: one attribute, or one byte of a text, above the limit.
func refused() []api.Token {
	long := strings.Repeat("a", maxText+1)
	return []api.Token{
		{Name: "i", Attrs: make([]api.Attr, maxAttrs+1)},
		{Name: long},
		{Name: "i", Attrs: []api.Attr{{Name: long}}},
		{Name: "i", Attrs: []api.Attr{{Value: long}}},
		{Name: "i", Attrs: []api.Attr{{Prefix: long}}},
	}
}

// asBefore asks that all is as it was, but for new nodes that nothing leads to.
func (b bench) asBefore(was state) {
	b.t.Helper()
	now := b.state()
	for _, x := range now.nodes[len(was.nodes):] {
		if x.Parent != none || x.First != none {
			b.t.Errorf("a new node is linked: %v", x)
		}
	}
	now.nodes = now.nodes[:len(was.nodes)]
	if !reflect.DeepEqual(now, was) {
		b.t.Errorf("something has changed")
	}
}

// P2, Limits: an entry's token that is needed and is above a limit: ErrLong, and what was done is undone.
func TestTokenAboveALimit(t *testing.T) {
	for _, x := range refused() {
		for _, words := range []string{
			"html body b* q p",
			"html body b* i* q em* span p",
			"html body b* i* span em* p q div",
			"html body b* i* u* em* s* a* p tt* span q div",
			"html body b* q p div em",
			"b* i* p q div",
		} {
			b := newBench(t)
			for _, word := range strings.Fields(words) {
				id := b.open(word)[0]
				b.text(word)
				if word == "q" {
					b.enter(id, x)
				}
			}
			b.child(b.s.At(0), "hr")
			was := b.state()
			b.runs("b", false, false, 0, errLong)
			b.runs("b", true, false, 0, errLong)
			b.asBefore(was)
		}
	}
}

// P2, Limits: the token of F itself.
func TestTokenOfFAboveALimit(t *testing.T) {
	for _, x := range refused() {
		b := newBench(t)
		ids := b.open("html body b i* span em* p")
		b.text("x")
		b.enter(ids[2], x)
		b.enter(b.elem("u"), tag("u"))
		was := b.state()
		b.runs("b", false, false, 0, errLong)
		b.asBefore(was)
	}
}

// P2, Limits: a script has moved what is put, so that places were lost: they are found again.
func TestTokenAboveALimitWithMoved(t *testing.T) {
	b := newBench(t)
	ids := b.open("html body b i* p")
	b.text("x")
	b.enter(ids[2], refused()[0])
	b.move(ids[4], ids[0])
	b.move(ids[1], ids[4])
	b.child(ids[0], "hr")
	was := b.state()
	b.runs("b", false, false, 0, errLong)
	b.asBefore(was)
}

// P15.1: a token above a limit of which no element is needed is in nothing's way; at the limit one can be made.
func TestTokenAtALimit(t *testing.T) {
	for _, x := range refused() {
		b := newBench(t)
		ids := b.open("body u b* i p")
		b.enter(ids[1], x)
		b.closes("b", 1)
		b.opened("body u p")
		b.tree("body(u(b(i) p(b')))")

		b = newBench(t)
		ids = b.open("body b i")
		b.enter(ids[1], x)
		b.enter(ids[2], x)
		b.closes("b", 1)
		b.opened("body")
	}
	b := newBench(t)
	ids := b.open("body b p")
	b.enter(ids[1], api.Token{Name: "b", Attrs: make([]api.Attr, maxAttrs)})
	b.closes("b", 1)
	if x := b.node(b.node(ids[2]).First); len(x.Attrs) != maxAttrs {
		t.Errorf("%d attributes", len(x.Attrs))
	}
}
