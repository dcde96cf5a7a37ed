package node_test

import (
	"testing"

	"hornbeam/api"
)

// P1.2

func TestNodeOfNoNumber(t *testing.T) {
	m := newMaker(t)
	m.elem("template")
	for _, id := range append(outside, 3) {
		x, e := m.Node(id)
		if e != api.ErrNone || x.Parent != 0 || x.First != 0 || x.Last != 0 || x.Prev != 0 || x.Next != 0 || x.Inner != 0 || x.Attrs != nil {
			t.Errorf("Node(%d): %+v, %d", id, x, e)
		}
		if l := m.Kids(id); len(l) != 0 {
			t.Errorf("Kids(%d): %v", id, l)
		}
		if h := m.Host(id); h != none {
			t.Errorf("Host(%d): %d", id, h)
		}
		if m.Above(id, 0) || m.Above(0, id) || m.Above(id, id) {
			t.Errorf("Above of %d", id)
		}
	}
}

func TestLinksOfNeighbours(t *testing.T) {
	m := newMaker(t)
	ul, a, b, c := m.elem("ul"), m.text("a"), m.text("b"), m.text("c")
	m.link(0, ul, none)
	m.link(ul, a, none)
	m.link(ul, c, none)
	m.link(ul, b, c)
	checkKids(t, m.Arena, ul, a, b, c)
	for _, w := range []struct{ id, parent, first, last, prev, next int }{
		{0, none, ul, ul, none, none},
		{ul, 0, a, c, none, none},
		{a, ul, none, none, none, b},
		{b, ul, none, none, a, c},
		{c, ul, none, none, b, none},
	} {
		x, _ := m.Node(w.id)
		if x.Parent != w.parent || x.First != w.first || x.Last != w.last || x.Prev != w.prev || x.Next != w.next || x.Inner != none {
			t.Errorf("Node(%d): %+v; want %+v", w.id, x, w)
		}
	}
}

func TestKidsAreNewMemory(t *testing.T) { // P4
	m := newMaker(t)
	a, b := m.elem("a"), m.elem("b")
	m.link(0, a, none)
	m.link(0, b, none)
	l := m.Kids(0)
	l[0], l[1] = 77, 78
	checkKids(t, m.Arena, 0, a, b)
}

func TestKidsOfATemplateAreNotItsContents(t *testing.T) {
	m := newMaker(t)
	x := m.elem("template")
	in, out := m.text("in"), m.text("out")
	m.link(x+1, in, none)
	m.link(x, out, none)
	checkKids(t, m.Arena, x, out)
	checkKids(t, m.Arena, x+1, in)
}

func TestHosts(t *testing.T) {
	m := newMaker(t)
	x := m.elem("template")
	f := m.got(m.Fragment())
	y := m.elem("template")
	p := m.elem("p")
	m.link(x+1, p, none)
	for id, want := range map[int]int{0: none, x: none, x + 1: x, f: none, y: none, y + 1: y, p: none} {
		if h := m.Host(id); h != want {
			t.Errorf("Host(%d): %d; want %d", id, h, want)
		}
	}
}

func TestAbove(t *testing.T) {
	m := newMaker(t)
	html, x, p, text, alone := m.elem("html"), m.elem("template"), m.elem("p"), 0, 0
	text, alone = m.text("t"), m.got(m.Fragment())
	m.link(0, html, none)
	m.link(html, x, none)
	m.link(x+1, p, none)
	m.link(p, text, none)
	chain := []int{text, p, x + 1, x, html, 0}
	for i, id := range chain {
		for j, other := range chain {
			if got := m.Above(id, other); got != (j >= i) {
				t.Errorf("Above(%d, %d): %v", id, other, got)
			}
		}
		if m.Above(id, alone) || m.Above(alone, id) {
			t.Errorf("Above of %d and the fragment", id)
		}
	}
	if !m.Above(alone, alone) {
		t.Error("a node is not above itself, but Above tells true of it")
	}
	m.Unlink(x)
	if m.Above(text, html) || !m.Above(text, x) {
		t.Error("Above behind Unlink")
	}
}

// P1.3

func TestLinkPlaces(t *testing.T) {
	m := newMaker(t)
	p := m.elem("p")
	a, b, c, d := m.text("a"), m.got(m.Comment("b")), m.elem("c"), m.got(m.Doctype("d", "", ""))
	m.link(p, a, none)
	m.link(p, b, a)
	m.link(p, c, a)
	m.link(p, d, none)
	checkKids(t, m.Arena, p, b, c, a, d)
}

func TestLinkTakesAnyKindBelowAnyParent(t *testing.T) {
	m := newMaker(t)
	parents := []int{0, m.elem("p"), m.got(m.Element(api.SVG, "g", nil)), m.got(m.Fragment()), m.elem("template") + 1}
	for _, parent := range parents {
		kids := []int{m.text("t"), m.got(m.Comment("c")), m.got(m.Doctype("d", "", "")), m.elem("e"), m.elem("template")}
		for _, kid := range kids {
			m.link(parent, kid, none)
		}
		checkKids(t, m.Arena, parent, kids...)
	}
}

// linked is an arena with a node of each sort, for what Link refuses.
type linked struct {
	maker
	x, in, text, comment, doctype, frag, p, loose, other int
}

func newLinked(t *testing.T) linked {
	m := newMaker(t)
	l := linked{maker: m, x: m.elem("template"), text: m.text("t"), comment: m.got(m.Comment("c")), doctype: m.got(m.Doctype("d", "", ""))}
	l.in, l.frag, l.p, l.loose, l.other = l.x+1, m.got(m.Fragment()), m.elem("p"), m.elem("b"), m.elem("i")
	m.link(0, l.x, none)
	m.link(l.in, l.p, none)
	m.link(l.p, l.text, none)
	return l
}

type linking struct {
	parent, child, before int
	want                  api.Errno
}

func (l linked) checkLinks(what string, calls []linking) {
	l.t.Helper()
	before := all(l.Arena)
	for _, c := range calls {
		if e := l.Link(c.parent, c.child, c.before); e != c.want {
			l.t.Errorf("%s: Link(%d, %d, %d): %d; want %d", what, c.parent, c.child, c.before, e, c.want)
		}
	}
	checkSame(l.t, l.Arena, before)
}

func TestLinkRefuses(t *testing.T) {
	l := newLinked(t)
	l.checkLinks("kinds", []linking{
		{l.text, l.loose, none, api.ErrKind},
		{l.comment, l.loose, none, api.ErrKind},
		{l.doctype, l.loose, none, api.ErrKind},
		{l.p, 0, none, api.ErrKind},
		{l.in, 0, none, api.ErrKind},
		{l.p, l.frag, none, api.ErrKind},
		{0, l.in, none, api.ErrKind},
		{0, 0, none, api.ErrKind},
		{l.frag, l.frag, none, api.ErrKind},
		{l.text, l.text, none, api.ErrKind},
	})
	l.checkLinks("linked", []linking{
		{0, l.p, none, api.ErrLinked},
		{l.in, l.p, none, api.ErrLinked},
		{l.loose, l.text, none, api.ErrLinked},
		{l.loose, l.loose, none, api.ErrLinked},
		{l.x, l.x, none, api.ErrLinked},
		{l.in, l.x, none, api.ErrLinked},
		{l.p, l.x, none, api.ErrLinked},
	})
	l.checkLinks("places", []linking{
		{l.p, l.loose, l.other, api.ErrArg},
		{l.p, l.loose, l.p, api.ErrArg},
		{l.p, l.loose, l.loose, api.ErrArg},
		{l.x, l.loose, l.p, api.ErrArg},
		{0, l.loose, l.text, api.ErrArg},
		{l.p, l.loose, 0, api.ErrArg},
	})
}

func TestLinkRefusesWhatIsNoNode(t *testing.T) {
	l := newLinked(t)
	var calls []linking
	for _, id := range append(outside, l.Len()) {
		calls = append(calls, linking{id, l.loose, none, api.ErrNone}, linking{l.p, id, none, api.ErrNone})
		if id != none {
			calls = append(calls, linking{l.p, l.loose, id, api.ErrNone})
		}
	}
	l.checkLinks("no node", calls)
}

func TestLinkTellsTheFirstError(t *testing.T) {
	l := newLinked(t)
	l.checkLinks("ErrNone ahead of", []linking{
		{l.text, 99, none, api.ErrNone},
		{l.text, l.loose, 99, api.ErrNone},
		{99, 0, none, api.ErrNone},
		{l.x, l.x, 99, api.ErrNone},
	})
	l.checkLinks("ErrKind ahead of", []linking{
		{l.text, l.p, none, api.ErrKind},
		{l.text, l.x, none, api.ErrKind},
		{l.text, l.loose, l.other, api.ErrKind},
		{l.p, 0, l.other, api.ErrKind},
	})
	l.checkLinks("ErrLinked ahead of", []linking{
		{0, l.p, l.other, api.ErrLinked},
		{l.loose, l.loose, l.other, api.ErrLinked},
		{l.in, l.p, l.p, api.ErrLinked},
	})
}

func TestLinkOfATreeThatIsLoose(t *testing.T) {
	m := newMaker(t)
	x, p, b := m.elem("template"), m.elem("p"), m.elem("b")
	m.link(x+1, p, none)
	m.link(p, b, none)
	checkErr(t, "below its contents", m.Link(b, x, none), api.ErrLinked)
	m.Unlink(p)
	checkErr(t, "below itself", m.Link(b, p, none), api.ErrLinked)
	checkErr(t, "out of it", m.Link(b, x, none), api.OK)
	checkErr(t, "into its own contents", m.Link(x+1, p, none), api.ErrLinked)
	checkErr(t, "to the document", m.Link(0, p, none), api.OK)
	if !m.Above(x+1, 0) {
		t.Error("contents are below the document")
	}
}

func TestUnlink(t *testing.T) {
	for gone := range 3 {
		m := newMaker(t)
		p := m.elem("p")
		kids := []int{m.text("a"), m.elem("b"), m.text("c")}
		for _, kid := range kids {
			m.link(p, kid, none)
		}
		below := m.text("below")
		m.link(kids[1], below, none)
		checkErr(t, "Unlink", m.Unlink(kids[gone]), api.OK)
		rest := append(append([]int{}, kids[:gone]...), kids[gone+1:]...)
		checkKids(t, m.Arena, p, rest...)
		checkKids(t, m.Arena, kids[1], below)
		checkSound(t, m.Arena)
		if x, _ := m.Node(kids[gone]); x.Parent != none || x.Prev != none || x.Next != none {
			t.Errorf("Node: %+v", x)
		}
		checkErr(t, "Unlink once more", m.Unlink(kids[gone]), api.ErrState)
		m.link(p, kids[gone], none)
		checkKids(t, m.Arena, p, append(rest, kids[gone])...)
	}
}

func TestUnlinkRefuses(t *testing.T) {
	l := newLinked(t)
	before := all(l.Arena)
	for _, id := range append(outside, l.Len()) {
		checkErr(t, "no node", l.Unlink(id), api.ErrNone)
	}
	for _, id := range []int{0, l.in, l.frag, l.loose} {
		checkErr(t, "no parent", l.Unlink(id), api.ErrState)
	}
	checkSame(t, l.Arena, before)
}

func TestUnlinkOfTheOnlyChild(t *testing.T) {
	m := newMaker(t)
	p := m.elem("p")
	m.link(0, p, none)
	checkErr(t, "Unlink", m.Unlink(p), api.OK)
	checkNode(t, m.Arena, 0, unlinked(api.KDocument))
	if m.Len() != 2 {
		t.Errorf("a node went: Len %d", m.Len())
	}
}
