package place_test

import (
	"slices"
	"strings"
	"testing"
)

// P14.2: into nodes without children: a new text.
func TestCharsIntoAnEmptyNode(t *testing.T) {
	b := newBench(t)
	template := b.elem("template")
	fragment := b.got(b.a.Fragment())
	for _, parent := range []int{b.elem("p"), fragment, template + 1, template, b.elem("svg g"), b.elem("table")} {
		n := b.a.Len()
		b.chars(parent, none, []rune("hello"), ok)
		b.kids(parent, n)
		b.reads(parent, "hello")
	}
}

// P14.2: behind a text they are added to it, behind another node they are a new text.
func TestCharsAtTheEnd(t *testing.T) {
	b := newBench(t)
	p := b.elem("p")
	text := b.text("a")
	b.link(p, text)
	n := b.a.Len()
	b.chars(p, none, []rune("bc"), ok)
	b.kids(p, text)
	b.reads(p, "abc")
	if b.a.Len() != n {
		t.Errorf("Len: %d; want %d", b.a.Len(), n)
	}
	b.child(p, "b")
	b.chars(p, none, []rune("d"), ok)
	b.reads(p, "abc", "<b>", "d")
	b.chars(p, none, []rune("e"), ok)
	b.reads(p, "abc", "<b>", "de")
}

// P14.2: a comment and a doctype are no texts, nor is what is within a neighbour.
func TestCharsBehindOthers(t *testing.T) {
	b := newBench(t)
	for _, id := range append(b.one()[2:4], b.elem("template")) {
		p := b.elem("p")
		b.link(p, id)
		was := b.node(id).Data
		b.chars(p, none, []rune("x"), ok)
		n := b.a.Len() - 1
		b.kids(p, id, n)
		if b.node(n).Data != "x" || b.node(id).Data != was {
			t.Errorf("behind %d: %q, %q", id, b.node(n).Data, b.node(id).Data)
		}
	}
	p := b.elem("p")
	inner := b.child(p, "b")
	b.link(inner, b.text("a"))
	b.chars(p, none, []rune("x"), ok)
	b.reads(p, "<b>", "x")
	b.reads(inner, "a")
}

// sentence makes a parent with these children: texts, and elements told by names in brackets.
func sentence(b bench, parts ...string) (int, []int) {
	b.t.Helper()
	p := b.elem("p")
	for _, s := range parts {
		if strings.HasPrefix(s, "<") {
			b.child(p, strings.Trim(s, "<>"))
		} else {
			b.link(p, b.text(s))
		}
	}
	return p, b.a.Kids(p)
}

// P14.2: ahead of each child: what counts is the child ahead of that one.
func TestCharsAheadOfAChild(t *testing.T) {
	for _, c := range []struct {
		parts  []string
		before int
		want   []string
	}{
		{[]string{"<b>"}, 0, []string{"X", "<b>"}},
		{[]string{"a"}, 0, []string{"X", "a"}},
		{[]string{"a", "b"}, 0, []string{"X", "a", "b"}},
		{[]string{"a", "b"}, 1, []string{"aX", "b"}},
		{[]string{"a", "b", "c"}, 2, []string{"a", "bX", "c"}},
		{[]string{"a", "<b>"}, 1, []string{"aX", "<b>"}},
		{[]string{"<b>", "a"}, 1, []string{"<b>", "X", "a"}},
		{[]string{"<b>", "<i>"}, 1, []string{"<b>", "X", "<i>"}},
		{[]string{"<b>", "<i>", "a"}, 1, []string{"<b>", "X", "<i>", "a"}},
		{[]string{"a", "<b>", "c", "<i>"}, 3, []string{"a", "<b>", "cX", "<i>"}},
		{[]string{"a", "<b>", "c", "<i>"}, 1, []string{"aX", "<b>", "c", "<i>"}},
	} {
		b := newBench(t)
		p, ids := sentence(b, c.parts...)
		b.chars(p, ids[c.before], []rune("X"), ok)
		b.reads(p, c.want...)
	}
}

// P14.2, P14.4: ahead of a node that is no child there any more they are at the end, as Put has it.
func TestCharsAheadOfWhatHasGone(t *testing.T) {
	b := newBench(t)
	p, ids := sentence(b, "a", "<b>")
	q, others := sentence(b, "text", "<i>")
	loose := b.elem("u")
	b.link(ids[1], b.text("in"))
	for _, before := range []int{others[1], loose, p, 0, q, b.a.Kids(ids[1])[0]} {
		b.chars(p, before, []rune("x"), ok)
	}
	b.reads(p, "a", "<b>", "xxxxxx")
	b.reads(q, "text", "<i>")
	b.reads(ids[1], "in")
	b.reads(0)
}

// P14.2: no code points: nothing, wherever they would go.
func TestNoChars(t *testing.T) {
	b := newBench(t)
	p, ids := sentence(b, "a", "<b>")
	kinds := b.one()
	was := b.state()
	for _, l := range [][]rune{nil, {}, make([]rune, 0, 4)} {
		for _, parent := range slices.Concat([]int{0, p}, ids, kinds, b.strangers()) {
			b.chars(parent, none, l, ok)
			b.chars(parent, ids[1], l, ok)
			for _, before := range b.strangers() {
				b.chars(parent, before, l, ok)
			}
		}
	}
	b.unchanged("no code points", was)
}

// P14.2: into the document: nothing, ahead of whatever.
func TestCharsIntoTheDocument(t *testing.T) {
	b := newBench(t)
	html := b.child(0, "html")
	kinds := b.one()
	b.link(0, kinds[1])
	was := b.state()
	for _, before := range slices.Concat([]int{none, html, 0}, kinds, b.strangers()) {
		b.chars(0, before, []rune("x"), ok)
		b.chars(0, before, make([]rune, maxText+1), ok)
	}
	b.unchanged("into the document", was)
}

// P14.2: numbers that are no node.
func TestCharsAtNoNode(t *testing.T) {
	b := newBench(t)
	p, ids := sentence(b, "a", "<b>", "c")
	text := ids[0]
	was := b.state()
	for _, l := range [][]rune{{'x'}, make([]rune, maxText+1)} {
		for _, id := range b.strangers() {
			for _, before := range []int{none, 0, p, ids[1], id} {
				b.chars(id, before, l, errNone)
			}
			if id != none {
				b.chars(p, id, l, errNone)
				b.chars(text, id, l, errNone)
			}
		}
	}
	b.unchanged("numbers that are no node", was)
}

// P14.2, P2: below what has no children Put refuses a new text; none is left over.
func TestCharsBelowATextAndSuch(t *testing.T) {
	b := newBench(t)
	_, ids := sentence(b, "a", "<b>")
	kinds := b.one()[1:4]
	was := b.state()
	for _, id := range kinds {
		for _, before := range []int{none, 0, id, ids[0], ids[1]} {
			b.chars(id, before, []rune("x"), errLinked)
			b.chars(id, before, make([]rune, maxText+1), errLong)
		}
	}
	b.unchanged("below what has no children", was)
}

// P14.2: code points that can't be are the mark.
func TestCharsThatCannotBe(t *testing.T) {
	b := newBench(t)
	p := b.elem("p")
	mark := "\xef\xbf\xbd"
	b.chars(p, none, []rune{-1, 0x110000, 0xD800, 0xDFFF, 1<<31 - 1, -1 << 31}, ok)
	b.reads(p, strings.Repeat(mark, 6))
	b.chars(p, none, []rune{0xDBFF, 0xD7FF, 0xDC00, 0xE000, 0xFFFD}, ok)
	b.reads(p, strings.Repeat(mark, 7)+"\xed\x9f\xbf"+mark+"\xee\x80\x80"+mark)
}

// P14.2: the bytes of code points at the ends of their lengths.
func TestBytesOfChars(t *testing.T) {
	b := newBench(t)
	p := b.elem("p")
	b.chars(p, none, []rune{0, 0x7F, 0x80, 0x7FF, 0x800, 0xFFFF, 0x10000, 0x10FFFF, 0xFEFF, '\r', '\n'}, ok)
	b.reads(p, "\x00\x7f\xc2\x80\xdf\xbf\xe0\xa0\x80\xef\xbf\xbf\xf0\x90\x80\x80\xf4\x8f\xbf\xbf\xef\xbb\xbf\r\n")
}

// P14.2: what was no UTF-8 in a text stays as it was.
func TestCharsBehindStrangeBytes(t *testing.T) {
	b := newBench(t)
	p, _ := sentence(b, "\xff\xe2\x82")
	b.chars(p, none, []rune{0xAC}, ok)
	b.reads(p, "\xff\xe2\x82\xc2\xac")
}

func as(n int) []rune {
	return []rune(strings.Repeat("a", n))
}

// P14.2: a text has at most MaxText bytes, a new one and one that is added to.
func TestCharsAtTheLimit(t *testing.T) {
	b := newBench(t)
	p, q := b.elem("p"), b.elem("p")
	was := b.state()
	b.chars(p, none, as(maxText+1), errLong)
	b.chars(p, none, append(as(maxText-1), 0x80), errLong)
	b.chars(p, none, append(as(maxText-2), -1), errLong)
	b.unchanged("a text that is too long", was)
	b.chars(p, none, append(as(maxText-3), -1), ok)
	b.chars(q, none, as(maxText-1), ok)
	was = b.state()
	b.chars(p, none, []rune("a"), errLong)
	b.chars(q, none, []rune{0x80}, errLong)
	b.chars(q, none, []rune("ab"), errLong)
	b.unchanged("a text that would become too long", was)
	b.chars(q, none, []rune("b"), ok)
	if x := b.node(b.node(q).Last); x.Data != strings.Repeat("a", maxText-1)+"b" {
		t.Errorf("the text has %d bytes", len(x.Data))
	}
	b.child(q, "b")
	b.chars(q, none, []rune("c"), ok)
}

// P14.2: an arena that is full takes no new text, but more in one that there is; both errors as layer 1 has them.
func TestCharsInAFullArena(t *testing.T) {
	b := newBench(t)
	p, ids := sentence(b, "a", "<b>")
	text := b.text("x")
	for b.a.Len() < maxNodes-1 {
		b.elem("p")
	}
	b.chars(ids[1], none, []rune("last"), ok)
	b.reads(ids[1], "last")
	was := b.state()
	b.chars(p, none, []rune("x"), errFull)
	b.chars(p, ids[0], []rune("x"), errFull)
	b.chars(p, none, as(maxText+1), errLong)
	b.chars(text, none, []rune("x"), errFull)
	b.chars(p, ids[1], as(maxText), errLong)
	b.chars(0, none, []rune("x"), ok)
	b.chars(maxNodes, none, []rune("x"), errNone)
	b.unchanged("a full arena", was)
	b.chars(p, ids[1], []rune("b"), ok)
	b.chars(ids[1], none, []rune("b"), ok)
	b.reads(p, "ab", "<b>")
	b.reads(ids[1], "lastb")
}

// P14.4: at one place, in parts of any kind, they are one text.
func TestCharsInParts(t *testing.T) {
	l := []rune{'a', 0x20AC, -1, 0x10FFFF, 0xD800, 0, 'z'}
	for _, before := range []int{none, 0, 1, 2, 3, 4} {
		for cut := range 1 << (len(l) - 1) {
			b, whole := newBench(t), newBench(t)
			p, ids := sentence(b, "one", "<b>", "two", "three")
			sentence(whole, "one", "<b>", "two", "three")
			at := before
			if before >= 0 {
				// The fifth is the parent itself, which is no child of it.
				at = append(ids, p)[before]
			}
			whole.chars(p, at, l, ok)
			from := 0
			for i := range l {
				if cut>>i&1 == 1 || i == len(l)-1 {
					b.chars(p, at, l[from:i+1], ok)
					b.chars(p, at, nil, ok)
					from = i + 1
				}
			}
			b.unchanged("in parts", whole.state())
		}
	}
}

// P4: what is handed in is neither changed nor kept.
func TestCharsAreCopied(t *testing.T) {
	b := newBench(t)
	p := b.elem("p")
	l := []rune{'a', -1, 'c'}
	for range 2 {
		b.chars(p, none, l[:2], ok)
	}
	if !slices.Equal(l, []rune{'a', -1, 'c'}) {
		t.Errorf("the list is %v", l)
	}
	l[0], l[1] = 'x', 'y'
	b.reads(p, "a\uFFFDa\uFFFD")
}
