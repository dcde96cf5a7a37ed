package adopt_test

import "testing"

// move puts a node elsewhere, as scripts do.
func (b bench) move(id int, parent int) {
	b.t.Helper()
	b.a.Unlink(id)
	b.link(parent, id)
}

// loose asks for a node without a parent, with this below it.
func (b bench) loose(id int, want string) {
	b.t.Helper()
	if p := b.node(id).Parent; p != none {
		b.t.Errorf("%s is below %d", b.word(id), p)
	}
	b.below(id, want)
}

// P15.1: elements of the stack that stand nowhere in the tree are worked on as others.
func TestTakenOut(t *testing.T) {
	b := newBench(t)
	ids := b.open("body b* i* p")
	b.text("x")
	for _, id := range ids {
		gives(t, "Unlink", b.a.Unlink(id), ok)
	}
	b.closes("b", 1)
	b.tree("")
	b.loose(ids[0], `i'(p(b'("x")))`)
	b.loose(ids[1], "")
	b.loose(ids[2], "")
	b.opened("body i' p")
	b.entered("i'")
}

// P15.1: B alone was taken out, or emptied.
func TestBTakenOut(t *testing.T) {
	b := newBench(t)
	ids := b.open("body b* p")
	x := b.text("x")
	gives(t, "Unlink", b.a.Unlink(ids[2]), ok)
	gives(t, "Unlink", b.a.Unlink(x), ok)
	b.closes("b", 1)
	b.tree("body(b p(b'))")
	b.opened("body p")
}

// P15.1: C was brought into B: what L is put to is below L itself, so that L is without a parent; all else is done.
func TestCBelowB(t *testing.T) {
	b := newBench(t)
	ids := b.open("html body b* p")
	b.text("x")
	b.move(ids[3], ids[0])
	b.move(ids[1], ids[3])
	b.closes("b", 1)
	b.tree("html")
	b.loose(ids[3], `b'("x" body(b))`)
	b.opened("html body p")
	b.entered("")
}

// P15.1: the same with elements between: they are without a parent, with B in them.
func TestCBelowBWithOthersBetween(t *testing.T) {
	b := newBench(t)
	ids := b.open("html body b* i* u* p")
	b.text("x")
	b.move(ids[5], ids[0])
	b.move(ids[1], ids[5])
	b.closes("b", 1)
	b.tree("html")
	b.opened("html body i' u' p")
	b.loose(b.s.At(2), `u'(p(b'("x" body(b(i(u))))))`)
	b.entered("i' u'")
}

// P15.1: the first element was brought into B, and is C.
func TestFirstBelowB(t *testing.T) {
	b := newBench(t)
	ids := b.open("html b* p")
	b.move(ids[2], 0)
	b.move(ids[0], ids[2])
	b.closes("b", 1)
	b.tree("")
	b.loose(ids[2], "b'(html(b))")
}

// P15.1: the table that foster leads ahead of was brought into B.
func TestTableBelowB(t *testing.T) {
	for _, foster := range []bool{false, true} {
		b := newBench(t)
		ids := b.open("html table b* p")
		b.move(ids[3], ids[0])
		b.move(ids[1], ids[3])
		b.runs("b", foster, false, 1, ok)
		b.tree("html")
		b.loose(ids[3], "b'(table(b))")
	}
}

// P15.1: F, or one between F and B, was brought into B: it becomes M's with all that is in B.
func TestFBelowB(t *testing.T) {
	b := newBench(t)
	ids := b.open("body b* i* p")
	b.text("x")
	b.move(ids[3], ids[0])
	b.move(ids[1], ids[3])
	b.closes("b", 1)
	b.tree(`body(i'(p(b'("x" b(i)))))`)
	b = newBench(t)
	ids = b.open("body b* i* p")
	b.text("x")
	b.move(ids[3], ids[0])
	b.move(ids[2], ids[3])
	b.closes("b", 1)
	b.tree(`body(b i'(p(b'("x" i))))`)
}

// P15.1: the stack's order is another one than the tree's.
func TestStackUpsideDown(t *testing.T) {
	b := newBench(t)
	ids := []int{b.child(none, "p"), none, none, none}
	for i, word := range []string{"i", "b", "body"} {
		ids[i+1] = b.child(ids[i], word)
	}
	for _, i := range []int{3, 2, 1, 0} {
		b.push(ids[i])
	}
	b.enter(ids[2], tag("b"))
	b.enter(ids[1], tag("i"))
	b.closes("b", 1)
	b.tree("")
	b.opened("body i' p")
	b.loose(b.s.At(1), "p(b'(i(b(body))))")
	b.entered("i'")
}

// P15.1: B is put where it stands already: it comes to the end.
func TestBIsInC(t *testing.T) {
	b := newBench(t)
	ids := b.open("body b* p")
	b.move(ids[2], ids[0])
	b.child(ids[0], "hr")
	b.closes("b", 1)
	b.tree("body(b hr p(b'))")
}
