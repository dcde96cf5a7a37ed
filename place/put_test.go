package place_test

import (
	"slices"
	"testing"
)

// row is a bench with a parent and its children.
type row struct {
	bench
	parent int
	ids    []int
}

func newRow(t *testing.T) row {
	t.Helper()
	r := row{bench: newBench(t)}
	r.parent = r.elem("div")
	for range 4 {
		r.ids = append(r.ids, r.child(r.parent, "p"))
	}
	return r
}

// P14.2: a node without a parent, at the end and ahead of each child.
func TestPutOfALooseNode(t *testing.T) {
	for i := range 5 {
		r := newRow(t)
		id := r.elem("b")
		before := none
		if i < 4 {
			before = r.ids[i]
		}
		r.put(r.parent, before, id, ok)
		r.kids(r.parent, slices.Insert(r.ids, i, id)...)
	}
}

// P14.2: a node with another parent goes from there.
func TestPutFromAnotherParent(t *testing.T) {
	for i := range 5 {
		r := newRow(t)
		from := r.elem("ul")
		x, id, y := r.child(from, "b"), r.child(from, "b"), r.child(from, "b")
		before := none
		if i < 4 {
			before = r.ids[i]
		}
		r.put(r.parent, before, id, ok)
		r.kids(r.parent, slices.Insert(r.ids, i, id)...)
		r.kids(from, x, y)
	}
}

// P14.2: a node that is a child there already, from each place to each.
func TestPutWithinAParent(t *testing.T) {
	for from := range 4 {
		for to := range 5 {
			r := newRow(t)
			id, before := r.ids[from], none
			if to < 4 {
				before = r.ids[to]
			}
			r.put(r.parent, before, id, ok)
			want := slices.Delete(slices.Clone(r.ids), from, from+1)
			i := slices.Index(want, before)
			if i < 0 {
				// At the end, and ahead of itself: it is no child any more when it is linked.
				i = len(want)
			}
			r.kids(r.parent, slices.Insert(want, i, id)...)
		}
	}
}

// P14.2: ahead of itself, of a node that is no child of the parent, and of one that has a parent elsewhere.
func TestPutAheadOfItself(t *testing.T) {
	r := newRow(t)
	id := r.elem("b")
	r.put(r.parent, id, id, ok)
	r.kids(r.parent, append(r.ids, id)...)
	r.put(r.parent, id, id, ok)
	r.kids(r.parent, append(r.ids, id)...)
	other := r.elem("ul")
	moved := r.child(other, "li")
	r.put(r.parent, moved, moved, ok)
	r.kids(r.parent, append(r.ids, id, moved)...)
	r.kids(other)
}

// P14.2: ahead of a node that is no child there any more: at the end.
func TestPutAheadOfWhatHasGone(t *testing.T) {
	r := newRow(t)
	other := r.elem("ul")
	moved, loose := r.ids[1], r.ids[2]
	r.a.Unlink(moved)
	r.a.Unlink(loose)
	r.link(other, moved)
	want := []int{r.ids[0], r.ids[3]}
	grandchild := r.child(r.ids[0], "b")
	for _, before := range []int{moved, loose, grandchild, r.parent, 0, other, r.text("x"), r.got(r.a.Fragment())} {
		id := r.elem("b")
		want = append(want, id)
		r.put(r.parent, before, id, ok)
		r.kids(r.parent, want...)
	}
	r.kids(other, moved)
	r.kids(r.ids[0], grandchild)
}

// P14.2: ahead of a child of the node itself.
func TestPutAheadOfItsChild(t *testing.T) {
	r := newRow(t)
	inner := r.child(r.ids[1], "b")
	r.put(r.parent, inner, r.ids[1], ok)
	r.kids(r.parent, r.ids[0], r.ids[2], r.ids[3], r.ids[1])
	r.kids(r.ids[1], inner)
}

// P14.2: every kind of nodes that may be a child, below every kind of parents.
func TestPutOfEachKind(t *testing.T) {
	b := newBench(t)
	template := b.elem("template")
	fragment := b.got(b.a.Fragment())
	b.link(0, template)
	for _, parent := range []int{0, fragment, b.elem("ul"), b.elem("svg g"), template + 1} {
		ids := b.one()[:4]
		for _, id := range ids {
			b.put(parent, none, id, ok)
		}
		got := b.a.Kids(parent)
		if !slices.Equal(got[len(got)-4:], ids) {
			t.Errorf("children of %d: %v; want %v", parent, got, ids)
		}
	}
	// Raw: what is put below a template goes into it, not into its contents.
	id := b.elem("p")
	b.put(template, none, id, ok)
	b.kids(template, id)
}

// P14.2: into itself, into what is below it, a template's contents counted in; it is without a parent then.
func TestPutBelowItself(t *testing.T) {
	for i := range 6 {
		r := newRow(t)
		id := r.ids[1]
		child := r.child(id, "ul")
		template := r.child(child, "template")
		inner := r.child(template+1, "p")
		below := []int{id, child, template, template + 1, inner, r.child(inner, "b")}[i]
		r.put(below, none, id, errLinked)
		r.kids(r.parent, r.ids[0], r.ids[2], r.ids[3])
		if x := r.node(id); x.Parent != none || x.Prev != none || x.Next != none {
			t.Errorf("refused below %d: %v", below, x)
		}
		r.kids(id, child)
		r.put(below, none, id, errLinked)
		r.put(r.parent, r.ids[2], id, ok)
		r.kids(r.parent, r.ids...)
	}
}

// P14.2: the same ahead of a child there.
func TestPutBelowItselfAheadOfAChild(t *testing.T) {
	r := newRow(t)
	id := r.ids[1]
	child := r.child(id, "ul")
	inner := r.child(child, "li")
	for _, before := range []int{inner, child, id, r.ids[0]} {
		r.put(child, before, id, errLinked)
		r.put(id, before, id, errLinked)
	}
	r.kids(r.parent, r.ids[0], r.ids[2], r.ids[3])
	r.kids(id, child)
	r.kids(child, inner)
}

// P14.2: a template into its own contents.
func TestPutIntoItsContents(t *testing.T) {
	b := newBench(t)
	template := b.child(0, "template")
	b.put(template+1, none, template, errLinked)
	b.kids(0)
	b.kids(template + 1)
}

// P14.2: below what has no children.
func TestPutBelowATextAndSuch(t *testing.T) {
	r := newRow(t)
	for i, kind := range r.one()[1:4] {
		for _, before := range []int{none, r.ids[0], r.ids[3], kind} {
			id := r.elem("b")
			r.link(r.parent, id)
			r.put(kind, before, id, errLinked)
			r.put(kind, before, id, errLinked)
			if r.node(id).Parent != none {
				t.Errorf("kind %d: it has a parent", i)
			}
		}
		r.kids(r.parent, r.ids...)
		r.kids(kind)
	}
	text := r.text("x")
	r.link(r.parent, text)
	r.put(text, none, text, errLinked)
	r.kids(r.parent, r.ids...)
}

// P14.2: the document, a fragment and a template's contents are no children.
func TestPutOfWhatIsNoChild(t *testing.T) {
	r := newRow(t)
	r.link(0, r.parent)
	template := r.child(r.parent, "template")
	fragment := r.got(r.a.Fragment())
	inner := r.child(fragment, "p")
	loose := r.elem("ul")
	was := r.state()
	for _, id := range []int{0, fragment, template + 1} {
		for _, parent := range []int{0, r.parent, loose, fragment, template, template + 1, inner} {
			for _, before := range []int{none, r.ids[0], id, parent, inner} {
				r.put(parent, before, id, errLinked)
			}
		}
	}
	r.unchanged("what was refused", was)
}

// P14.2: numbers that are no node; nothing changes, a node that is there keeps its parent.
func TestPutOfNoNode(t *testing.T) {
	r := newRow(t)
	text := r.text("x")
	r.link(r.parent, text)
	was := r.state()
	for _, id := range r.strangers() {
		for _, other := range []int{0, r.parent, r.ids[0], r.ids[3], text} {
			r.put(other, none, id, errNone)
			r.put(other, r.ids[1], id, errNone)
			r.put(id, none, other, errNone)
			r.put(id, r.ids[1], other, errNone)
			r.put(id, id, other, errNone)
			r.put(id, none, id, errNone)
			r.put(id, other, id, errNone)
			if id != none {
				r.put(r.parent, id, other, errNone)
				r.put(other, id, other, errNone)
				r.put(text, id, other, errNone)
				r.put(other, id, id, errNone)
			}
		}
	}
	r.unchanged("numbers that are no node", was)
}
