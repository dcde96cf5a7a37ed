package stack_test

import (
	"slices"
	"testing"

	"hornbeam/api"
	"hornbeam/node"
	"hornbeam/stack"
)

// P12.1: a stack that grows and shrinks, each call asked at each height.
func TestGrowsAndShrinks(t *testing.T) {
	b := newBench(t)
	var ids []int
	for range 3 {
		for _, name := range []string{"html", "body", "p", "p", "x", "template"} {
			id := b.elem(html, name)
			if b.s.Find(id) != -1 {
				t.Errorf("Find(%d) ahead of Push: %d", id, b.s.Find(id))
			}
			gives(t, "Push", b.s.Push(id), ok)
			ids = append(ids, id)
			holds(t, b.s, ids...)
		}
		for range 4 {
			last := len(ids) - 1
			if got := b.s.Pop(); got != ids[last] || b.s.Find(got) != -1 {
				t.Errorf("Pop: %d; want %d", got, ids[last])
			}
			ids = ids[:last]
			holds(t, b.s, ids...)
		}
	}
	for range len(ids) {
		b.s.Pop()
	}
	holds(t, b.s)
}

// P12.1: an element that went may come back.
func TestComesBack(t *testing.T) {
	b := newBench(t)
	ids := b.grow("html", "body", "p")
	b.s.Pop()
	gives(t, "Push behind Pop", b.s.Push(ids[2]), ok)
	gives(t, "Remove", b.s.Remove(ids[0]), ok)
	gives(t, "Push behind Remove", b.s.Push(ids[0]), ok)
	gives(t, "Swap", b.s.Swap(ids[1], b.elem(html, "x")), ok)
	gives(t, "Put behind Swap", b.s.Put(1, ids[1]), ok)
	holds(t, b.s, ids[2]+1, ids[1], ids[2], ids[0])
}

// P12.1: an empty stack, new and emptied.
func TestEmpty(t *testing.T) {
	b := newBench(t)
	for range 2 {
		for range 2 {
			if b.s.Pop() != none || b.s.Top() != none || b.s.At(0) != none || b.s.Len() != 0 || b.s.Find(0) != -1 || b.s.Find(none) != -1 {
				t.Error("an empty stack has something")
			}
			gives(t, "Remove", b.s.Remove(1), errNone)
			gives(t, "Remove of None", b.s.Remove(none), errNone)
			if b.s.PopTo("") || b.s.PopTo("p") || b.s.Implied("") != 0 || b.s.Implied("p") != 0 || b.s.Thorough() != 0 {
				t.Error("something went from an empty stack")
			}
			for _, kind := range append(otherKinds, kinds...) {
				inScope(t, b.s, "", kind, false)
				inScope(t, b.s, "html", kind, false)
				inNodeScope(t, b.s, none, kind, false)
				inNodeScope(t, b.s, 0, kind, false)
				inNodeScope(t, b.s, 1, kind, false)
			}
			holds(t, b.s)
		}
		b.grow("html")
		b.s.Pop()
	}
	x := b.elem(html, "x")
	gives(t, "Swap", b.s.Swap(1, x), errNone)
	gives(t, "Swap with itself", b.s.Swap(x, x), errNone)
	gives(t, "Put", b.s.Put(0, x), ok)
	holds(t, b.s, x)
}

// P12.1: Put at each place, Len() with it, of stacks that have room behind their top and of such that have none.
func TestPutAtEachPlace(t *testing.T) {
	for size := range 10 {
		for i := range size + 1 {
			for spare := range 4 {
				b := newBench(t)
				var ids []int
				for range size {
					ids = append(ids, b.push(html, "p"))
				}
				for range spare {
					b.push(html, "x")
				}
				for range spare {
					b.s.Pop()
				}
				id := b.elem(svg, "g")
				gives(t, "Put", b.s.Put(i, id), ok)
				ids = slices.Insert(ids, i, id)
				holds(t, b.s, ids...)
				holds(t, b.s, append(ids, b.push(html, "p"))...)
			}
		}
	}
}

// P12.1: Remove from each place, all of them one by one, and pushes behind it.
func TestRemoveFromEachPlace(t *testing.T) {
	for size := 1; size < 10; size++ {
		for i := range size {
			b := newBench(t)
			var ids []int
			for range size {
				ids = append(ids, b.push(html, "p"))
			}
			id := ids[i]
			gives(t, "Remove", b.s.Remove(id), ok)
			ids = slices.Delete(ids, i, i+1)
			holds(t, b.s, ids...)
			gives(t, "Remove once more", b.s.Remove(id), errNone)
			ids = append(ids, b.push(html, "x"), id)
			gives(t, "Push", b.s.Push(id), ok)
			holds(t, b.s, ids...)
			for len(ids) > 0 {
				at := i % len(ids)
				gives(t, "Remove", b.s.Remove(ids[at]), ok)
				ids = slices.Delete(ids, at, at+1)
				holds(t, b.s, ids...)
			}
		}
	}
}

// P12.1: Swap at each place; old is free then.
func TestSwapAtEachPlace(t *testing.T) {
	for i := range 5 {
		b := newBench(t)
		ids := b.grow("html", "body", "p", "b", "i")
		old, id := ids[i], b.elem(mathML, "mi")
		gives(t, "Swap", b.s.Swap(old, id), ok)
		ids[i] = id
		holds(t, b.s, ids...)
		if b.s.Find(old) != -1 {
			t.Errorf("Find(%d): %d", old, b.s.Find(old))
		}
		gives(t, "Swap once more", b.s.Swap(old, b.elem(html, "x")), errNone)
		gives(t, "Swap back", b.s.Swap(id, old), ok)
		ids[i] = old
		holds(t, b.s, ids...)
	}
}

// P12.1: an element that stands there already, wherever it is, pushed, put and swapped, with itself too.
func TestStandsAlready(t *testing.T) {
	b := newBench(t)
	ids := b.grow("html", "body", "p", "p")
	for _, id := range ids {
		gives(t, "Push", b.s.Push(id), errArg)
		for i := range 5 {
			gives(t, "Put", b.s.Put(i, id), errArg)
		}
		for _, old := range ids {
			gives(t, "Swap", b.s.Swap(old, id), errArg)
		}
	}
	holds(t, b.s, ids...)
}

// P12.1, P6: places that there are none of, one behind Len() the nearest.
func TestPutAtNoPlace(t *testing.T) {
	b := newBench(t)
	var ids []int
	for range 3 {
		x := b.elem(html, "x")
		for _, i := range append(places, len(ids)+1, len(ids)+2) {
			gives(t, "Put", b.s.Put(i, x), errArg)
			holds(t, b.s, ids...)
		}
		gives(t, "Put at Len()", b.s.Put(len(ids), x), ok)
		ids = append(ids, x)
		holds(t, b.s, ids...)
	}
}

// P12.1: numbers that are no element of the arena.
func TestNoElement(t *testing.T) {
	b := newBench(t)
	ids := b.grow("html", "body", "p")
	away := b.elem(html, "x")
	for _, id := range b.others() {
		gives(t, "Push", b.s.Push(id), errNone)
		gives(t, "Remove", b.s.Remove(id), errNone)
		gives(t, "Put", b.s.Put(1, id), errNone)
		gives(t, "Put at Len()", b.s.Put(3, id), errNone)
		gives(t, "Swap", b.s.Swap(ids[1], id), errNone)
		gives(t, "Swap of it", b.s.Swap(id, away), errNone)
		if b.s.Find(id) != -1 {
			t.Errorf("Find(%d): %d", id, b.s.Find(id))
		}
		for _, kind := range kinds {
			inNodeScope(t, b.s, id, kind, false)
		}
	}
	holds(t, b.s, ids...)
}

// P12.1, P2: where both errors of a call fit, ErrNone.
func TestTwoErrors(t *testing.T) {
	b := newBench(t)
	ids := b.grow("html", "body", "p")
	away := b.elem(html, "x")
	for _, id := range b.others() {
		for _, i := range append(places, 4) {
			gives(t, "Put of no element at no place", b.s.Put(i, id), errNone)
		}
		gives(t, "Swap of what is away with no element", b.s.Swap(away, id), errNone)
		gives(t, "Swap of no element with itself", b.s.Swap(id, id), errNone)
		gives(t, "Swap of no element with what stands there", b.s.Swap(id, ids[0]), errNone)
	}
	for _, id := range ids {
		gives(t, "Put of what stands there at no place", b.s.Put(-1, id), errArg)
		gives(t, "Put of what stands there at no place", b.s.Put(4, id), errArg)
		gives(t, "Swap of what is away with what stands there", b.s.Swap(away, id), errNone)
		gives(t, "Remove of what is away", b.s.Remove(away), errNone)
	}
	gives(t, "Swap of what is away with itself", b.s.Swap(away, away), errNone)
	holds(t, b.s, ids...)
}

// P12.1: no arena, and arenas that no call made.
func TestNewOfNoArena(t *testing.T) {
	for _, a := range []*node.Arena{nil, {}, new(node.Arena), (*node.Arena)(nil).Copy()} {
		if s, e := stack.New(a); s != nil || e != errZero {
			t.Errorf("New: %v, %d", s, e)
		}
	}
}

// P5: stacks of one arena know nothing of each other, nor do stacks of an arena and of its copy.
func TestManyStacks(t *testing.T) {
	b := newBench(t)
	ids := b.grow("html", "body", "p")
	other, third := newStack(t, b.a), newStack(t, b.a)
	holds(t, other)
	for _, id := range []int{ids[2], ids[0]} {
		gives(t, "Push on another one", other.Push(id), ok)
	}
	holds(t, b.s, ids...)
	holds(t, other, ids[2], ids[0])
	other.Pop()
	gives(t, "Remove", b.s.Remove(ids[2]), ok)
	holds(t, b.s, ids[0], ids[1])
	holds(t, other, ids[2])
	holds(t, third)

	copied := newStack(t, b.a.Copy())
	late := b.push(html, "late")
	gives(t, "Push of what the copy lacks", copied.Push(late), errNone)
	gives(t, "Push of what the copy has", copied.Push(ids[1]), ok)
	holds(t, copied, ids[1])
}

// P12.1: elements that are made behind New, and numbers that become elements.
func TestArenaGrows(t *testing.T) {
	b := newBench(t)
	next := b.a.Len()
	gives(t, "Push ahead of it", b.s.Push(next), errNone)
	if b.s.Special(next) {
		t.Error("Special of what is to come")
	}
	b.elem(html, "p")
	if !b.s.Special(next) {
		t.Error("not special")
	}
	gives(t, "Push behind it", b.s.Push(next), ok)
	holds(t, b.s, next)
}

// P5: links, attributes and what comes to stand beside them make no difference to the stack, nor it to them.
func TestLiveTree(t *testing.T) {
	b := newBench(t)
	ids := b.grow("html", "body", "table", "p")
	ask := func() {
		t.Helper()
		holds(t, b.s, ids...)
		inScope(t, b.s, "p", scope, true)
		inScope(t, b.s, "body", scope, false)
		inNodeScope(t, b.s, ids[2], tableScope, true)
		inNodeScope(t, b.s, ids[1], tableScope, false)
		if x, e := b.a.Node(ids[1]); e != ok || x.Name != "body" {
			t.Errorf("the arena: %v, %d", x, e)
		}
	}
	ask()
	gives(t, "Link", b.a.Link(0, ids[0], none), ok)
	gives(t, "Link", b.a.Link(ids[0], ids[1], none), ok)
	gives(t, "Link", b.a.Link(ids[3], ids[2], none), ok)
	ask()
	gives(t, "Unlink", b.a.Unlink(ids[0]), ok)
	gives(t, "Unlink", b.a.Unlink(ids[1]), ok)
	gives(t, "Link of html below body", b.a.Link(ids[1], ids[0], none), ok)
	gives(t, "Unlink", b.a.Unlink(ids[2]), ok)
	ask()
	for _, id := range ids {
		gives(t, "SetAttr", b.a.SetAttr(id, api.Attr{Name: "name", Value: "template"}), ok)
		gives(t, "SetData, which would rename it", b.a.SetData(id, "x"), 10)
	}
	ask()
	before, _ := b.a.Node(ids[0])
	b.s.Pop()
	b.s.Remove(ids[0])
	after, _ := b.a.Node(ids[0])
	if before.Parent != after.Parent || before.First != after.First || b.a.Len() != 5 {
		t.Errorf("the arena has changed: %v; was %v", after, before)
	}
}

// P12.1, P12.2: as many elements as an arena can have, and one from the bottom to the top.
func TestDeepest(t *testing.T) {
	b := newBench(t)
	first := b.push(html, "p")
	for b.a.Len() < 32768 {
		b.push(html, "b")
	}
	if b.s.Len() != 32767 || b.s.Top() != 32767 || b.s.Find(first) != 0 {
		t.Errorf("Len: %d, Top: %d", b.s.Len(), b.s.Top())
	}
	for _, kind := range kinds {
		inScope(t, b.s, "p", kind, kind != selectScope)
		inNodeScope(t, b.s, first, kind, kind != selectScope)
	}
	gives(t, "Remove", b.s.Remove(first), ok)
	gives(t, "Put", b.s.Put(32766, first), ok)
	if b.s.Top() != first || b.s.At(0) != first+1 || b.s.At(32766) != first || b.s.At(32767) != none {
		t.Errorf("Top: %d", b.s.Top())
	}
	if b.s.Implied("") != 1 || b.s.Len() != 32766 {
		t.Errorf("Len: %d", b.s.Len())
	}
	gives(t, "Swap", b.s.Swap(2, first), ok)
	if !b.s.PopTo("p") {
		t.Error("PopTo")
	}
	holds(t, b.s)
}

// P1: a stack that was copied as a value.
func TestCopiedAsAValue(t *testing.T) {
	b := newBench(t)
	b.grow("html", "body")
	value := *b.s
	for _, s := range []*stack.Stack{&value, b.s, &value, b.s} {
		for range 20 {
			gives(t, "Push", s.Push(b.elem(html, "p")), ok)
		}
		s.Put(1, b.elem(html, "x"))
		s.Remove(1)
		s.Pop()
		for i := range s.Len() {
			if s.Find(s.At(i)) != i {
				t.Errorf("At(%d): %d stands there twice", i, s.At(i))
			}
		}
	}
}
