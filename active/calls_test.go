package active_test

import (
	"slices"
	"strconv"
	"testing"

	"hornbeam/active"
	"hornbeam/api"
	"hornbeam/node"
)

// The chapter's example.
func TestExample(t *testing.T) {
	b := newBench(t)
	ids := b.grow("b", "b", "b")
	holds(t, b.l, ids...)
	ids = append(ids[1:], b.push(html, "b"))
	holds(t, b.l, ids...)
	b.mark()
	holds(t, b.l, append(ids, none, b.push(html, "b"))...)
}

// P13.1, P13.2: a list that grows and shrinks, each call asked at each length.
func TestGrowsAndShrinks(t *testing.T) {
	b := newBench(t)
	var ids []int
	for range 3 {
		for _, name := range []string{"a", "", "b", "i", "", "", "u", "template", "x"} {
			ids = append(ids, b.grow(name)...)
			holds(t, b.l, ids...)
		}
		for _, n := range []int{4, 1, 3} {
			gone := ids[len(ids)-n:]
			ids = ids[:len(ids)-n]
			cleared(t, b.l, n)
			holds(t, b.l, ids...)
			for _, id := range gone {
				if b.l.Find(id) != -1 {
					t.Errorf("Find(%d) behind Clear: %d", id, b.l.Find(id))
				}
			}
		}
	}
	cleared(t, b.l, len(ids))
	holds(t, b.l)
}

// P13.1: an element that went may come back.
func TestComesBack(t *testing.T) {
	b := newBench(t)
	ids := b.grow("a", "b", "", "i")
	cleared(t, b.l, 2)
	gives(t, "Push behind Clear", b.l.Push(ids[3], tag("i")), ok)
	gives(t, "Remove", b.l.Remove(ids[0]), ok)
	gives(t, "Push behind Remove", b.l.Push(ids[0], tag("a")), ok)
	x := b.elem(html, "x")
	gives(t, "Swap", b.l.Swap(ids[1], x), ok)
	gives(t, "Put behind Swap", b.l.Put(1, ids[1], tag("b")), ok)
	holds(t, b.l, x, ids[1], ids[3], ids[0])
	gone := b.push(html, "u")
	rest := []int{b.push(html, "u"), b.push(html, "u"), b.push(html, "u")}
	if b.l.Find(gone) != -1 {
		t.Errorf("Find of the earliest of four: %d", b.l.Find(gone))
	}
	gives(t, "Push of what went as the fourth", b.l.Push(gone, tag("u")), ok)
	if b.l.Find(rest[0]) != -1 || b.l.Find(gone) != b.l.Len()-1 {
		t.Errorf("Find: %d, %d", b.l.Find(rest[0]), b.l.Find(gone))
	}
}

// P13.1, P13.2: an empty list, new, cleared, and with its only entry removed.
func TestEmpty(t *testing.T) {
	b := newBench(t)
	empties := []func(){
		func() {},
		func() { b.grow("a"); cleared(t, b.l, 1) },
		func() { b.mark(); cleared(t, b.l, 1) },
		func() { gives(t, "Remove", b.l.Remove(b.push(html, "b")), ok) },
	}
	for _, empty := range empties {
		empty()
		for range 2 {
			cleared(t, b.l, 0)
			holds(t, b.l)
			for _, id := range []int{0, 1, none, minInt, maxInt} {
				if b.l.Find(id) != -1 {
					t.Errorf("Find(%d): %d", id, b.l.Find(id))
				}
				gives(t, "Remove", b.l.Remove(id), errNone)
			}
			last(t, b.l, "", none)
			last(t, b.l, "a", none)
			x := b.elem(html, "x")
			gives(t, "Swap", b.l.Swap(1, x), errNone)
			gives(t, "Swap with itself", b.l.Swap(x, x), errNone)
			gives(t, "Swap of None", b.l.Swap(none, x), errNone)
			gives(t, "Put", b.l.Put(1, x, tag("x")), errArg)
			gives(t, "Put", b.l.Put(-1, x, tag("x")), errArg)
			holds(t, b.l)
			gives(t, "Put", b.l.Put(0, x, tag("x")), ok)
			holds(t, b.l, x)
			cleared(t, b.l, 1)
		}
	}
}

// P13.1: Clear with no marker, with one, with several, at the end and at the beginning.
func TestClear(t *testing.T) {
	rows := []struct {
		names []string
		went  []int
	}{
		{[]string{"a", "b", "i"}, []int{3, 0}},
		{[]string{""}, []int{1, 0}},
		{[]string{"", "a", "b"}, []int{3, 0}},
		{[]string{"a", "", "b"}, []int{2, 1, 0}},
		{[]string{"a", "b", ""}, []int{1, 2, 0}},
		{[]string{"", "", ""}, []int{1, 1, 1, 0}},
		{[]string{"a", "", "b", "i", "", "", "u"}, []int{2, 1, 3, 1, 0}},
	}
	for _, row := range rows {
		b := newBench(t)
		ids := b.grow(row.names...)
		for _, n := range row.went {
			cleared(t, b.l, n)
			ids = ids[:len(ids)-n]
			holds(t, b.l, ids...)
		}
	}
}

// P13.2: Last of a name behind the last marker, ahead of it, more than once, and of what went.
func TestLast(t *testing.T) {
	b := newBench(t)
	ids := b.grow("a", "b", "a", "i")
	last(t, b.l, "a", ids[2])
	last(t, b.l, "b", ids[1])
	last(t, b.l, "i", ids[3])
	last(t, b.l, "u", none)
	b.mark()
	for _, name := range []string{"a", "b", "i", "u", ""} {
		last(t, b.l, name, none)
	}
	a := b.push(html, "a")
	b.push(html, "u")
	last(t, b.l, "a", a)
	last(t, b.l, "b", none)
	first := b.put(5, html, "a")
	last(t, b.l, "a", a)
	gives(t, "Remove", b.l.Remove(a), ok)
	last(t, b.l, "a", first)
	b.put(4, html, "b")
	last(t, b.l, "b", none)
	gives(t, "Remove", b.l.Remove(first), ok)
	last(t, b.l, "a", none)
	cleared(t, b.l, 2)
	last(t, b.l, "a", ids[2])
}

// P13.2: a name stands for HTML's elements alone, and is taken as it is: no letter is made small, none left out.
func TestLastOfOtherNames(t *testing.T) {
	b := newBench(t)
	b.push(svg, "a")
	b.push(mathML, "a")
	last(t, b.l, "a", none)
	a := b.push(html, "a")
	b.push(svg, "a")
	b.push(mathML, "a")
	last(t, b.l, "a", a)
	for _, name := range []string{"A", "a ", " a", "aa", "", "\x00", "a\x00", "\xff", "a\xff", "\u00e1"} {
		last(t, b.l, name, none)
		id := b.push(html, name)
		last(t, b.l, name, id)
		last(t, b.l, "a", a)
	}
	last(t, b.l, "\xfe", none)
	last(t, b.l, "\ufffd", none)
}

// P13.2: the name that counts is the element's, whatever its token is named.
func TestLastByTheElement(t *testing.T) {
	b := newBench(t)
	id := b.elem(html, "a")
	gives(t, "Push", b.l.Push(id, tag("b")), ok)
	last(t, b.l, "a", id)
	last(t, b.l, "b", none)
	other := b.elem(html, "i")
	gives(t, "Swap", b.l.Swap(id, other), ok)
	last(t, b.l, "i", other)
	last(t, b.l, "a", none)
	last(t, b.l, "b", none)
	gives(t, "Swap", b.l.Swap(other, b.elem(svg, "i")), ok)
	last(t, b.l, "i", none)
}

// P13.2: Put at each place, Len() with it, of lists that have room behind their end and of such that have none.
func TestPutAtEachPlace(t *testing.T) {
	for size := range 10 {
		for i := range size + 1 {
			for spare := range 4 {
				b := newBench(t)
				ids := b.grow([]string{"a", "b", "", "i", "u", "", "", "x", "y", "z"}[:size]...)
				b.mark()
				for n := range spare {
					b.push(html, "s"+strconv.Itoa(n))
				}
				cleared(t, b.l, spare+1)
				id := b.elem(svg, "g")
				gives(t, "Put", b.l.Put(i, id, tag("G", attr("n", "1"))), ok)
				ids = slices.Insert(ids, i, id)
				holds(t, b.l, ids...)
				carries(t, b.l, i, tag("G", attr("n", "1")))
				holds(t, b.l, append(ids, b.push(html, "p"))...)
			}
		}
	}
}

// P13.2: Remove from each place, all of them one by one, and pushes behind it.
func TestRemoveFromEachPlace(t *testing.T) {
	for size := 1; size < 10; size++ {
		for i := range size {
			b := newBench(t)
			var ids []int
			for n := range size {
				ids = append(ids, b.push(html, "e"+strconv.Itoa(n)))
			}
			id := ids[i]
			gives(t, "Remove", b.l.Remove(id), ok)
			ids = slices.Delete(ids, i, i+1)
			holds(t, b.l, ids...)
			gives(t, "Remove once more", b.l.Remove(id), errNone)
			ids = append(ids, b.push(html, "x"), id)
			gives(t, "Push", b.l.Push(id, tag("e")), ok)
			holds(t, b.l, ids...)
			for len(ids) > 0 {
				at := i % len(ids)
				gives(t, "Remove", b.l.Remove(ids[at]), ok)
				ids = slices.Delete(ids, at, at+1)
				holds(t, b.l, ids...)
			}
		}
	}
}

// P13.2: Remove beside markers, which stay where they are.
func TestRemoveBesideMarkers(t *testing.T) {
	b := newBench(t)
	ids := b.grow("", "a", "", "", "b", "")
	gives(t, "Remove", b.l.Remove(none), errNone)
	gives(t, "Remove", b.l.Remove(ids[4]), ok)
	holds(t, b.l, none, ids[1], none, none, none)
	gives(t, "Remove", b.l.Remove(ids[1]), ok)
	holds(t, b.l, none, none, none, none)
	gives(t, "Remove", b.l.Remove(none), errNone)
	holds(t, b.l, none, none, none, none)
}

// P13.2: Swap at each place; the token stays, and old is free then.
func TestSwapAtEachPlace(t *testing.T) {
	for i := range 5 {
		b := newBench(t)
		var ids []int
		var tokens []api.Token
		for n := range 5 {
			name := "e" + strconv.Itoa(n)
			ids = append(ids, b.push(html, name, attr("n", name), attr("a", "")))
			tokens = append(tokens, tag(name, attr("n", name), attr("a", "")))
		}
		old, id := ids[i], b.elem(mathML, "mi")
		gives(t, "Swap", b.l.Swap(old, id), ok)
		ids[i] = id
		holds(t, b.l, ids...)
		for n, want := range tokens {
			carries(t, b.l, n, want)
		}
		if b.l.Find(old) != -1 {
			t.Errorf("Find(%d): %d", old, b.l.Find(old))
		}
		gives(t, "Swap once more", b.l.Swap(old, b.elem(html, "x")), errNone)
		gives(t, "Swap back", b.l.Swap(id, old), ok)
		ids[i] = old
		holds(t, b.l, ids...)
		carries(t, b.l, i, tokens[i])
	}
}

// P13.1, P13.2: an element that has an entry already, wherever it is, pushed, put and swapped, with itself too.
func TestStandsAlready(t *testing.T) {
	b := newBench(t)
	ids := b.grow("a", "a", "", "a", "b")
	elems := []int{ids[0], ids[1], ids[3], ids[4]}
	for _, id := range elems {
		gives(t, "Push", b.l.Push(id, tag("a")), errArg)
		gives(t, "Push with another token", b.l.Push(id, tag("x", attr("n", "1"))), errArg)
		for i := range 6 {
			gives(t, "Put", b.l.Put(i, id, tag("a")), errArg)
		}
		for _, old := range elems {
			gives(t, "Swap", b.l.Swap(old, id), errArg)
		}
	}
	holds(t, b.l, ids...)
	for i, id := range ids {
		if id != none {
			carries(t, b.l, i, tag([]string{"a", "a", "", "a", "b"}[i]))
		}
	}
}

// P13.1: a Push that is refused takes no alike entry away.
func TestRefusedPush(t *testing.T) {
	b := newBench(t)
	ids := b.grow("b", "b", "b")
	for _, id := range append(b.others(), ids...) {
		if e := b.l.Push(id, tag("b")); e == ok {
			t.Errorf("Push(%d): taken", id)
		}
		holds(t, b.l, ids...)
	}
}

// P13.2, P6: places that there are none of, one behind Len() the nearest.
func TestPutAtNoPlace(t *testing.T) {
	b := newBench(t)
	var ids []int
	for n := range 4 {
		x := b.elem(html, "x")
		for _, i := range append(places, len(ids)+1, len(ids)+2) {
			gives(t, "Put", b.l.Put(i, x, tag("x")), errArg)
			holds(t, b.l, ids...)
		}
		if n == 2 {
			b.mark()
			ids = append(ids, none)
		}
		gives(t, "Put at Len()", b.l.Put(len(ids), x, tag("x")), ok)
		ids = append(ids, x)
		holds(t, b.l, ids...)
	}
}

// P13.1, P13.2: numbers that are no element of the arena.
func TestNoElement(t *testing.T) {
	b := newBench(t)
	ids := b.grow("a", "", "b", "")
	away := b.elem(html, "x")
	for _, id := range b.others() {
		gives(t, "Push", b.l.Push(id, tag("p")), errNone)
		gives(t, "Remove", b.l.Remove(id), errNone)
		gives(t, "Put", b.l.Put(1, id, tag("p")), errNone)
		gives(t, "Put at Len()", b.l.Put(4, id, tag("p")), errNone)
		gives(t, "Swap", b.l.Swap(ids[0], id), errNone)
		gives(t, "Swap of it", b.l.Swap(id, away), errNone)
		if b.l.Find(id) != -1 {
			t.Errorf("Find(%d): %d", id, b.l.Find(id))
		}
	}
	holds(t, b.l, ids...)
}

// P13.2, P2: where both errors of a call fit, ErrNone.
func TestTwoErrors(t *testing.T) {
	b := newBench(t)
	ids := b.grow("a", "", "b")
	away := b.elem(html, "x")
	for _, id := range b.others() {
		for _, i := range append(places, 4) {
			gives(t, "Put of no element at no place", b.l.Put(i, id, tag("p")), errNone)
		}
		gives(t, "Swap of what is away with no element", b.l.Swap(away, id), errNone)
		gives(t, "Swap of no element with itself", b.l.Swap(id, id), errNone)
		gives(t, "Swap of no element with what has an entry", b.l.Swap(id, ids[0]), errNone)
	}
	for _, id := range []int{ids[0], ids[2]} {
		gives(t, "Put of what has an entry at no place", b.l.Put(-1, id, tag("p")), errArg)
		gives(t, "Put of what has an entry at no place", b.l.Put(4, id, tag("p")), errArg)
		gives(t, "Swap of what is away with what has an entry", b.l.Swap(away, id), errNone)
		gives(t, "Swap of a marker with what has an entry", b.l.Swap(none, id), errNone)
	}
	gives(t, "Swap of what is away with itself", b.l.Swap(away, away), errNone)
	holds(t, b.l, ids...)
}

// P13.2: markers are found by no call that looks for an element.
func TestMarkersAreNoElements(t *testing.T) {
	b := newBench(t)
	ids := b.grow("", "a", "", "")
	x := b.elem(html, "x")
	if b.l.Find(none) != -1 {
		t.Errorf("Find of None: %d", b.l.Find(none))
	}
	gives(t, "Remove of None", b.l.Remove(none), errNone)
	gives(t, "Swap of None", b.l.Swap(none, x), errNone)
	gives(t, "Swap with None", b.l.Swap(ids[1], none), errNone)
	gives(t, "Push of None", b.l.Push(none, tag("x")), errNone)
	gives(t, "Put of None", b.l.Put(0, none, tag("x")), errNone)
	last(t, b.l, "", none)
	holds(t, b.l, ids...)
}

// P13.1: no arena, and arenas that no call made.
func TestNewOfNoArena(t *testing.T) {
	for _, a := range []*node.Arena{nil, {}, new(node.Arena), (*node.Arena)(nil).Copy()} {
		if l, e := active.New(a); l != nil || e != errZero {
			t.Errorf("New: %v, %d", l, e)
		}
	}
}

// P5: lists of one arena know nothing of each other, nor do lists of an arena and of its copy.
func TestManyLists(t *testing.T) {
	b := newBench(t)
	ids := b.grow("b", "b", "b")
	other, third := newList(t, b.a), newList(t, b.a)
	holds(t, other)
	gives(t, "Push on another one", other.Push(ids[2], tag("b")), ok)
	gives(t, "Mark of another one", other.Mark(), ok)
	gives(t, "Push on another one", other.Push(ids[0], tag("b")), ok)
	holds(t, b.l, ids...)
	holds(t, other, ids[2], none, ids[0])
	last(t, b.l, "b", ids[2])
	cleared(t, b.l, 3)
	holds(t, other, ids[2], none, ids[0])
	gives(t, "Remove", other.Remove(ids[2]), ok)
	holds(t, b.l)
	holds(t, third)
	cleared(t, third, 0)
	holds(t, other, none, ids[0])

	copied := newList(t, b.a.Copy())
	late := b.push(html, "late")
	gives(t, "Push of what the copy lacks", copied.Push(late, tag("late")), errNone)
	gives(t, "Push of what the copy has", copied.Push(ids[1], tag("b")), ok)
	holds(t, copied, ids[1])
	holds(t, b.l, late)
}

// P13.1: elements that are made behind New, and numbers that become elements.
func TestArenaGrows(t *testing.T) {
	b := newBench(t)
	next := b.a.Len()
	gives(t, "Push ahead of it", b.l.Push(next, tag("a")), errNone)
	b.elem(html, "a")
	gives(t, "Push behind it", b.l.Push(next, tag("a")), ok)
	holds(t, b.l, next)
}

// P5: links make no difference to the list, nor it to them.
func TestLiveTree(t *testing.T) {
	b := newBench(t)
	ids := b.grow("a", "b", "i")
	gives(t, "Link", b.a.Link(0, ids[0], none), ok)
	gives(t, "Link", b.a.Link(ids[0], ids[1], none), ok)
	holds(t, b.l, ids...)
	gives(t, "Unlink", b.a.Unlink(ids[0]), ok)
	holds(t, b.l, ids...)
	last(t, b.l, "b", ids[1])
	gives(t, "Remove", b.l.Remove(ids[1]), ok)
	cleared(t, b.l, 2)
	if x, e := b.a.Node(ids[0]); e != ok || x.First != ids[1] || b.a.Len() != 4 {
		t.Errorf("the arena has changed: %v, %d", x, e)
	}
}

// P1, P13.1: as many elements as an arena can have, each unlike the others, and then an alike one of the first ones.
func TestLongest(t *testing.T) {
	b := newBench(t)
	first := []int{b.push(html, "b"), b.push(html, "b"), b.push(html, "b")}
	for b.a.Len() < 32767 {
		b.put(b.l.Len(), html, "b", attr("n", strconv.Itoa(b.a.Len())))
	}
	if b.l.Len() != 32766 || b.l.Find(32766) != 32765 || b.l.Last("b") != 32766 {
		t.Errorf("Len: %d, Last: %d", b.l.Len(), b.l.Last("b"))
	}
	fourth := b.push(html, "b")
	if b.l.Len() != 32766 || b.l.Find(first[0]) != -1 || b.l.Find(first[1]) != 0 || b.l.Find(fourth) != 32765 {
		t.Errorf("Len: %d, Find: %d", b.l.Len(), b.l.Find(fourth))
	}
	gives(t, "Put", b.l.Put(1, first[0], tag("b")), ok)
	gives(t, "Remove", b.l.Remove(first[1]), ok)
	if b.l.Find(first[0]) != 0 || b.l.Find(fourth) != 32765 {
		t.Errorf("Find: %d, %d", b.l.Find(first[0]), b.l.Find(fourth))
	}
	for range 40000 {
		b.mark()
	}
	if b.l.Len() != 72766 || b.l.Find(fourth) != 32765 {
		t.Errorf("Len: %d", b.l.Len())
	}
	for range 40000 {
		cleared(t, b.l, 1)
	}
	cleared(t, b.l, 32766)
	holds(t, b.l)
}

// P1: a list that was copied as a value.
func TestCopiedAsAValue(t *testing.T) {
	b := newBench(t)
	b.grow("a", "", "b")
	value := *b.l
	for _, l := range []*active.List{&value, b.l, &value, b.l} {
		for n := range 20 {
			gives(t, "Push", l.Push(b.elem(html, "p"), tag("p", attr("n", strconv.Itoa(n)))), ok)
		}
		l.Put(1, b.elem(html, "x"), tag("x"))
		l.Remove(b.a.Len() - 2)
		for i := range l.Len() {
			if x, _ := l.At(i); x.Node != none && l.Find(x.Node) != i {
				t.Errorf("At(%d): %d stands there twice", i, x.Node)
			}
		}
	}
}
