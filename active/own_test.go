package active_test

import (
	"slices"
	"testing"

	"hornbeam/api"
)

// unsorted are attributes in no order, one of them twice.
func unsorted() []api.Attr {
	return []api.Attr{attr("z", "1"), attr("a", "2"), {Space: api.XML, Prefix: "xml", Name: "lang", Value: "x"}, attr("z", "1"), attr("a", "1")}
}

// P13.2: a token is kept as it is: every field, the attributes in their order, one of them twice.
func TestTokenIsKept(t *testing.T) {
	tokens := []api.Token{
		{},
		{Kind: api.TStart, Name: "b", Self: true, Attrs: unsorted()},
		{Kind: api.TDoctype, Name: "n", Data: "d", System: "s", Has: 7, Quirks: true, Char: 0x10FFFF, Attrs: unsorted()[:1]},
		{Kind: minInt, Name: "\xff", Data: "\x00", System: "\xed\xa0\x80", Has: maxInt, Char: -1, Attrs: []api.Attr{{}}},
		{Kind: 99, Attrs: []api.Attr{{Space: minInt, Prefix: "\xff", Name: "\xfe", Value: "\xfd"}, {Space: maxInt}}},
	}
	b := newBench(t)
	for i, x := range tokens {
		gives(t, "Push", b.l.Push(b.elem(html, "b"), x), ok)
		gives(t, "Put", b.l.Put(i, b.elem(html, "i"), x), ok)
	}
	for i, x := range tokens {
		carries(t, b.l, i, x)
		carries(t, b.l, i+len(tokens), x)
	}
}

// P4: what is handed in is not changed: attributes stay in their order.
func TestHandedInStays(t *testing.T) {
	b := newBench(t)
	attrs := append(unsorted(), unsorted()...)
	x := tag("b", attrs[:5]...)
	gives(t, "Push", b.l.Push(b.elem(html, "b"), x), ok)
	gives(t, "Put", b.l.Put(0, b.elem(html, "b"), x), ok)
	gives(t, "Push", b.l.Push(b.elem(html, "b"), x), ok)
	gives(t, "Push", b.l.Push(b.elem(html, "b"), x), ok)
	if !slices.Equal(attrs, append(unsorted(), unsorted()...)) {
		t.Errorf("the attributes have changed: %v", attrs)
	}
}

// P4: attributes that the caller changes behind the call: neither what is told nor what is alike changes.
func TestHandedInIsNotKept(t *testing.T) {
	b := newBench(t)
	attrs := unsorted()
	ids := []int{b.elem(html, "b"), b.elem(html, "b"), b.elem(html, "b")}
	gives(t, "Push", b.l.Push(ids[0], tag("b", attrs...)), ok)
	gives(t, "Push", b.l.Push(ids[1], api.Token{Name: "b", Attrs: attrs}), ok)
	gives(t, "Put", b.l.Put(2, ids[2], api.Token{Name: "b", Attrs: attrs}), ok)
	for i := range attrs {
		attrs[i] = attr("changed", "1")
	}
	carries(t, b.l, 0, tag("b", unsorted()...))
	carries(t, b.l, 1, api.Token{Name: "b", Attrs: unsorted()})
	carries(t, b.l, 2, api.Token{Name: "b", Attrs: unsorted()})
	changed := b.push(html, "b", attr("changed", "1"))
	holds(t, b.l, append(ids, changed)...)
	holds(t, b.l, ids[1], ids[2], changed, b.push(html, "b", unsorted()...))
}

// P4: an entry that was told and is changed by the caller, or appended to.
func TestToldIsNew(t *testing.T) {
	b := newBench(t)
	ids := []int{b.push(html, "b", unsorted()...), b.push(html, "b", unsorted()...), b.push(html, "b", unsorted()...)}
	for i := range ids {
		x, _ := b.l.At(i)
		y, _ := b.l.At(i)
		for n := range x.Token.Attrs {
			x.Token.Attrs[n] = attr("changed", "1")
		}
		if !slices.Equal(y.Token.Attrs, unsorted()) {
			t.Errorf("two answers share their attributes: %v", y.Token.Attrs)
		}
		_ = append(y.Token.Attrs[:0], attr("changed", "2"), attr("changed", "3"))
		x.Node, x.Token.Name = 99, "x"
		carries(t, b.l, i, tag("b", unsorted()...))
	}
	holds(t, b.l, ids...)
	holds(t, b.l, ids[1], ids[2], b.push(html, "b", unsorted()...))
}

// P4: a told token that is handed in once more, and then changed, is not the first one's.
func TestToldIsHandedIn(t *testing.T) {
	b := newBench(t)
	b.push(html, "b", unsorted()...)
	x, _ := b.l.At(0)
	gives(t, "Push", b.l.Push(b.elem(html, "b"), x.Token), ok)
	gives(t, "Put", b.l.Put(0, b.elem(html, "b"), x.Token), ok)
	x.Token.Attrs[0] = attr("changed", "1")
	for i := range 3 {
		carries(t, b.l, i, tag("b", unsorted()...))
	}
}

// P4: two lists with entries of one token.
func TestListsShareNothing(t *testing.T) {
	b := newBench(t)
	other := newList(t, b.a)
	x := tag("b", unsorted()...)
	id := b.elem(html, "b")
	gives(t, "Push", b.l.Push(id, x), ok)
	gives(t, "Push", other.Push(id, x), ok)
	told, _ := other.At(0)
	told.Token.Attrs[0] = attr("changed", "1")
	carries(t, b.l, 0, tag("b", unsorted()...))
	carries(t, other, 0, tag("b", unsorted()...))
	gives(t, "Swap", other.Swap(id, b.elem(html, "i")), ok)
	holds(t, b.l, id)
	last(t, b.l, "b", id)
	last(t, other, "b", none)
}
