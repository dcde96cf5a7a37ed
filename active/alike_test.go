package active_test

import (
	"slices"
	"strconv"
	"testing"

	"hornbeam/api"
)

// sort is what entries are made of.
type sort struct {
	space int
	name  string
	attrs []api.Attr
}

func (b bench) add(s sort) int {
	b.t.Helper()
	return b.push(s.space, s.name, s.attrs...)
}

// meets asks whether x is alike to y, by three of x and then one of y, with and without a marker ahead of them.
func meets(t *testing.T, what string, x sort, y sort, alike bool) {
	t.Helper()
	for _, marked := range []bool{false, true} {
		b := newBench(t)
		ids := b.grow("zero")
		if marked {
			b.mark()
			ids = append(ids, none)
		}
		at := len(ids)
		ids = append(ids, b.add(x), b.push(html, "between"), b.add(x), b.add(x), b.push(html, "behind"), b.add(y))
		if alike {
			ids = slices.Delete(ids, at, at+1)
		}
		if b.l.Len() != len(ids) {
			t.Errorf("%s: Len: %d; want %d (marked: %v)", what, b.l.Len(), len(ids), marked)
			continue
		}
		holds(t, b.l, ids...)
	}
}

func bothWays(t *testing.T, what string, x sort, y sort, alike bool) {
	t.Helper()
	meets(t, what, x, y, alike)
	meets(t, what+", the other way round", y, x, alike)
}

// P13.1: a fourth alike entry, a fifth and so on: the earliest goes each time, the others keep their order.
func TestFourth(t *testing.T) {
	for _, ahead := range [][]string{nil, {""}, {"b", "b", "b", ""}, {"b", "", "b", "b", ""}, {"x", "y"}} {
		b := newBench(t)
		ids := b.grow(ahead...)
		at := len(ids)
		ids = append(ids, b.grow("b", "x", "b", "y", "b", "z")...)
		holds(t, b.l, ids...)
		for _, gone := range []int{at, at + 1, at + 2, at + 3, at + 3} {
			ids = append(slices.Delete(ids, gone, gone+1), b.push(html, "b"))
			holds(t, b.l, ids...)
		}
	}
}

// P13.1: alike entries ahead of the last marker don't count, and do once the marker is gone.
func TestAheadOfTheMarker(t *testing.T) {
	b := newBench(t)
	ids := b.grow("b", "b", "b", "", "b", "b", "", "b", "b", "b")
	holds(t, b.l, ids...)
	ids = append(slices.Delete(ids, 7, 8), b.push(html, "b"))
	holds(t, b.l, ids...)
	cleared(t, b.l, 4)
	ids = append(ids[:6:6], b.push(html, "b"))
	holds(t, b.l, ids...)
	ids = append(slices.Delete(ids, 4, 5), b.push(html, "b"))
	holds(t, b.l, ids...)
	cleared(t, b.l, 4)
	holds(t, b.l, append(ids[1:3:3], b.push(html, "b"))...)
}

// P13.1: alike ones on both sides of a marker are not counted together.
func TestAcrossTheMarker(t *testing.T) {
	for ahead := range 6 {
		for behind := range 4 {
			b := newBench(t)
			var ids []int
			for range ahead {
				ids = append(ids, b.put(b.l.Len(), html, "b"))
			}
			b.mark()
			ids = append(ids, none)
			for range behind {
				ids = append(ids, b.push(html, "b"))
			}
			ids = append(ids, b.push(html, "b"))
			if behind == 3 {
				ids = slices.Delete(ids, ahead+1, ahead+2)
			}
			holds(t, b.l, ids...)
		}
	}
}

// P13.1, P13.2: Put counts nothing; a Push behind it takes one alike entry away, however many there are.
func TestAlikeByPut(t *testing.T) {
	for n := 2; n < 7; n++ {
		b := newBench(t)
		ids := b.grow("x", "")
		for range n {
			id := b.put(2, html, "b", attr("n", "1"))
			ids = slices.Insert(ids, 2, id)
		}
		holds(t, b.l, ids...)
		id := b.push(html, "b", attr("n", "1"))
		if n > 2 {
			ids = slices.Delete(ids, 2, 3)
		}
		ids = append(ids, id)
		holds(t, b.l, ids...)
	}
}

// P13.1: what differs in the name, the namespace, or one part of one attribute is unlike.
func TestUnlike(t *testing.T) {
	full := api.Attr{Space: api.XLink, Prefix: "xlink", Name: "href", Value: "u"}
	base := sort{html, "b", []api.Attr{attr("a", "1"), full, attr("c", "3")}}
	bothWays(t, "the same", base, base, true)
	with := func(x api.Attr) sort {
		return sort{html, "b", []api.Attr{attr("a", "1"), x, attr("c", "3")}}
	}
	rows := []struct {
		what  string
		other sort
	}{
		{"name", sort{html, "i", base.attrs}},
		{"name, longer", sort{html, "bb", base.attrs}},
		{"name, in large letters", sort{html, "B", base.attrs}},
		{"name, empty", sort{html, "", base.attrs}},
		{"name, no UTF-8", sort{html, "\xff", base.attrs}},
		{"MathML", sort{mathML, "b", base.attrs}},
		{"SVG", sort{svg, "b", base.attrs}},
		{"Space", with(api.Attr{Space: api.XML, Prefix: "xlink", Name: "href", Value: "u"})},
		{"no Space", with(api.Attr{Prefix: "xlink", Name: "href", Value: "u"})},
		{"Space below 0", with(api.Attr{Space: minInt, Prefix: "xlink", Name: "href", Value: "u"})},
		{"Prefix", with(api.Attr{Space: api.XLink, Prefix: "xlinc", Name: "href", Value: "u"})},
		{"no Prefix", with(api.Attr{Space: api.XLink, Name: "href", Value: "u"})},
		{"Name", with(api.Attr{Space: api.XLink, Prefix: "xlink", Name: "hreg", Value: "u"})},
		{"no Name", with(api.Attr{Space: api.XLink, Prefix: "xlink", Value: "u"})},
		{"Value", with(api.Attr{Space: api.XLink, Prefix: "xlink", Name: "href", Value: "U"})},
		{"no Value", with(api.Attr{Space: api.XLink, Prefix: "xlink", Name: "href"})},
		{"Value, no UTF-8", with(api.Attr{Space: api.XLink, Prefix: "xlink", Name: "href", Value: "\xff"})},
		{"parts that together say the same", with(api.Attr{Space: api.XLink, Prefix: "xlin", Name: "khref", Value: "u"})},
		{"Name and Value that together say the same", with(api.Attr{Space: api.XLink, Prefix: "xlink", Name: "hre", Value: "fu"})},
		{"one less", sort{html, "b", base.attrs[:2]}},
		{"another one less", sort{html, "b", base.attrs[1:]}},
		{"one more", sort{html, "b", append(slices.Clone(base.attrs), attr("d", "4"))}},
		{"one more, of the same name", sort{html, "b", append(slices.Clone(base.attrs), attr("c", "4"))}},
		{"one more, empty", sort{html, "b", append(slices.Clone(base.attrs), api.Attr{})}},
		{"one instead of another", sort{html, "b", []api.Attr{attr("a", "1"), full, full}}},
		{"one instead of another, at the end", sort{html, "b", []api.Attr{attr("a", "1"), full, attr("a", "1")}}},
		{"values changed over", sort{html, "b", []api.Attr{attr("a", "3"), full, attr("c", "1")}}},
		{"none", sort{html, "b", nil}},
		{"an empty one alone", sort{html, "b", []api.Attr{{}}}},
	}
	for i, x := range rows {
		bothWays(t, x.what, base, x.other, false)
		for _, y := range rows[i+1:] {
			bothWays(t, x.what+" and "+y.what, x.other, y.other, sameSort(x.other, y.other))
		}
	}
}

// sameSort is a plain reading of what is alike.
func sameSort(x sort, y sort) bool {
	within := func(p []api.Attr, q []api.Attr) bool {
		return !slices.ContainsFunc(p, func(a api.Attr) bool { return !slices.Contains(q, a) })
	}
	return x.space == y.space && x.name == y.name && within(x.attrs, y.attrs) && within(y.attrs, x.attrs)
}

// P13.1: attributes are sets: in each order, and one of them more than once, they are the same.
func TestSets(t *testing.T) {
	p, q, r := attr("p", "1"), attr("q", ""), api.Attr{Space: api.XML, Prefix: "xml", Name: "p", Value: "1"}
	base := sort{html, "b", []api.Attr{p, q, r}}
	for _, l := range [][]api.Attr{
		{p, q, r}, {p, r, q}, {q, p, r}, {q, r, p}, {r, p, q}, {r, q, p},
		{p, p, q, r}, {p, q, q, r}, {p, q, r, r}, {p, q, r, p}, {r, r, q, q, p, p}, {r, q, p, q, r, p, p, p},
	} {
		bothWays(t, "the same set", base, sort{html, "b", l}, true)
	}
	for _, l := range [][]api.Attr{
		{p, q, q}, {p, p, q}, {p, r, p}, {q, q, r, r}, {p, p, p, p}, {p, q, r, attr("p", "2")}, {p, p, q, attr("r", "1")},
	} {
		bothWays(t, "another set", base, sort{html, "b", l}, false)
	}
	bothWays(t, "one and the same twice", sort{html, "b", []api.Attr{p}}, sort{html, "b", []api.Attr{p, p}}, true)
	bothWays(t, "twice the one, twice the other", sort{html, "b", []api.Attr{p, p, q}}, sort{html, "b", []api.Attr{q, q, p}}, true)
	bothWays(t, "the one twice, and both", sort{html, "b", []api.Attr{p, p}}, sort{html, "b", []api.Attr{p, q}}, false)
	bothWays(t, "nil and empty", sort{html, "b", nil}, sort{html, "b", []api.Attr{}}, true)
}

// P13.1: sets of attributes that differ from one another in one part alone.
func TestSetsOfNearOnes(t *testing.T) {
	p := api.Attr{Space: api.XLink, Prefix: "p", Name: "n", Value: "v"}
	for _, q := range []api.Attr{
		{Space: api.XML, Prefix: "p", Name: "n", Value: "v"},
		{Space: api.XLink, Prefix: "q", Name: "n", Value: "v"},
		{Space: api.XLink, Prefix: "p", Name: "m", Value: "v"},
		{Space: api.XLink, Prefix: "p", Name: "n", Value: "w"},
	} {
		base := sort{html, "b", []api.Attr{p, q}}
		for _, l := range [][]api.Attr{{q, p}, {p, q, p}, {q, p, q}, {q, p, p, q}, {p, q, p, q}} {
			bothWays(t, "the same set", base, sort{html, "b", l}, true)
		}
		for _, l := range [][]api.Attr{{p}, {q}, {p, p}, {q, q}} {
			bothWays(t, "another set", base, sort{html, "b", l}, false)
		}
	}
}

// P13.1: the three that stand there may have their attributes in three orders.
func TestThreeOrders(t *testing.T) {
	p, q, r := attr("p", "1"), attr("q", "2"), attr("r", "3")
	b := newBench(t)
	ids := []int{b.push(html, "b", p, q, r), b.push(html, "b", r, q, p), b.push(html, "b", p, q), b.push(html, "b", q, q, p, r)}
	holds(t, b.l, ids...)
	holds(t, b.l, append(ids[1:], b.push(html, "b", r, p, q))...)
}

// P13.1: elements' names count and tokens' attributes, not tokens' names or what else they tell, nor the attributes
// that elements have.
func TestWhatCounts(t *testing.T) {
	b := newBench(t)
	tokens := []api.Token{
		{Kind: api.TStart, Name: "b", Attrs: []api.Attr{attr("n", "1")}},
		{Kind: api.TEnd, Name: "x", Self: true, Attrs: []api.Attr{attr("n", "1")}},
		{Kind: api.TDoctype, Data: "d", System: "s", Has: 7, Quirks: true, Char: 'c', Attrs: []api.Attr{attr("n", "1")}},
		{Kind: minInt, Has: maxInt, Char: -1, Attrs: []api.Attr{attr("n", "1")}},
	}
	var ids []int
	for i, x := range tokens {
		id, _ := b.a.Element(html, "b", []api.Attr{attr("own", strconv.Itoa(i))})
		gives(t, "Push", b.l.Push(id, x), ok)
		gives(t, "SetAttr", b.a.SetAttr(id, attr("late", strconv.Itoa(i))), ok)
		ids = append(ids, id)
	}
	holds(t, b.l, ids[1:]...)
	for i, x := range tokens[1:] {
		carries(t, b.l, i, x)
	}
	for _, name := range []string{"i", "u"} {
		gives(t, "Push of another name", b.l.Push(b.elem(html, name), tokens[0]), ok)
	}
	if b.l.Len() != 5 {
		t.Errorf("Len: %d", b.l.Len())
	}
}

// P13.1, P13.2: an entry that was swapped is alike by its new element and its old token.
func TestAlikeBySwap(t *testing.T) {
	b := newBench(t)
	ids := []int{b.push(html, "i", attr("n", "1")), b.push(svg, "b", attr("n", "1")), b.push(html, "b", attr("n", "1")), b.push(html, "i")}
	for _, i := range []int{0, 1} {
		id := b.elem(html, "b")
		gives(t, "Swap", b.l.Swap(ids[i], id), ok)
		ids[i] = id
	}
	ids = append(ids[1:], b.push(html, "b", attr("n", "1")))
	holds(t, b.l, ids...)
	id := b.elem(html, "i")
	gives(t, "Swap", b.l.Swap(ids[0], id), ok)
	ids[0] = id
	ids = append(ids, b.push(html, "b", attr("n", "1")))
	holds(t, b.l, ids...)
}

// P13.4: with Push and Mark alone, whatever goes meanwhile, never more than three alike ones behind a marker.
func TestNeverFour(t *testing.T) {
	sorts := manySorts()
	for n := range 200 {
		b := newBench(t)
		is := map[int]sort{}
		for step := range 120 {
			pick := (step*step + n*step + n) % 97
			switch {
			case pick%11 == 10:
				b.mark()
			case pick%23 == 22:
				b.l.Clear()
			case pick%13 == 12:
				b.l.Remove(1 + pick%b.a.Len())
			default:
				s := sorts[pick%(1+n%len(sorts))]
				is[b.add(s)] = s
			}
			neverFour(t, b, is)
		}
	}
}

func neverFour(t *testing.T, b bench, is map[int]sort) {
	t.Helper()
	var behind []sort
	for i := range b.l.Len() {
		x, _ := b.l.At(i)
		if x.Node == none {
			behind = nil
			continue
		}
		behind = append(behind, is[x.Node])
		n := 0
		for _, s := range behind {
			if sameSort(s, is[x.Node]) {
				n++
			}
		}
		if n > 3 {
			t.Fatalf("%d alike ones behind a marker", n)
		}
	}
}

// manySorts are such that many are alike, though they are written otherwise.
func manySorts() []sort {
	p, q := attr("p", "1"), attr("p", "2")
	r := api.Attr{Space: api.XLink, Prefix: "xlink", Name: "p", Value: "1"}
	var l []sort
	for _, attrs := range [][]api.Attr{nil, {p}, {p, p}, {p, q}, {q, p}, {r}, {r, p}, {p, r, p}, {q}, {p, q, r}, {r, q, p}} {
		for _, name := range []string{"b", "i"} {
			l = append(l, sort{html, name, attrs}, sort{svg, name, attrs})
		}
	}
	return l
}

// P1: a token may have as many attributes as memory holds, in any order.
func TestManyAttributes(t *testing.T) {
	const many = 1 << 15
	up, down := make([]api.Attr, many), make([]api.Attr, many)
	for i := range many {
		up[i] = attr("n"+strconv.Itoa(i), "v")
		down[many-1-i] = up[i]
	}
	bothWays(t, "many, turned round", sort{html, "b", up}, sort{html, "b", down}, true)
	bothWays(t, "many, and one less", sort{html, "b", up}, sort{html, "b", up[1:]}, false)
}
