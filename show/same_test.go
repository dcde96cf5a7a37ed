package show_test

import (
	"math/rand"
	"reflect"
	"slices"
	"testing"

	"hornbeam/api"
	"hornbeam/node"
	"hornbeam/show"
)

// P3.2, of Same

// checkAlike asks Same both ways round.
func checkAlike(t *testing.T, what any, a *node.Arena, x int, b *node.Arena, y int, want bool) {
	t.Helper()
	if got := show.Same(a, x, b, y); got != want {
		t.Errorf("%v: Same(%d, %d): %v", what, x, y, got)
	}
	if got := show.Same(b, y, a, x); got != want {
		t.Errorf("%v, turned round: Same(%d, %d): %v", what, y, x, got)
	}
}

// rich has all that trees can differ in.
func rich() thing {
	return document(
		comment("c"),
		doctype("html", "public", "system"),
		elem("html",
			elem("p", text("a"), text("b"), comment("c"), elem("b", text("deep"))).with(
				api.Attr{Name: "x", Value: "1"}, api.Attr{Space: api.XLink, Prefix: "xlink", Name: "x", Value: "2"}, api.Attr{Name: "x", Value: "1", Prefix: "p"}),
			elem("template", text("in no contents")).in(api.SVG).with(api.Attr{Name: "a"}),
			template([]thing{text("in"), template([]thing{elem("i").with(api.Attr{Name: "y"})})}, text("kid"), elem("u")),
			elem("math").in(api.MathML),
			elem("empty")),
		text("end"))
}

func TestSameOfCopies(t *testing.T) {
	m := newMaker(t)
	m.make(rich())
	b := m.Copy()
	for id := range m.Len() {
		checkAlike(t, "itself", m.Arena, id, m.Arena, id, true)
		checkAlike(t, "a copy", m.Arena, id, b, id, true)
	}
	was := all(m.Arena)
	checkSame(t, b, was)
	checkSame(t, m.Arena, was)
}

func TestSameOfOtherNumbers(t *testing.T) { // nodes are told by what they are, not by their numbers
	m, n := newMaker(t), newMaker(t)
	x, y := m.make(rich()), n.back(rich())
	if reflect.DeepEqual(all(m.Arena), all(n.Arena)) {
		t.Fatal("the nodes should have other numbers")
	}
	checkAlike(t, "made in another order", m.Arena, x, n.Arena, y, true)
}

func TestSameInOneArena(t *testing.T) {
	m := newMaker(t)
	x, y := m.make(elem("p", rich().kids...)), m.back(elem("p", rich().kids...))
	checkAlike(t, "in one arena", m.Arena, x, m.Arena, y, true)
	z := m.make(elem("p", elem("p")))
	in := m.Kids(z)[0]
	checkAlike(t, "one below the other", m.Arena, z, m.Arena, in, false)
	m.link(in, m.one(elem("p")), none)
	checkAlike(t, "one below the other", m.Arena, z, m.Arena, in, false)
	checkAlike(t, "the last of them", m.Arena, in+1, m.Arena, m.one(elem("p")), true)
}

func TestSameLooksNotAbove(t *testing.T) { // what is above and beside the two nodes has no part
	m, n := newMaker(t), newMaker(t)
	m.make(document(elem("a", elem("p", text("x")), text("y"))))
	n.make(document(text("ahead"), elem("p", text("x"))))
	checkAlike(t, "with other parents and neighbours", m.Arena, 2, n.Arena, 2, true)
	checkAlike(t, "texts with other parents and neighbours", m.Arena, 3, n.Arena, 3, true)
	checkAlike(t, "their parents", m.Arena, 0, n.Arena, 0, false)
}

func TestSameOfFragments(t *testing.T) { // whose contents a fragment is has no part
	m := newMaker(t)
	x := m.make(template([]thing{text("a")}))
	y := m.make(template([]thing{text("a")}, text("kid")))
	z := m.make(fragment(text("a")))
	checkAlike(t, "contents", m.Arena, x+1, m.Arena, y+1, true)
	checkAlike(t, "contents and a fragment", m.Arena, x+1, m.Arena, z, true)
	checkAlike(t, "templates with other children", m.Arena, x, m.Arena, y, false)
	checkAlike(t, "a fragment and an element", m.Arena, z, m.Arena, m.make(elem("", text("a"))), false)
	checkAlike(t, "a fragment and the document", m.Arena, m.make(fragment()), node.New(), 0, false)
}

func TestSameOfContentsAndChildren(t *testing.T) { // the same nodes, but on the other side of the template
	m := newMaker(t)
	x, y := m.make(template([]thing{text("a")})), m.make(template(nil, text("a")))
	checkAlike(t, "in the contents and below", m.Arena, x, m.Arena, y, false)
	checkAlike(t, "a tree that is longer", m.Arena, m.make(elem("p", elem("b", text("a")))), m.Arena, m.make(elem("p", elem("b"), text("a"))), false)
}

func TestSameOfKinds(t *testing.T) {
	things := []thing{document(), elem("a"), text("a"), comment("a"), doctype("a", "", ""), doctype("", "a", ""), fragment(),
		elem(""), text(""), comment(""), doctype("", "", ""), elem("a").in(api.MathML), elem("a").in(api.SVG), elem("template"), elem("template").in(api.SVG)}
	for i, x := range things {
		for j, y := range things {
			m, n := newMaker(t), newMaker(t)
			checkAlike(t, []thing{x, y}, m.Arena, m.make(x), n.Arena, n.make(y), i == j)
		}
	}
}

// others are all things that differ from x in one place: in a field, an attribute, a child, one after the other.
func (x thing) others() []thing {
	l := append(x.otherFields(), x.otherAttrs()...)
	if x.kind == api.KDocument || x.kind == api.KElement || x.kind == api.KFragment {
		for _, kids := range otherLists(x.kids) {
			y := x
			y.kids = kids
			l = append(l, y)
		}
	}
	if x.isTemplate() {
		for _, inner := range otherLists(x.inner) {
			y := x
			y.inner = inner
			l = append(l, y)
		}
	}
	return l
}

func (x thing) otherFields() []thing {
	if x.kind == api.KDocument || x.kind == api.KFragment {
		return nil
	}
	name, data, system := x, x, x
	name.name += "x"
	data.data += "x"
	system.system += "x"
	switch x.kind {
	case api.KText:
		return []thing{data, comment(x.data)}
	case api.KComment:
		return []thing{data, text(x.data)}
	case api.KDoctype:
		return []thing{name, data, system}
	}
	name.inner = nil // it is no template any more
	l := []thing{name}
	for space := range 3 {
		if y := x.in(space); space != x.space {
			y.inner = nil
			l = append(l, y)
		}
	}
	return l
}

func (x thing) otherAttrs() []thing {
	if x.kind != api.KElement {
		return nil
	}
	l := []thing{x.with(append(slices.Clone(x.attrs), api.Attr{Name: "more"})...)}
	for i := range x.attrs {
		l = append(l, x.with(slices.Delete(slices.Clone(x.attrs), i, i+1)...))
		for _, change := range []func(*api.Attr){
			func(y *api.Attr) { y.Space = 5 - y.Space },
			func(y *api.Attr) { y.Prefix += "x" },
			func(y *api.Attr) { y.Name += "x" },
			func(y *api.Attr) { y.Value += "x" },
		} {
			attrs := slices.Clone(x.attrs)
			change(&attrs[i])
			l = append(l, x.with(attrs...))
		}
		if i > 0 {
			attrs := slices.Clone(x.attrs)
			attrs[i-1], attrs[i] = attrs[i], attrs[i-1]
			l = append(l, x.with(attrs...))
		}
	}
	return l
}

// otherLists are lists with one more, one less, two turned round, or one that differs in one place.
func otherLists(things []thing) [][]thing {
	var l [][]thing
	for i := range len(things) + 1 {
		l = append(l, slices.Insert(slices.Clone(things), i, text("one more")))
	}
	for i, x := range things {
		l = append(l, slices.Delete(slices.Clone(things), i, i+1))
		if i > 0 {
			turned := slices.Clone(things)
			turned[i-1], turned[i] = turned[i], turned[i-1]
			l = append(l, turned)
		}
		for _, y := range x.others() {
			other := slices.Clone(things)
			other[i] = y
			l = append(l, other)
		}
	}
	return l
}

func TestSameOfTreesThatDifferInOnePlace(t *testing.T) {
	m := newMaker(t)
	x := m.make(rich())
	others := rich().others()
	if len(others) < 150 {
		t.Fatalf("too few places: %d", len(others))
	}
	for i, other := range others {
		n, back := newMaker(t), newMaker(t)
		y, z := n.make(other), back.back(other)
		checkAlike(t, i, m.Arena, x, n.Arena, y, false)
		checkAlike(t, i, n.Arena, y, back.Arena, z, true)
	}
}

func TestSameOfChangesInOnePlace(t *testing.T) { // by layer 1's calls, on a copy
	m := newMaker(t)
	m.make(rich())
	for i, change := range []func(a *node.Arena) api.Errno{
		func(a *node.Arena) api.Errno { return a.SetData(1, "d") },
		func(a *node.Arena) api.Errno { return a.SetData(6, "") },
		func(a *node.Arena) api.Errno { return a.Unlink(a.Len() - 1) },
		func(a *node.Arena) api.Errno { return a.SetAttr(3, api.Attr{Name: "a"}) },
		func(a *node.Arena) api.Errno { return a.SetAttr(4, api.Attr{Name: "x", Value: "2"}) },
		func(a *node.Arena) api.Errno { return a.DelAttr(4, api.XLink, "x") },
	} {
		b := m.Copy()
		if e := change(b); e != api.OK {
			t.Fatalf("change %d: %d", i, e)
		}
		checkAlike(t, i, m.Arena, 0, b, 0, false)
	}
}

func TestSameOfNoNode(t *testing.T) {
	m, n := newMaker(t), newMaker(t)
	m.make(document(elem("p"), text("a")))
	n.make(document(elem("p"), text("a"), text("b")))
	bad := append(outside, n.Len())
	for _, x := range bad {
		for id := range m.Len() {
			checkAlike(t, "in one arena", m.Arena, id, n.Arena, x, false)
			checkAlike(t, "in one arena", n.Arena, id, m.Arena, x, false)
			checkAlike(t, "in the arena itself", m.Arena, id, m.Arena, x, false)
		}
		for _, y := range bad {
			checkAlike(t, "in both arenas", m.Arena, x, n.Arena, y, false)
			checkAlike(t, "in the arena itself", m.Arena, x, m.Arena, y, false)
		}
	}
	checkAlike(t, "a number that is a node's in one arena alone", m.Arena, 3, n.Arena, 3, false)
}

func TestSameOfDeepTrees(t *testing.T) {
	m, n := newMaker(t), newMaker(t)
	var last int
	for _, one := range []maker{m, n} {
		last = 0
		for one.Len() < maxNodes-1 {
			id := one.one(elem("p"))
			one.link(last, id, none)
			last = id
		}
	}
	checkAlike(t, "deep", m.Arena, 0, n.Arena, 0, true)
	checkAlike(t, "one less deep", m.Arena, 1, n.Arena, 2, false)
	m.link(last, m.one(text("a")), none)
	checkAlike(t, "one more at the bottom", m.Arena, 0, n.Arena, 0, false)
	n.link(last, n.one(text("b")), none)
	checkAlike(t, "another one at the bottom", m.Arena, 0, n.Arena, 0, false)
	n.SetData(maxNodes-1, "a")
	checkAlike(t, "the same one at the bottom", m.Arena, 0, n.Arena, 0, true)
}

func TestSameOfDeepTemplates(t *testing.T) {
	m, n := newMaker(t), newMaker(t)
	for _, one := range []maker{m, n} {
		in := 0
		for one.Len() < maxNodes-1 {
			id := one.one(template(nil))
			one.link(in, id, none)
			in = id + 1
		}
	}
	checkAlike(t, "deep", m.Arena, 0, n.Arena, 0, true)
	m.link(m.Len()-1, m.one(text("a")), none)
	checkAlike(t, "one more in the last contents", m.Arena, 0, n.Arena, 0, false)
}

func TestSameOfWideTrees(t *testing.T) {
	m, n := newMaker(t), newMaker(t)
	for _, one := range []maker{m, n} {
		for one.Len() < maxNodes {
			one.link(0, one.one(text("a")), none)
		}
	}
	checkAlike(t, "wide", m.Arena, 0, n.Arena, 0, true)
	n.SetData(maxNodes-1, "b")
	checkAlike(t, "another last one", m.Arena, 0, n.Arena, 0, false)
	n.Unlink(maxNodes - 1)
	checkAlike(t, "one less", m.Arena, 0, n.Arena, 0, false)
	m.Unlink(1)
	checkAlike(t, "one less in both", m.Arena, 0, n.Arena, 0, true)
}

// P3.4, of Same

func TestAlikeTreesAreShownAlike(t *testing.T) {
	var pages []thing
	for seed := range int64(300) {
		pages = append(pages, document(randomThings(rand.New(rand.NewSource(seed)), 2)...))
	}
	alike := 0
	for i, x := range pages {
		m, n := newMaker(t), newMaker(t)
		m.make(x)
		other := pages[(i+1)%len(pages)]
		if i%2 == 0 {
			other = x
		}
		n.back(other)
		same := show.Same(m.Arena, 0, n.Arena, 0)
		if want := reflect.DeepEqual(x, other); same != want {
			t.Errorf("Same: %v of %+v and %+v", same, x, other)
		}
		if same {
			alike++
			want, _ := show.Show(m.Arena, 0)
			checkShow(t, n.Arena, 0, want)
		}
	}
	if alike < 150 || alike == len(pages) {
		t.Errorf("%d pairs are alike", alike)
	}
}
