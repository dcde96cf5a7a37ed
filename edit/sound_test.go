package edit_test

import (
	"math/rand"
	"slices"
	"testing"

	"hornbeam/api"
	"hornbeam/edit"
	"hornbeam/node"
)

// P2.5, and P2.1 and P2.2 held against a plain tree

func checkSound(t *testing.T, a *node.Arena) {
	t.Helper()
	nodes := all(a)
	linked := 0
	for id, x := range nodes {
		prev := none
		for kid := x.First; kid != none; kid = nodes[kid].Next {
			if nodes[kid].Parent != id || nodes[kid].Prev != prev {
				t.Fatalf("child %d of %d: %+v", kid, id, nodes[kid])
			}
			prev = kid
			linked++
		}
		if x.Last != prev {
			t.Fatalf("the last child of %d is %d; want %d", id, x.Last, prev)
		}
		if x.Parent != none {
			linked--
		}
	}
	if linked != 0 {
		t.Fatalf("children and parents don't agree")
	}
}

// checkPage asks for at most one doctype and one element, this one behind that, and no text.
func checkPage(t *testing.T, a *node.Arena) {
	t.Helper()
	kinds := ""
	for _, id := range a.Kids(0) {
		x, _ := a.Node(id)
		switch x.Kind {
		case api.KElement:
			kinds += "e"
		case api.KDoctype:
			kinds += "d"
		case api.KComment:
		default:
			kinds += "?"
		}
	}
	if !slices.Contains([]string{"", "e", "d", "de"}, kinds) {
		t.Fatalf("the document has the children %s", kinds)
	}
}

// plain is what an arena must be, told without links.
type plain struct {
	kinds []int
	kids  [][]int
	in    []int // the parent
	hosts []int
}

func (p *plain) add(kind int, host int) {
	p.kinds, p.kids = append(p.kinds, kind), append(p.kids, nil)
	p.in, p.hosts = append(p.in, none), append(p.hosts, host)
}

func (p *plain) has(id int) bool { return id >= 0 && id < len(p.kinds) }

func (p *plain) above(id int, other int) bool {
	for id != other {
		if id = max(p.in[id], p.hosts[id]); id == none {
			return false
		}
	}
	return true
}

// of tells the children of some kind, from a place up to another.
func (p *plain) of(parent int, kind int, from int, to int) int {
	n := 0
	for _, kid := range p.kids[parent][from:to] {
		if p.kinds[kid] == kind {
			n++
		}
	}
	return n
}

// may goes word by word by the chapter.
func (p *plain) may(id, parent, before int) api.Errno {
	if !p.has(id) || !p.has(parent) || before != none && !p.has(before) {
		return api.ErrNone
	}
	if k := p.kinds[parent]; k == api.KText || k == api.KComment || k == api.KDoctype || p.above(parent, id) {
		return api.ErrHierarchy
	}
	if before != none && p.in[before] != parent {
		return api.ErrNotFound
	}
	kind := p.kinds[id]
	if kind == api.KDocument || kind == api.KText && parent == 0 || kind == api.KDoctype && parent != 0 {
		return api.ErrHierarchy
	}
	if parent == 0 && !p.mayTop(id, before) {
		return api.ErrHierarchy
	}
	return api.OK
}

func (p *plain) mayTop(id, before int) bool {
	kind, all := p.kinds[id], len(p.kids[0])
	if kind == api.KFragment {
		own := len(p.kids[id])
		elements := p.of(id, api.KElement, 0, own)
		if p.of(id, api.KText, 0, own) > 0 || elements > 1 {
			return false
		}
		if elements == 1 {
			kind = api.KElement
		}
	}
	at := slices.Index(p.kids[0], before)
	switch {
	case kind == api.KElement && p.of(0, api.KElement, 0, all) > 0:
		return false
	case kind == api.KElement && before != none && (p.kinds[before] == api.KDoctype || p.of(0, api.KDoctype, at+1, all) > 0):
		return false
	case kind == api.KDoctype && p.of(0, api.KDoctype, 0, all) > 0:
		return false
	case kind == api.KDoctype && before == none && p.of(0, api.KElement, 0, all) > 0:
		return false
	case kind == api.KDoctype && before != none && p.of(0, api.KElement, 0, at) > 0:
		return false
	}
	return true
}

func (p *plain) remove(id int) api.Errno {
	if !p.has(id) {
		return api.ErrNone
	}
	parent := p.in[id]
	if parent == none {
		return api.ErrNotFound
	}
	p.kids[parent] = slices.DeleteFunc(p.kids[parent], func(kid int) bool { return kid == id })
	p.in[id] = none
	return api.OK
}

func (p *plain) insert(id, parent, before int) api.Errno {
	if e := p.may(id, parent, before); e != api.OK {
		return e
	}
	if before == id {
		return api.OK
	}
	comers := []int{id}
	if p.kinds[id] == api.KFragment {
		comers = slices.Clone(p.kids[id])
	}
	for _, one := range comers {
		p.remove(one)
	}
	at := slices.Index(p.kids[parent], before)
	if at < 0 {
		at = len(p.kids[parent])
	}
	p.kids[parent] = slices.Insert(p.kids[parent], at, comers...)
	for _, one := range comers {
		p.in[one] = parent
	}
	return api.OK
}

func checkPlain(t *testing.T, a *node.Arena, p *plain) {
	t.Helper()
	if a.Len() != len(p.kinds) {
		t.Fatalf("Len: %d; want %d", a.Len(), len(p.kinds))
	}
	for id, kind := range p.kinds {
		checkKids(t, a, id, p.kids[id]...)
		if x, _ := a.Node(id); x.Kind != kind || x.Parent != p.in[id] {
			t.Fatalf("node %d: %+v", id, x)
		}
	}
}

// randomNodes makes nodes of all kinds, none of them linked.
func randomNodes(r *rand.Rand, n int) (*node.Arena, *plain) {
	a, p := node.New(), &plain{}
	p.add(api.KDocument, none)
	for a.Len() < n {
		switch r.Intn(8) {
		case 0:
			a.Text("t")
			p.add(api.KText, none)
		case 1:
			a.Comment("c")
			p.add(api.KComment, none)
		case 2:
			a.Doctype("html", "", "")
			p.add(api.KDoctype, none)
		case 3, 4:
			a.Fragment()
			p.add(api.KFragment, none)
		case 5:
			id, _ := a.Element(api.HTML, "template", nil)
			p.add(api.KElement, none)
			p.add(api.KFragment, id)
		default:
			a.Element(r.Intn(3), "p", nil)
			p.add(api.KElement, none)
		}
	}
	return a, p
}

// pick tells a number, now and then one that is no node's, and often the document's.
func pick(r *rand.Rand, a *node.Arena) int {
	if r.Intn(4) == 0 {
		return 0
	}
	return r.Intn(a.Len()+3) - 2
}

// change does something to both trees, and asks for the same error.
func change(t *testing.T, r *rand.Rand, a *node.Arena, p *plain) {
	t.Helper()
	id, parent, before := pick(r, a), pick(r, a), none
	if p.has(parent) && len(p.kids[parent]) > 0 && r.Intn(2) == 0 {
		before = p.kids[parent][r.Intn(len(p.kids[parent]))]
	} else if r.Intn(3) == 0 {
		before = pick(r, a)
	}
	switch r.Intn(12) {
	case 0, 1:
		checkErr(t, "Remove", edit.Remove(a, id), p.remove(id))
	case 2:
		if at, e := edit.AddText(a, "x", parent); e == api.OK {
			p.add(api.KText, none)
			checkErr(t, "AddText", p.insert(at, parent, none), api.OK)
		}
	case 3:
		if at, e := edit.AddElement(a, "b", parent); e == api.OK {
			p.add(api.KElement, none)
			checkErr(t, "AddElement", p.insert(at, parent, none), api.OK)
		}
	default:
		may := edit.May(a, id, parent, before)
		if got, want := edit.Insert(a, id, parent, before), p.insert(id, parent, before); got != want || may != want {
			t.Fatalf("Insert(%d, %d, %d): %d; May: %d; want %d", id, parent, before, got, may, want)
		}
	}
}

func TestChangesAgainstAPlainTree(t *testing.T) {
	for seed := range int64(200) {
		r := rand.New(rand.NewSource(seed))
		a, p := randomNodes(r, 3+r.Intn(25))
		for range 300 {
			change(t, r, a, p)
			checkPage(t, a)
		}
		checkSound(t, a)
		checkPlain(t, a, p)
	}
}

func TestMayAgainstAPlainTree(t *testing.T) { // each node, each parent, each place
	for seed := range int64(40) {
		r := rand.New(rand.NewSource(seed))
		a, p := randomNodes(r, 3+r.Intn(14))
		for range 60 {
			change(t, r, a, p)
		}
		was := all(a)
		for id := -2; id <= a.Len(); id++ {
			for parent := -2; parent <= a.Len(); parent++ {
				for before := -2; before <= a.Len(); before++ {
					if got, want := edit.May(a, id, parent, before), p.may(id, parent, before); got != want {
						t.Fatalf("seed %d: May(%d, %d, %d): %d; want %d", seed, id, parent, before, got, want)
					}
				}
			}
		}
		checkSame(t, a, was)
	}
}

func TestDeepTrees(t *testing.T) {
	a := node.New()
	up := 0
	for a.Len() < maxNodes-1 {
		id, e := edit.AddElement(a, "b", up)
		if e != api.OK {
			t.Fatalf("AddElement: %d", e)
		}
		up = id
	}
	checkErr(t, "below itself", edit.Insert(a, 1, up, none), api.ErrHierarchy)
	text, e := edit.AddText(a, "x", up)
	checkErr(t, "the last one", e, api.OK)
	checkErr(t, "up", edit.Insert(a, text, 1, 2), api.OK)
	checkErr(t, "the lower half up", edit.Insert(a, up/2, 1, text), api.OK)
	checkErr(t, "the upper half down", edit.Insert(a, 2, up, none), api.OK)
	checkErr(t, "below itself still", edit.Insert(a, up/2, 2, none), api.ErrHierarchy)
	checkSound(t, a)
}

func TestFragmentsOfManyChildren(t *testing.T) {
	m := newMaker(t)
	f, p := m.one('f'), m.one('e')
	var want []int
	for m.Len() < maxNodes {
		want = append(want, m.put(f, "c")...)
	}
	checkErr(t, "Insert", edit.Insert(m.Arena, f, p, none), api.OK)
	checkKids(t, m.Arena, p, want...)
	checkKids(t, m.Arena, f)
}

func TestSameCallsSameAnswers(t *testing.T) { // P5
	var trees [2][]api.Node
	for i := range trees {
		r := rand.New(rand.NewSource(7))
		a, p := randomNodes(r, 20)
		for range 300 {
			change(t, r, a, p)
		}
		trees[i] = all(a)
		checkSame(t, a, trees[0])
	}
}
