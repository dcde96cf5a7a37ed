package node_test

import (
	"math/rand"
	"reflect"
	"slices"
	"testing"

	"hornbeam/api"
	"hornbeam/node"
)

// P1.6

// checkSound asks that children and parents agree, neighbours too, and that no node is above itself.
func checkSound(t *testing.T, a *node.Arena) {
	t.Helper()
	nodes := all(a)
	parents := make([]int, len(nodes))
	for id := range parents {
		parents[id] = none
	}
	for id, x := range nodes {
		kids := forwards(nodes, x.First)
		back := backwards(nodes, x.Last)
		slices.Reverse(back)
		if !slices.Equal(kids, back) || !slices.Equal(kids, a.Kids(id)) {
			t.Fatalf("children of %d: %v, backwards %v, Kids %v", id, kids, back, a.Kids(id))
		}
		for _, kid := range kids {
			if parents[kid] != none {
				t.Fatalf("%d is a child of %d and of %d", kid, parents[kid], id)
			}
			parents[kid] = id
		}
	}
	for id, x := range nodes {
		if x.Parent != parents[id] || x.Parent == none && (x.Prev != none || x.Next != none) {
			t.Fatalf("node %d: %+v is a child of %d", id, x, parents[id])
		}
	}
	checkNoneAboveItself(t, a, nodes)
}

// forwards and backwards end too where links lead round.
func forwards(nodes []api.Node, id int) []int {
	var l []int
	for ; id != none && len(l) <= len(nodes); id = nodes[id].Next {
		l = append(l, id)
	}
	return l
}

func backwards(nodes []api.Node, id int) []int {
	var l []int
	for ; id != none && len(l) <= len(nodes); id = nodes[id].Prev {
		l = append(l, id)
	}
	return l
}

func checkNoneAboveItself(t *testing.T, a *node.Arena, nodes []api.Node) {
	t.Helper()
	if nodes[0].Parent != none {
		t.Fatalf("the document has the parent %d", nodes[0].Parent)
	}
	for id := range nodes {
		up := id
		for steps := 0; up != none; steps++ {
			if steps > len(nodes) {
				t.Fatalf("node %d is above itself", id)
			}
			if nodes[up].Parent != none {
				up = nodes[up].Parent
			} else {
				up = a.Host(up)
			}
		}
	}
}

// plain is what an arena must be, told without links: of each node its kind, its children, and what it is in.
type plain struct {
	kinds []int
	kids  [][]int
	in    []int // the parent
	hosts []int
}

func (p *plain) add(kind int, host int) {
	p.kinds, p.kids = append(p.kinds, kind), append(p.kids, nil)
	p.in, p.hosts = append(p.in, none), append(p.hosts, host)
}

func (p *plain) has(id int) bool { return id >= 0 && id < len(p.kinds) }

func (p *plain) above(id int, other int) bool {
	for id != other {
		up := p.in[id]
		if up == none {
			up = p.hosts[id]
		}
		if up == none {
			return false
		}
		id = up
	}
	return true
}

func (p *plain) link(parent, child, before int) api.Errno {
	switch {
	case !p.has(parent), !p.has(child), before != none && !p.has(before):
		return api.ErrNone
	case !slices.Contains([]int{api.KDocument, api.KElement, api.KFragment}, p.kinds[parent]):
		return api.ErrKind
	case p.kinds[child] == api.KDocument, p.kinds[child] == api.KFragment:
		return api.ErrKind
	case p.in[child] != none, p.above(parent, child):
		return api.ErrLinked
	}
	at := len(p.kids[parent])
	if before != none {
		if at = slices.Index(p.kids[parent], before); at < 0 {
			return api.ErrArg
		}
	}
	p.kids[parent] = slices.Insert(p.kids[parent], at, child)
	p.in[child] = parent
	return api.OK
}

func (p *plain) unlink(id int) api.Errno {
	if !p.has(id) {
		return api.ErrNone
	}
	parent := p.in[id]
	if parent == none {
		return api.ErrState
	}
	at := slices.Index(p.kids[parent], id)
	p.kids[parent] = slices.Delete(p.kids[parent], at, at+1)
	p.in[id] = none
	return api.OK
}

func TestLinksAgainstAPlainTree(t *testing.T) {
	for seed := range int64(60) {
		r := rand.New(rand.NewSource(seed))
		a, p := randomNodes(r, 3+r.Intn(20))
		for range 400 {
			parent, child, before := r.Intn(a.Len()+2)-1, r.Intn(a.Len()+2)-1, none
			if r.Intn(2) == 0 {
				before = r.Intn(a.Len()+3) - 2
			}
			if r.Intn(3) == 0 {
				checkErr(t, "Unlink", a.Unlink(child), p.unlink(child))
			} else if got, want := a.Link(parent, child, before), p.link(parent, child, before); got != want {
				t.Fatalf("seed %d: Link(%d, %d, %d): %d; want %d", seed, parent, child, before, got, want)
			}
		}
		checkSound(t, a)
		checkPlain(t, a, p)
		checkPlain(t, a.Copy(), p)
	}
}

func randomNodes(r *rand.Rand, n int) (*node.Arena, *plain) {
	a, p := node.New(), &plain{}
	p.add(api.KDocument, none)
	for a.Len() < n {
		switch r.Intn(6) {
		case 0:
			a.Text("t")
			p.add(api.KText, none)
		case 1:
			a.Fragment()
			p.add(api.KFragment, none)
		case 2:
			id, _ := a.Element(api.HTML, "template", nil)
			p.add(api.KElement, none)
			p.add(api.KFragment, id)
		default:
			a.Element(api.HTML, "p", nil)
			p.add(api.KElement, none)
		}
	}
	return a, p
}

func checkPlain(t *testing.T, a *node.Arena, p *plain) {
	t.Helper()
	for id := range p.kinds {
		checkKids(t, a, id, p.kids[id]...)
		if x, _ := a.Node(id); x.Kind != p.kinds[id] || x.Parent != p.in[id] || a.Host(id) != p.hosts[id] {
			t.Fatalf("node %d: %+v, host %d", id, x, a.Host(id))
		}
		for other := range p.kinds {
			if a.Above(id, other) != p.above(id, other) {
				t.Fatalf("Above(%d, %d): %v", id, other, a.Above(id, other))
			}
		}
	}
}

func TestDeepTrees(t *testing.T) {
	m := newMaker(t)
	up := 0
	for m.Len() < maxNodes {
		id := m.elem("p")
		m.link(up, id, none)
		up = id
	}
	if !m.Above(up, 0) || m.Above(0, up) || !m.Above(up, 1) {
		t.Error("Above in a deep tree")
	}
	m.Unlink(1)
	checkErr(t, "below itself", m.Link(up, 1, none), api.ErrLinked)
	checkErr(t, "back", m.Link(0, 1, none), api.OK)
}

func TestDeepTemplates(t *testing.T) {
	m := newMaker(t)
	in := 0
	for range 2000 {
		id := m.elem("template")
		m.link(in, id, none)
		in = id + 1
	}
	m.Unlink(1)
	if !m.Above(in, 1) || m.Above(in, 0) {
		t.Error("Above in deep templates")
	}
	checkErr(t, "below itself", m.Link(in, 1, none), api.ErrLinked)
}

func TestWideTrees(t *testing.T) {
	m := newMaker(t)
	var want []int
	for m.Len() < maxNodes {
		id := m.text("")
		m.link(0, id, none)
		want = append(want, id)
	}
	if !reflect.DeepEqual(m.Kids(0), want) {
		t.Error("Kids of many")
	}
}

func TestSameCallsSameAnswers(t *testing.T) { // P5
	one, _ := randomNodes(rand.New(rand.NewSource(1)), 50)
	two, _ := randomNodes(rand.New(rand.NewSource(1)), 50)
	checkSame(t, one, all(two))
}
