package place_test

import (
	"fmt"
	"math/rand"
	"slices"
	"testing"

	"hornbeam/api"
	"hornbeam/place"
)

// plainNode is a node as the chapters have it, with its children as a list.
type plainNode struct {
	kind  int
	space int
	name  string
	data  string
	inner int
	kids  []int
}

// plain does what the chapter says in the simplest way: it looks for parents through all nodes, and for tables and
// templates through the whole stack, each by itself.
type plain struct {
	nodes []plainNode
	pile  []int
}

func (p *plain) has(id int) bool {
	return id >= 0 && id < len(p.nodes)
}

func (p *plain) hasPlace(at api.Spot) bool {
	return p.has(at.Parent) && (at.Before == none || p.has(at.Before))
}

func (p *plain) parent(id int) int {
	for i, x := range p.nodes {
		if slices.Contains(x.kids, id) {
			return i
		}
	}
	return none
}

func (p *plain) is(id int, name string) bool {
	x := p.nodes[id]
	return x.kind == api.KElement && x.space == html && x.name == name
}

// last is the place of the last open element of a name.
func (p *plain) last(name string) int {
	at := -1
	for i, id := range p.pile {
		if p.is(id, name) {
			at = i
		}
	}
	return at
}

func (p *plain) spot(target int, foster bool) (api.Spot, api.Errno) {
	if !p.has(target) {
		return api.Spot{}, errNone
	}
	at := api.Spot{Parent: target, Before: none}
	if foster && slices.ContainsFunc(tableParts, func(name string) bool { return p.is(target, name) }) {
		at = p.foster(target)
	}
	if p.is(at.Parent, "template") {
		at = api.Spot{Parent: p.nodes[at.Parent].inner, Before: none}
	}
	return at, ok
}

func (p *plain) foster(target int) api.Spot {
	table, template := p.last("table"), p.last("template")
	switch {
	case template >= 0 && (table < 0 || template > table):
		return api.Spot{Parent: p.nodes[p.pile[template]].inner, Before: none}
	case table < 0 && len(p.pile) == 0:
		return api.Spot{Parent: target, Before: none}
	case table < 0:
		return api.Spot{Parent: p.pile[0], Before: none}
	case p.parent(p.pile[table]) >= 0:
		return api.Spot{Parent: p.parent(p.pile[table]), Before: p.pile[table]}
	case table == 0:
		return api.Spot{Parent: target, Before: none}
	}
	return api.Spot{Parent: p.pile[table-1], Before: none}
}

// above asks whether other is id or above it.
func (p *plain) above(id int, other int) bool {
	for id != none && id != other {
		host := slices.IndexFunc(p.nodes, func(x plainNode) bool { return x.inner == id })
		id = max(p.parent(id), host)
	}
	return id == other
}

func (p *plain) put(at api.Spot, id int) api.Errno {
	if !p.has(id) || !p.hasPlace(at) {
		return errNone
	}
	if i := p.parent(id); i != none {
		p.nodes[i].kids = slices.DeleteFunc(p.nodes[i].kids, func(k int) bool { return k == id })
	}
	to, kind := &p.nodes[at.Parent], p.nodes[id].kind
	if kind == api.KDocument || kind == api.KFragment || p.above(at.Parent, id) {
		return errLinked
	}
	if to.kind == api.KText || to.kind == api.KComment || to.kind == api.KDoctype {
		return errLinked
	}
	i := slices.Index(to.kids, at.Before)
	if i < 0 {
		i = len(to.kids)
	}
	to.kids = slices.Insert(to.kids, i, id)
	return ok
}

func (p *plain) chars(at api.Spot, l []rune) api.Errno {
	if len(l) == 0 || at.Parent == 0 {
		return ok
	}
	if !p.hasPlace(at) {
		return errNone
	}
	to := p.nodes[at.Parent]
	i := slices.Index(to.kids, at.Before)
	if i < 0 {
		i = len(to.kids)
	}
	if i > 0 && p.nodes[to.kids[i-1]].kind == api.KText {
		p.nodes[to.kids[i-1]].data += string(l)
		return ok
	}
	if to.kind != api.KElement && to.kind != api.KFragment {
		return errLinked
	}
	p.nodes = append(p.nodes, plainNode{kind: api.KText, data: string(l), inner: none})
	return p.put(at, len(p.nodes)-1)
}

// twin is an arena and a stack beside a plain one.
type twin struct {
	bench
	plain
	r *rand.Rand
}

func newTwin(t *testing.T, seed int64) *twin {
	t.Helper()
	w := &twin{bench: newBench(t), r: rand.New(rand.NewSource(seed))}
	w.nodes = []plainNode{{kind: api.KDocument, inner: none}}
	for range 12 + w.r.Intn(12) {
		w.make()
	}
	return w
}

// make makes a node, an element mostly.
func (w *twin) make() {
	names := append([]string{"p", "body", "template", "template", "table"}, tableParts...)
	x := plainNode{kind: api.KElement, name: names[w.r.Intn(len(names))], inner: none}
	switch w.r.Intn(16) {
	case 0:
		x = plainNode{kind: api.KText, data: "t", inner: none}
		w.text("t")
	case 1:
		x = plainNode{kind: api.KComment, data: "c", inner: none}
		w.got(w.a.Comment("c"))
	case 2:
		x.kind = api.KDoctype
		w.got(w.a.Doctype(x.name, "", ""))
	case 3:
		x = plainNode{kind: api.KFragment, inner: none}
		w.got(w.a.Fragment())
	case 4:
		x.space = svg
		w.elem("svg " + x.name)
	default:
		w.elem(x.name)
	}
	w.nodes = append(w.nodes, x)
	if id := len(w.nodes) - 1; w.is(id, "template") {
		w.nodes[id].inner = id + 1
		w.nodes = append(w.nodes, plainNode{kind: api.KFragment, inner: none})
	}
}

// number is one of a node mostly.
func (w *twin) number() int {
	return w.r.Intn(len(w.nodes)+2) - 1
}

// spotAt is a place, ahead of a child of the parent often.
func (w *twin) spotAt() api.Spot {
	at := api.Spot{Parent: w.number(), Before: w.number()}
	if w.r.Intn(3) == 0 {
		at.Before = none
	}
	if w.has(at.Parent) && len(w.nodes[at.Parent].kids) > 0 && w.r.Intn(2) == 0 {
		at.Before = w.nodes[at.Parent].kids[w.r.Intn(len(w.nodes[at.Parent].kids))]
	}
	return at
}

// change makes one change to both, and tells it with both answers.
func (w *twin) change() (string, api.Errno, api.Errno) {
	at, id := w.spotAt(), w.number()
	switch w.r.Intn(8) {
	case 0:
		l := []rune("wxyz€")[w.r.Intn(3) : 3+w.r.Intn(3)]
		return fmt.Sprintf("Chars(%v, %v)", at, l), place.Chars(w.a, at, l), w.plain.chars(at, l)
	case 1:
		if w.has(id) && w.nodes[id].kind == api.KElement && !slices.Contains(w.pile, id) {
			w.pile = append(w.pile, id)
			return fmt.Sprintf("Push(%d)", id), w.s.Push(id), ok
		}
	case 2:
		if len(w.pile) > 0 && w.r.Intn(2) == 0 {
			w.pile = w.pile[:len(w.pile)-1]
			w.s.Pop()
			return "Pop", ok, ok
		}
	case 3:
		if len(w.nodes) < 60 {
			w.make()
			return "a new node", ok, ok
		}
	}
	return fmt.Sprintf("Put(%v, %d)", at, id), place.Put(w.a, at, id), w.plain.put(at, id)
}

// ask holds both trees against each other, and where things would go.
func (w *twin) ask() {
	w.t.Helper()
	if w.a.Len() != len(w.nodes) {
		w.t.Fatalf("Len: %d; want %d", w.a.Len(), len(w.nodes))
	}
	for id, x := range w.nodes {
		w.kids(id, x.kids...)
		if got := w.node(id); got.Data != x.data || got.Parent != w.parent(id) {
			w.t.Errorf("node %d: %v", id, got)
		}
	}
	for id := -1; id <= len(w.nodes); id++ {
		for _, foster := range []bool{false, true} {
			got, e := place.Spot(w.a, w.s, id, foster)
			if want, err := w.plain.spot(id, foster); got != want || e != err {
				w.t.Errorf("Spot(%d, %v) with %v open: %v, %d; want %v, %d", id, foster, w.pile, got, e, want, err)
			}
		}
	}
}

// P14.1, P14.2: many changes one behind the other, against a plain tree.
func TestManyChanges(t *testing.T) {
	for seed := range int64(80) {
		w := newTwin(t, seed)
		for range 120 {
			what, got, want := w.change()
			if got != want {
				t.Fatalf("seed %d, %s: %d; want %d", seed, what, got, want)
			}
			w.ask()
			if t.Failed() {
				t.Fatalf("seed %d, behind %s", seed, what)
			}
		}
	}
}
