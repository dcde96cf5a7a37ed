package adopt_test

import (
	"fmt"
	"math/rand"
	"reflect"
	"slices"
	"testing"

	"hornbeam/adopt"
	"hornbeam/api"
	"hornbeam/show"
)

// stillElements asks that what stands in the stack and in the list are elements, each once (P15.3).
func (b bench) stillElements() {
	b.t.Helper()
	seen := map[int]bool{}
	for i := range b.s.Len() {
		id := b.s.At(i)
		if x := b.node(id); x.Kind != api.KElement || seen[id] {
			b.t.Errorf("the stack has %d at %d: %v", id, i, x)
		}
		seen[id] = true
	}
	clear(seen)
	for i := range b.l.Len() {
		x, _ := b.l.At(i)
		if x.Node == none {
			continue
		}
		if y := b.node(x.Node); y.Kind != api.KElement || seen[x.Node] {
			b.t.Errorf("the list has %d at %d: %v", x.Node, i, y)
		}
		seen[x.Node] = true
	}
}

// plainNode is an element, a fragment or the document, with its children as a list.
type plainNode struct {
	space int
	name  string
	inner int
	kids  []int
}

// plain does what the chapter says in the simplest way: all is found by going through all that there is.
type plain struct {
	nodes []plainNode
	pile  []int
	list  []api.Entry
}

func (p *plain) parent(id int) int {
	return slices.IndexFunc(p.nodes, func(x plainNode) bool { return slices.Contains(x.kids, id) })
}

func (p *plain) make(space int, name string) int {
	id := len(p.nodes)
	p.nodes = append(p.nodes, plainNode{space: space, name: name, inner: none})
	if space == html && name == "template" {
		p.nodes[id].inner = id + 1
		p.nodes = append(p.nodes, plainNode{space: none, inner: none})
	}
	return id
}

func (p *plain) is(id int, names ...string) bool {
	return p.nodes[id].space == html && slices.Contains(names, p.nodes[id].name)
}

func (p *plain) above(id int, other int) bool {
	for id != none && id != other {
		host := slices.IndexFunc(p.nodes, func(x plainNode) bool { return x.inner == id })
		id = max(p.parent(id), host)
	}
	return id == other
}

// put puts a node below another one, ahead of a child or, with None, at the end.
func (p *plain) put(id int, parent int, before int) {
	if up := p.parent(id); up != none {
		p.nodes[up].kids = slices.DeleteFunc(slices.Clone(p.nodes[up].kids), func(k int) bool { return k == id })
	}
	if p.above(parent, id) {
		return
	}
	kids := p.nodes[parent].kids
	i := slices.Index(kids, before)
	if i < 0 {
		i = len(kids)
	}
	p.nodes[parent].kids = slices.Insert(slices.Clone(kids), i, id)
}

func (p *plain) last(name string) int {
	for i := len(p.pile) - 1; i >= 0; i-- {
		if p.is(p.pile[i], name) {
			return i
		}
	}
	return -1
}

// spot is chapter 14's place.
func (p *plain) spot(c int, foster bool) (int, int) {
	to, before := c, none
	table, template := p.last("table"), p.last("template")
	switch {
	case !foster || !p.is(c, "table", "tbody", "tfoot", "thead", "tr"):
	case template >= 0 && template > table:
		to = p.nodes[p.pile[template]].inner
	case table < 0:
		to = p.pile[0]
	case p.parent(p.pile[table]) != none:
		to, before = p.parent(p.pile[table]), p.pile[table]
	case table > 0:
		to = p.pile[table-1]
	}
	if p.is(to, "template") {
		return p.nodes[to].inner, none
	}
	return to, before
}

func (p *plain) entry(id int) int {
	return slices.IndexFunc(p.list, func(x api.Entry) bool { return x.Node == id })
}

func (p *plain) formatting(name string) int {
	f := none
	for _, x := range p.list {
		if x.Node == none {
			f = none
		} else if p.is(x.Node, name) {
			f = x.Node
		}
	}
	return f
}

func (p *plain) inScope(f int) bool {
	for i := len(p.pile) - 1; i >= 0; i-- {
		if p.pile[i] == f {
			return true
		}
		if p.is(p.pile[i], "table", "td", "template", "html") || p.nodes[p.pile[i]].space == svg && p.nodes[p.pile[i]].name == "title" {
			return false
		}
	}
	return false
}

func (p *plain) special(id int) bool {
	return p.is(id, "p", "div", "body", "table", "tbody", "tr", "td", "template", "html", "title") ||
		p.nodes[id].space == svg && p.nodes[id].name == "title"
}

func without[T any](l []T, i int) []T {
	return slices.Concat(l[:i], l[i+1:])
}

// run is P15.1, with an F, a B and so on for each round.
func (p *plain) run(name string, foster bool) (bool, int) {
	if n := len(p.pile); n > 0 && p.is(p.pile[n-1], name) && p.entry(p.pile[n-1]) < 0 {
		p.pile = p.pile[:n-1]
		return false, 0
	}
	errors := 0
	for range 8 {
		f := p.formatting(name)
		if f == none {
			return true, errors
		}
		at := slices.Index(p.pile, f)
		if at < 0 {
			p.list = without(p.list, p.entry(f))
			return false, errors + 1
		}
		if !p.inScope(f) {
			return false, errors + 1
		}
		if at != len(p.pile)-1 {
			errors++
		}
		up := slices.IndexFunc(p.pile[at:], func(id int) bool { return id != f && p.special(id) })
		if up < 0 {
			p.pile = p.pile[:at]
			p.list = without(p.list, p.entry(f))
			return false, errors
		}
		p.round(f, p.pile[at+up], foster)
	}
	return false, errors
}

// round tells the mark by the entry that it is ahead of: one of the list, as it stands, or its end.
func (p *plain) round(f int, b int, foster bool) {
	c := 0
	if at := slices.Index(p.pile, f); at > 0 {
		c = p.pile[at-1]
	}
	behind := p.list[p.entry(f):]
	at := slices.Index(p.pile, f)
	between := slices.Clone(p.pile[at+1 : slices.Index(p.pile, b)])
	slices.Reverse(between)
	l := b
	for i, n := range between {
		e := p.entry(n)
		if e >= 0 && i >= 3 {
			behind = slices.DeleteFunc(slices.Clone(behind), func(x api.Entry) bool { return x.Node == n })
			p.list = without(p.list, e)
			e = -1
		}
		if e < 0 {
			p.pile = without(p.pile, slices.Index(p.pile, n))
			continue
		}
		id := p.make(html, p.list[e].Token.Name)
		p.list = slices.Clone(p.list)
		p.list[e].Node = id
		p.pile[slices.Index(p.pile, n)] = id
		behind = slices.Clone(behind)
		for k := range behind {
			if behind[k].Node == n {
				behind[k].Node = id
			}
		}
		if l == b {
			behind = p.list[e+1:]
		}
		p.put(l, id, none)
		l = id
	}
	to, before := p.spot(c, foster)
	p.put(l, to, before)
	p.give(f, b, behind)
}

// give is the steps from M on.
func (p *plain) give(f int, b int, behind []api.Entry) {
	e := p.entry(f)
	token := p.list[e].Token
	m := p.make(html, token.Name)
	kids := p.nodes[b].kids
	for _, id := range kids {
		p.put(id, m, none)
	}
	p.put(m, b, none)
	gone := func(x api.Entry) bool { return x.Node == f }
	mark := len(p.list) - len(behind)
	ahead := slices.DeleteFunc(slices.Clone(p.list[:mark]), gone)
	behind = slices.DeleteFunc(slices.Clone(p.list[mark:]), gone)
	p.list = slices.Concat(ahead, []api.Entry{{Node: m, Token: token}}, behind)
	p.pile = without(p.pile, slices.Index(p.pile, f))
	p.pile = slices.Insert(slices.Clone(p.pile), slices.Index(p.pile, b)+1, m)
}

// twin is a bench beside a plain one.
type twin struct {
	bench
	plain
	r *rand.Rand
}

var formatting = []string{"b", "i", "u", "a"}
var others = []string{"p", "div", "span", "body", "table", "tbody", "tr", "td", "template", "title"}

func newTwin(t *testing.T, seed int64) *twin {
	t.Helper()
	w := &twin{bench: newBench(t), r: rand.New(rand.NewSource(seed))}
	w.nodes = []plainNode{{space: none, inner: none}}
	return w
}

// grow makes an element and links it somewhere, mostly below the top; it may be pushed and have an entry.
func (w *twin) grow() {
	name, space := formatting[w.r.Intn(len(formatting))], html
	if w.r.Intn(2) == 0 {
		// The first three are the ones that are no borders.
		name = others[w.r.Intn([]int{3, 3, 3, len(others)}[w.r.Intn(4)])]
	}
	if w.r.Intn(12) == 0 {
		space = svg
	}
	id := w.got(w.a.Element(space, name, nil))
	if w.plain.make(space, name) != id {
		w.t.Fatalf("another number: %d", id)
	}
	to := w.r.Intn(id)
	if n := len(w.pile); n > 0 && w.r.Intn(4) > 0 {
		to = w.pile[n-1]
	}
	w.move(id, to)
	if w.r.Intn(8) > 0 {
		w.push(id)
		w.pile = append(w.pile, id)
	}
	if slices.Contains(formatting, name) && w.r.Intn(6) > 0 || w.r.Intn(10) == 0 {
		w.enterAt(w.r.Intn(3), id, name)
	}
	if w.r.Intn(25) == 0 {
		gives(w.t, "Mark", w.l.Mark(), ok)
		w.list = append(w.list, api.Entry{Node: none})
	}
}

// enterAt puts an entry near the end, with a token that may have another name.
func (w *twin) enterAt(back int, id int, name string) {
	if w.r.Intn(20) == 0 {
		name = []string{"template", "p", "b", "em"}[w.r.Intn(4)]
	}
	x := api.Entry{Node: id, Token: api.Token{Kind: api.TStart, Name: name, Has: id}}
	i := max(len(w.list)-back, 0)
	gives(w.t, "Put", w.l.Put(i, id, x.Token), ok)
	w.list = slices.Insert(slices.Clone(w.list), i, x)
}

// move puts a node elsewhere in both trees, as a script would.
func (w *twin) move(id int, to int) {
	if w.above(to, id) {
		return
	}
	w.a.Unlink(id)
	gives(w.t, "Link", w.a.Link(to, id, none), ok)
	w.plain.put(id, to, none)
}

// disturb moves elements, and takes some out of the stack or the list.
func (w *twin) disturb() {
	id := 1 + w.r.Intn(len(w.nodes)-1)
	if w.nodes[id].space == none {
		return
	}
	switch w.r.Intn(6) {
	case 0:
		if i := slices.Index(w.pile, id); i >= 0 {
			gives(w.t, "Remove", w.s.Remove(id), ok)
			w.pile = without(w.pile, i)
		}
	case 1:
		if i := w.entry(id); i >= 0 {
			gives(w.t, "Remove", w.l.Remove(id), ok)
			w.list = without(w.list, i)
		}
	default:
		w.move(id, w.r.Intn(len(w.nodes)))
	}
}

// ask holds both trees, stacks and lists against each other.
func (w *twin) ask() {
	w.t.Helper()
	if w.a.Len() != len(w.nodes) {
		w.t.Fatalf("Len: %d; want %d", w.a.Len(), len(w.nodes))
	}
	for id, x := range w.nodes {
		if got := w.a.Kids(id); !slices.Equal(got, x.kids) {
			w.t.Errorf("children of %d: %v; want %v", id, got, x.kids)
		}
		if got := w.node(id); got.Kind == api.KElement && (got.Space != x.space || got.Name != x.name) {
			w.t.Errorf("node %d: %v; want %v", id, got, x)
		}
	}
	now := w.state()
	if !slices.Equal(now.open, w.pile) {
		w.t.Errorf("the stack is %v; want %v", now.open, w.pile)
	}
	if len(now.list)+len(w.list) > 0 && !reflect.DeepEqual(now.list, w.list) {
		w.t.Errorf("the list is %v; want %v", now.list, w.list)
	}
	w.stillElements()
	if !show.Sound(w.a) {
		w.t.Errorf("the tree is not sound")
	}
}

// step is one run for a name, with or without foster.
func (w *twin) step() string {
	w.t.Helper()
	name, foster := formatting[w.r.Intn(len(formatting))], w.r.Intn(2) == 0
	if w.r.Intn(8) == 0 {
		name = others[w.r.Intn(len(others))]
	}
	nodes := len(w.nodes)
	another, n, e := adopt.Run(w.a, w.s, w.l, name, foster)
	if want, errors := w.plain.run(name, foster); another != want || n != errors || e != ok {
		w.t.Errorf("Run(%q, %v): %v, %d, %d; want %v, %d", name, foster, another, n, e, want, errors)
	}
	if len(w.nodes)-nodes > 64 {
		w.t.Errorf("%d new nodes", len(w.nodes)-nodes)
	}
	return fmt.Sprintf("Run(%q, %v)", name, foster)
}

// P15.1, P15.3: many runs, between them elements that come, go and are moved, against a plain reading.
func TestManyRuns(t *testing.T) {
	for seed := range int64(400) {
		w := newTwin(t, seed)
		for range 12 {
			for range w.r.Intn(14) {
				w.grow()
			}
			if len(w.nodes) > 1 && seed%2 == 0 {
				for range w.r.Intn(4) {
					w.disturb()
				}
			}
			what := w.step()
			w.ask()
			if t.Failed() {
				t.Fatalf("seed %d, behind %s", seed, what)
			}
		}
	}
}
