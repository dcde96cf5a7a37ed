package active_test

import (
	"fmt"
	"math/rand"
	"slices"
	"testing"

	"hornbeam/api"
)

// plainEntry is an entry as the chapter has it; a marker's node is None.
type plainEntry struct {
	node  int
	token api.Token
}

// plain does what the chapter says in the simplest way: a list that is made anew, and what each element is.
type plain struct {
	list []plainEntry
	is   map[int]sort
}

func (p *plain) element(id int) bool {
	_, is := p.is[id]
	return is
}

func (p *plain) place(id int) int {
	if id == none {
		return -1
	}
	return slices.IndexFunc(p.list, func(x plainEntry) bool { return x.node == id })
}

// behind is the place behind the last marker.
func (p *plain) behind() int {
	for i, x := range slices.Backward(p.list) {
		if x.node == none {
			return i + 1
		}
	}
	return 0
}

func (p *plain) put(i int, id int, t api.Token) api.Errno {
	switch {
	case !p.element(id):
		return errNone
	case p.place(id) >= 0 || i < 0 || i > len(p.list):
		return errArg
	}
	p.list = slices.Concat(p.list[:i], []plainEntry{{id, t}}, p.list[i:])
	return ok
}

func (p *plain) push(id int, t api.Token) api.Errno {
	if !p.element(id) || p.place(id) >= 0 {
		return p.put(0, id, t)
	}
	var alike []int
	for _, x := range p.list[p.behind():] {
		if sameSort(sort{p.is[x.node].space, p.is[x.node].name, x.token.Attrs}, sort{p.is[id].space, p.is[id].name, t.Attrs}) {
			alike = append(alike, x.node)
		}
	}
	if len(alike) >= 3 {
		p.remove(alike[0])
	}
	return p.put(len(p.list), id, t)
}

func (p *plain) clear() int {
	left := max(p.behind()-1, 0)
	n := len(p.list) - left
	p.list = p.list[:left:left]
	return n
}

func (p *plain) last(name string) int {
	for _, x := range slices.Backward(p.list[p.behind():]) {
		if p.is[x.node].space == html && p.is[x.node].name == name {
			return x.node
		}
	}
	return none
}

func (p *plain) remove(id int) api.Errno {
	i := p.place(id)
	if i < 0 {
		return errNone
	}
	p.list = slices.Concat(p.list[:i], p.list[i+1:])
	return ok
}

func (p *plain) swap(old int, id int) api.Errno {
	i := p.place(old)
	switch {
	case !p.element(id) || i < 0:
		return errNone
	case p.place(id) >= 0:
		return errArg
	}
	p.list[i].node = id
	return ok
}

// twin is a list beside a plain one, with numbers and tokens to pick from.
type twin struct {
	bench
	plain
	r     *rand.Rand
	sorts []sort
}

func newTwin(t *testing.T, seed int64) *twin {
	w := &twin{bench: newBench(t), r: rand.New(rand.NewSource(seed)), sorts: manySorts()}
	w.plain.is = map[int]sort{}
	// Few sorts in some runs, so that alike ones are many.
	w.sorts = w.sorts[:1+int(seed)%len(w.sorts)]
	w.a.Text("b")
	w.a.Comment("b")
	for range 60 {
		w.make()
	}
	return w
}

func (w *twin) make() {
	s := w.sorts[w.r.Intn(len(w.sorts))]
	w.is[w.elem(s.space, s.name)] = s
}

// number is one of an element mostly, of one that has an entry often.
func (w *twin) number() int {
	if len(w.list) > 0 && w.r.Intn(4) == 0 {
		return w.list[w.r.Intn(len(w.list))].node
	}
	return w.r.Intn(w.a.Len()+4) - 2
}

func (w *twin) token() api.Token {
	s := w.sorts[w.r.Intn(len(w.sorts))]
	return api.Token{Kind: w.r.Intn(6), Name: s.name, Self: w.r.Intn(2) == 0, Attrs: slices.Clone(s.attrs)}
}

// change makes one change to both, and tells it with both answers.
func (w *twin) change() (string, any, any) {
	id, old, at, x := w.number(), w.number(), w.r.Intn(len(w.list)+5)-2, w.token()
	switch w.r.Intn(20) {
	case 0, 1:
		return fmt.Sprintf("Put(%d, %d, %v)", at, id, x), w.l.Put(at, id, x), w.plain.put(at, id, x)
	case 2:
		return fmt.Sprintf("Remove(%d)", id), w.l.Remove(id), w.remove(id)
	case 3:
		return fmt.Sprintf("Swap(%d, %d)", old, id), w.l.Swap(old, id), w.swap(old, id)
	case 4:
		w.list = append(w.list[:len(w.list):len(w.list)], plainEntry{node: none})
		return "Mark", w.l.Mark(), api.Errno(ok)
	case 5:
		if w.r.Intn(2) == 0 {
			return "Clear", w.l.Clear(), w.clear()
		}
	case 6:
		if w.a.Len() < 200 {
			w.make()
		}
	}
	return fmt.Sprintf("Push(%d, %v)", id, x), w.l.Push(id, x), w.plain.push(id, x)
}

// ask holds what both tell against each other.
func (w *twin) ask() {
	w.t.Helper()
	var nodes []int
	for _, x := range w.list {
		nodes = append(nodes, x.node)
	}
	holds(w.t, w.l, nodes...)
	for i, x := range w.list {
		carries(w.t, w.l, i, x.token)
	}
	for id := -2; id < w.a.Len()+2; id++ {
		if w.l.Find(id) != w.place(id) {
			w.t.Errorf("Find(%d): %d; want %d", id, w.l.Find(id), w.place(id))
		}
	}
	for _, name := range []string{"b", "i", "", "B"} {
		last(w.t, w.l, name, w.last(name))
	}
}

// P13.1, P13.2: many changes one behind the other, against a plain list.
func TestManyChanges(t *testing.T) {
	for seed := range int64(90) {
		w := newTwin(t, seed)
		for range 250 {
			what, got, want := w.change()
			if got != want {
				t.Fatalf("seed %d, %s: %v; want %v", seed, what, got, want)
			}
			w.ask()
			if t.Failed() {
				t.Fatalf("seed %d, behind %s; the list: %v", seed, what, w.list)
			}
		}
	}
}
