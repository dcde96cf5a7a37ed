package stack_test

import (
	"fmt"
	"math/rand"
	"slices"
	"testing"

	"hornbeam/api"
)

// kin is an element's namespace and name.
type kin struct {
	space int
	name  string
}

// plain does what the chapter says in the simplest way: a list that is made anew, and what each element is.
type plain struct {
	open []int
	is   map[int]kin
}

func (p *plain) element(id int) bool {
	_, is := p.is[id]
	return is
}

func (p *plain) stands(id int) bool { return slices.Contains(p.open, id) }

func (p *plain) put(i int, id int) api.Errno {
	switch {
	case !p.element(id):
		return errNone
	case p.stands(id) || i < 0 || i > len(p.open):
		return errArg
	}
	p.open = slices.Concat(p.open[:i], []int{id}, p.open[i:])
	return ok
}

func (p *plain) remove(id int) api.Errno {
	if !p.stands(id) {
		return errNone
	}
	var left []int
	for _, x := range p.open {
		if x != id {
			left = append(left, x)
		}
	}
	p.open = left
	return ok
}

func (p *plain) swap(old int, id int) api.Errno {
	switch {
	case !p.element(id) || !p.stands(old):
		return errNone
	case p.stands(id):
		return errArg
	}
	at := slices.Index(p.open, old)
	p.open = slices.Concat(p.open[:at], []int{id}, p.open[at+1:])
	return ok
}

// inScope looks from the top on for an element that is sought, or a border.
func (p *plain) inScope(kind int, sought func(id int) bool) bool {
	if !slices.Contains(kinds, kind) {
		return false
	}
	for _, id := range slices.Backward(p.open) {
		if sought(id) || isBorder(p.is[id].space, p.is[id].name, kind) {
			return sought(id)
		}
	}
	return false
}

func (p *plain) named(name string) func(id int) bool {
	return func(id int) bool { return p.is[id] == kin{html, name} }
}

func (p *plain) popTo(name string) bool {
	for i, id := range slices.Backward(p.open) {
		if p.named(name)(id) {
			p.open = p.open[:i:i]
			return true
		}
	}
	return false
}

func (p *plain) leave(but string, names ...string) int {
	n := 0
	for len(p.open) > 0 {
		x := p.is[p.open[len(p.open)-1]]
		if x.space != html || x.name == but || !slices.Contains(names, x.name) {
			return n
		}
		p.open = p.open[: len(p.open)-1 : len(p.open)-1]
		n++
	}
	return n
}

// twin is a stack beside a plain one, with numbers to pick from.
type twin struct {
	bench
	plain
	r     *rand.Rand
	names []string
}

func newTwin(t *testing.T, seed int64) *twin {
	w := &twin{bench: newBench(t), r: rand.New(rand.NewSource(seed)), names: everyName()}
	w.plain.is = map[int]kin{}
	w.a.Text("p")
	w.a.Comment("p")
	for range 40 {
		w.make()
	}
	return w
}

// make makes an element, most of HTML, and many of those that go by themselves.
func (w *twin) make() {
	x := kin{[]int{html, html, html, mathML, svg}[w.r.Intn(5)], w.name()}
	w.is[w.elem(x.space, x.name)] = x
}

func (w *twin) name() string {
	l := [][]string{w.names, implied, tableParts, mathNames, svgNames, {"b", "p", "x", "table", "option"}}[w.r.Intn(6)]
	return l[w.r.Intn(len(l))]
}

// number is one of an element mostly, of one that stands there often.
func (w *twin) number() int {
	if len(w.open) > 0 && w.r.Intn(3) == 0 {
		return w.open[w.r.Intn(len(w.open))]
	}
	return w.r.Intn(w.a.Len()+4) - 2
}

// change makes one change to both, and tells it with both answers.
func (w *twin) change() (string, any, any) {
	id, old, at, name := w.number(), w.number(), w.r.Intn(len(w.open)+5)-2, w.name()
	switch w.r.Intn(16) {
	case 0:
		return fmt.Sprintf("Put(%d, %d)", at, id), w.s.Put(at, id), w.put(at, id)
	case 1:
		return fmt.Sprintf("Remove(%d)", id), w.s.Remove(id), w.remove(id)
	case 2:
		return fmt.Sprintf("Swap(%d, %d)", old, id), w.s.Swap(old, id), w.swap(old, id)
	case 3:
		return "Implied(" + name + ")", w.s.Implied(name), w.leave(name, implied...)
	case 4:
		return "Thorough", w.s.Thorough(), w.leave("", slices.Concat(implied, tableParts)...)
	case 5:
		if w.r.Intn(3) == 0 {
			return "PopTo(" + name + ")", w.s.PopTo(name), w.popTo(name)
		}
	case 6:
		want := none
		if n := len(w.open); n > 0 {
			want = w.open[n-1]
			w.open = w.open[: n-1 : n-1]
		}
		return "Pop", w.s.Pop(), want
	case 7:
		if w.a.Len() < 200 {
			w.make()
		}
	}
	return fmt.Sprintf("Push(%d)", id), w.s.Push(id), w.put(len(w.open), id)
}

// ask holds what both tell of scopes against each other, and what the chapter says that follows (P12.5).
func (w *twin) ask() {
	w.t.Helper()
	name, id := w.name(), w.number()
	x := w.is[id]
	if w.s.Special(id) != (w.element(id) && isSpecial(x.space, x.name)) {
		w.t.Errorf("Special(%d), which is %v", id, x)
	}
	for kind := -1; kind < 6; kind++ {
		inScope(w.t, w.s, name, kind, w.inScope(kind, w.named(name)))
		inNodeScope(w.t, w.s, id, kind, w.inScope(kind, func(at int) bool { return at == id }))
	}
	for _, narrow := range []int{listScope, buttonScope} {
		if w.s.Scope(name, narrow) && !w.s.Scope(name, scope) || w.s.NodeScope(id, narrow) && !w.s.NodeScope(id, scope) {
			w.t.Errorf("%q or %d is in the scope %d, and not in the scope", name, id, narrow)
		}
	}
	// What is above something in a scope is no border of it.
	for i := w.s.Find(id) + 1; i > 0 && i < w.s.Len(); i++ {
		over := w.is[w.s.At(i)]
		for _, kind := range kinds {
			if w.s.NodeScope(id, kind) && isBorder(over.space, over.name, kind) {
				w.t.Errorf("%d is in the scope %d though %v is above it", id, kind, over)
			}
		}
	}
}

// P12.1 to P12.3, P12.5: many changes one behind the other, against a plain stack.
func TestManyChanges(t *testing.T) {
	for seed := range int64(40) {
		w := newTwin(t, seed)
		for range 500 {
			what, got, want := w.change()
			if got != want {
				t.Fatalf("seed %d, %s: %v; want %v", seed, what, got, want)
			}
			holds(t, w.s, w.open...)
			w.ask()
			if t.Failed() {
				t.Fatalf("seed %d, behind %s; the stack: %v", seed, what, w.open)
			}
		}
	}
}

// P12.5: what is in the list scope or the button scope is in the scope: each name above, each name below.
func TestNarrowScopes(t *testing.T) {
	names := everyName()
	for _, over := range names {
		for _, space := range spaces {
			b := newBench(t)
			below := b.grow("b", "p", "ol", "button", "table", "li")
			b.push(space, over)
			for _, narrow := range []int{listScope, buttonScope} {
				for _, id := range append(below, b.s.Top()) {
					if b.s.NodeScope(id, narrow) && !b.s.NodeScope(id, scope) {
						t.Errorf("%d below %q is in the scope %d alone", id, over, narrow)
					}
				}
				for _, name := range names {
					if b.s.Scope(name, narrow) && !b.s.Scope(name, scope) {
						t.Errorf("%q below %q is in the scope %d alone", name, over, narrow)
					}
				}
			}
		}
	}
}
