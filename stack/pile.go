package stack

import (
	"slices"
)

// pile holds items one above the other, the last one being the top. Its places are looked at by those who call it.
type pile[T comparable] struct {
	items []T
}

func (p *pile[T]) size() int {
	return len(p.items)
}

func (p *pile[T]) at(i int) T {
	return p.items[i]
}

// place tells where an item stands, -1 if it does not.
func (p *pile[T]) place(x T) int {
	return slices.Index(p.items, x)
}

func (p *pile[T]) push(x T) {
	p.items = append(p.items, x)
}

// cut leaves the lowest n items. Their room stays, so that a push behind it needs no new memory.
func (p *pile[T]) cut(n int) {
	p.items = p.items[:n]
}

func (p *pile[T]) swap(i int, x T) {
	p.items[i] = x
}

func (p *pile[T]) put(i int, x T) {
	lower, upper := p.parts(i)
	p.items = append(append(lower, x), upper...)
}

func (p *pile[T]) remove(i int) {
	lower, upper := p.parts(i)
	p.items = append(lower, upper[1:]...)
}

// parts are what is below a place, and the rest. The third index leaves the lower one no room: what is appended to it
// goes to new memory, and not over the upper one.
func (p *pile[T]) parts(i int) (lower []T, upper []T) {
	return p.items[:i:i], p.items[i:]
}
