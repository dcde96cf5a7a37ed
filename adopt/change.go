package adopt

import (
	"slices"

	"hornbeam/api"
	"hornbeam/place"
)

func atEnd(id int) api.Spot {
	return api.Spot{Parent: id, Before: api.None}
}

// token is the one with which an element came into the list.
func (g *agency) token(id int) api.Token {
	x, _ := g.list.At(g.list.Find(id))
	return x.Token
}

// anew makes an element for the token of another one's entry.
func (g *agency) anew(id int) (int, api.Errno) {
	t := g.token(id)
	return g.arena.Element(api.HTML, t.Name, t.Attrs)
}

// takeBack undoes all changes, the last one first, so that each finds what it left.
func (g *agency) takeBack() {
	for _, undo := range slices.Backward(g.undo) {
		undo()
	}
}

// changed notes how a change is undone, unless it was refused.
func (g *agency) changed(e api.Errno, undo func()) {
	if e == api.OK {
		g.undo = append(g.undo, undo)
	}
}

// put moves a node. Scripts may have brought the place below the node itself: then it is without a parent, and the run
// goes on.
func (g *agency) put(at api.Spot, id int) {
	was, e := g.arena.Node(id)
	place.Put(g.arena, at, id)
	g.changed(e, func() {
		g.arena.Unlink(id)
		g.arena.Link(was.Parent, id, was.Next)
	})
}

// swap gives a new element the place of an old one, in the list and in the stack.
func (g *agency) swap(old int, id int) {
	g.changed(g.list.Swap(old, id), func() { g.list.Swap(id, old) })
	g.changed(g.open.Swap(old, id), func() { g.open.Swap(id, old) })
}

// dropEntry takes an entry out of the list. Those behind it move, and so does the mark among them.
func (g *agency) dropEntry(id int) {
	i, token := g.list.Find(id), g.token(id)
	if i < g.mark {
		g.mark--
	}
	g.changed(g.list.Remove(id), func() { g.list.Put(i, id, token) })
}

// enter puts an entry at the mark.
func (g *agency) enter(id int, token api.Token) {
	g.changed(g.list.Put(g.mark, id, token), func() { g.list.Remove(id) })
}

// leave takes an element out of the stack.
func (g *agency) leave(id int) {
	i := g.open.Find(id)
	g.changed(g.open.Remove(id), func() { g.open.Put(i, id) })
}

// stand puts an element into the stack.
func (g *agency) stand(i int, id int) {
	g.changed(g.open.Put(i, id), func() { g.open.Remove(id) })
}
