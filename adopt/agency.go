package adopt

import (
	"hornbeam/active"
	"hornbeam/api"
	"hornbeam/node"
	"hornbeam/place"
	"hornbeam/stack"
)

// scope is the kind of the stack's scope that has no further borders.
const scope = 0

// agency is one run: what it works on, what it has found out, and how to take back what it has done.
type agency struct {
	arena   *node.Arena
	open    *stack.Stack
	list    *active.List
	foster  bool
	another bool
	errors  int
	// The place in the list for the entry of M.
	mark int
	undo []func()
}

// topHasNoEntry asks whether the top has the name and is all that there is to close.
func (g *agency) topHasNoEntry(name string) bool {
	top := g.open.Top()
	x, e := g.arena.Node(top)
	return e == api.OK && x.Space == api.HTML && x.Name == name && g.list.Find(top) < 0
}

// run closes the last formatting element of the name, again and again, as what is put in for it has the name too.
func (g *agency) run(name string) (e api.Errno) {
	// An entry may have a token of which no element can be made. This is found out when it is asked for, and then what
	// was done ahead of it is undone. (The nodes that were made stay, without a parent: no call takes a node away.)
	defer func() {
		if e != api.OK {
			g.takeBack()
		}
	}()
	for range rounds {
		f := g.list.Last(name)
		if f == api.None {
			g.another = true
			goto done
		}
		if g.open.Find(f) < 0 {
			g.errors++
			g.dropEntry(f)
			goto done
		}
		if !g.open.NodeScope(f, scope) {
			g.errors++
			goto done
		}
		if f != g.open.Top() {
			g.errors++
		}
		b := g.specialAbove(f)
		if b == api.None {
			g.popTo(f)
			g.dropEntry(f)
			goto done
		}
		if e = g.adopt(f, b); e != api.OK {
			goto done
		}
	}
done:
	return e
}

// specialAbove is, of the special elements above F, the one nearest to it: B, or None.
func (g *agency) specialAbove(f int) int {
	for i := g.open.Find(f) + 1; i < g.open.Len(); i++ {
		if id := g.open.At(i); g.open.Special(id) {
			return id
		}
	}
	return api.None
}

// popTo needs no way back: nothing that could be refused is behind it.
func (g *agency) popTo(f int) {
	for g.open.Pop() != f {
	}
}

// adopt is one round: B comes to stand behind F, in new elements for those that were between both, and what was in B
// comes to stand in a new one for F.
func (g *agency) adopt(f int, b int) api.Errno {
	c := g.below(f)
	g.mark = g.list.Find(f)
	last, e := g.renew(f, b)
	if e != api.OK {
		return e
	}
	at, _ := place.Spot(g.arena, g.open, c, g.foster)
	g.put(at, last)
	return g.replace(f, b)
}

// below is the element right below F in the stack: C. With none the tree's root is left.
func (g *agency) below(f int) int {
	if i := g.open.Find(f); i > 0 {
		return g.open.At(i - 1)
	}
	return document
}

// renew goes down the stack from B to F. The formatting elements nearest to B are made anew, each around the one ahead
// of it; all others leave. It tells the outermost one.
func (g *agency) renew(f int, b int) (int, api.Errno) {
	last, i := b, g.open.Find(b)
down:
	for count := 1; ; count++ {
		// Leaving moves only those above, so that the next one down is at the next place, gone or not.
		i--
		n := g.open.At(i)
		if n == f {
			break down
		}
		entered := g.list.Find(n) >= 0
		if entered && count > renewed {
			g.dropEntry(n)
			entered = false
		}
		if !entered {
			g.leave(n)
			continue down
		}
		id, e := g.anew(n)
		if e != api.OK {
			return api.None, e
		}
		g.swap(n, id)
		if last == b {
			g.mark = g.list.Find(id) + 1
		}
		g.put(atEnd(id), last)
		last = id
	}
	return last, api.OK
}

// replace gives what is in B to M, and M the place of F: in the tree within B, in the stack above it, in the list at
// the mark.
func (g *agency) replace(f int, b int) api.Errno {
	m, e := g.anew(f)
	if e != api.OK {
		return e
	}
	for _, id := range g.arena.Kids(b) {
		g.put(atEnd(m), id)
	}
	g.put(atEnd(b), m)
	token := g.token(f)
	g.dropEntry(f)
	g.enter(m, token)
	g.leave(f)
	g.stand(g.open.Find(b)+1, m)
	return api.OK
}
