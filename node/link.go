package node

import (
	"iter"

	"hornbeam/api"
)

// Kids tells a node's children, in order.
func (a *Arena) Kids(id int) []int {
	if !a.has(id) {
		return nil
	}
	var kids []int
	for kid := range a.children(id) {
		kids = append(kids, kid)
	}
	return kids
}

// Host tells whose contents a fragment is.
func (a *Arena) Host(id int) int {
	// Contents are made right behind their template: no other node can be their host.
	if id <= 0 || !a.has(id) || a.store.nodes[id-1].Inner != id {
		return api.None
	}
	return id - 1
}

// Above tells whether other is id, or above it.
func (a *Arena) Above(id int, other int) bool {
	if !a.has(id) || !a.has(other) {
		return false
	}
	for up := range a.upward(id) {
		if up == other {
			return true
		}
	}
	return false
}

// Link makes child a child of parent, ahead of before, or the last one.
func (a *Arena) Link(parent int, child int, before int) api.Errno {
	if e := a.mayLink(parent, child, before); e != api.OK {
		return e
	}
	prev := a.store.nodes[parent].Last
	if before != api.None {
		prev = a.store.nodes[before].Prev
	}
	a.store.nodes[child].Parent = parent
	a.join(parent, prev, child)
	a.join(parent, child, before)
	return api.OK
}

// Unlink takes a node from its parent.
func (a *Arena) Unlink(id int) api.Errno {
	if !a.made() {
		return api.ErrZero
	}
	if !a.has(id) {
		return api.ErrNone
	}
	x := &a.store.nodes[id]
	if x.Parent == api.None {
		return api.ErrState
	}
	a.join(x.Parent, x.Prev, x.Next)
	x.Parent, x.Prev, x.Next = api.None, api.None, api.None
	return api.OK
}

// mayLink tells Link's error, in the order in which the chapter names them.
func (a *Arena) mayLink(parent int, child int, before int) api.Errno {
	if !a.made() {
		return api.ErrZero
	}
	if !a.has(parent) || !a.has(child) || before != api.None && !a.has(before) {
		return api.ErrNone
	}
	x := a.store.nodes[child]
	if !isParent(a.store.nodes[parent].Kind) || x.Kind == api.KDocument || x.Kind == api.KFragment {
		return api.ErrKind
	}
	if x.Parent != api.None || a.covers(child, parent) {
		return api.ErrLinked
	}
	if before != api.None && a.store.nodes[before].Parent != parent {
		return api.ErrArg
	}
	return api.OK
}

// covers tells whether id is other, or above it.
func (a *Arena) covers(id int, other int) bool {
	x := a.store.nodes[id]
	if x.First == api.None && x.Inner == api.None {
		// Nothing is below it. Most nodes are linked like that, and the way up from a deep place is long.
		return id == other
	}
	return a.Above(other, id)
}

func isParent(kind int) bool {
	return kind == api.KDocument || kind == api.KElement || kind == api.KFragment
}

// join makes two children of parent neighbours. Where one is None, the other is parent's first or last child.
func (a *Arena) join(parent int, prev int, next int) {
	nodes := a.store.nodes
	if prev == api.None {
		nodes[parent].First = next
	} else {
		nodes[prev].Next = next
	}
	if next == api.None {
		nodes[parent].Last = prev
	} else {
		nodes[next].Prev = prev
	}
}

// children goes over the children of a node that is there.
func (a *Arena) children(id int) iter.Seq[int] {
	return func(yield func(int) bool) {
		kid := a.store.nodes[id].First
		for kid != api.None && yield(kid) {
			kid = a.store.nodes[kid].Next
		}
	}
}

// upward goes over a node that is there and all that is above it.
func (a *Arena) upward(id int) iter.Seq[int] {
	return func(yield func(int) bool) {
		up := id
		for up != api.None && yield(up) {
			up = a.over(up)
		}
	}
}

// over tells what is right above a node: its parent, or the host of a template's contents.
func (a *Arena) over(id int) int {
	if a.store.nodes[id].Kind == api.KFragment {
		return a.Host(id)
	}
	return a.store.nodes[id].Parent
}
