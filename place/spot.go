package place

import (
	"hornbeam/api"
	"hornbeam/node"
	"hornbeam/stack"
)

func atEnd(id int) api.Spot {
	return api.Spot{Parent: id, Before: api.None}
}

// fostered is the place for what may not stand in a table: ahead of the table, unless a template is in between.
func fostered(a *node.Arena, s *stack.Stack, target int) api.Spot {
	at := atEnd(s.At(0))
	i, last := lastNamed(a, s, "table", "template")
	if i < 0 {
		goto found
	}
	if last.Name == "template" {
		at = atEnd(s.At(i))
		goto found
	}
	if last.Parent != api.None {
		at = api.Spot{Parent: last.Parent, Before: s.At(i)}
		goto found
	}
	at = atEnd(s.At(i - 1))
found:
	// An empty stack has no first element, and its first element none below it.
	if at == atEnd(api.None) {
		return atEnd(target)
	}
	return at
}

// outOfTemplate leads from a template, which has no children of its own while parsing, to its contents.
func outOfTemplate(a *node.Arena, at api.Spot) api.Spot {
	if x, _ := a.Node(at.Parent); isOf(x, "template") {
		return atEnd(x.Inner)
	}
	return at
}

// asItIs is the place as the tree is now: one ahead of a node that has gone from there is at the end.
func asItIs(a *node.Arena, at api.Spot) api.Spot {
	if x, e := a.Node(at.Before); e != api.OK || x.Parent != at.Parent {
		return atEnd(at.Parent)
	}
	return at
}

// ahead is the child behind which a place is, None if it is ahead of all.
func ahead(a *node.Arena, at api.Spot) int {
	if x, e := a.Node(at.Before); e == api.OK {
		return x.Prev
	}
	x, _ := a.Node(at.Parent)
	return x.Last
}

// there asks whether all of these are nodes.
func there(a *node.Arena, ids ...int) bool {
	for _, id := range ids {
		if id < 0 || id >= a.Len() {
			return false
		}
	}
	return true
}

func placeThere(a *node.Arena, at api.Spot) bool {
	if at.Before == api.None {
		return there(a, at.Parent)
	}
	return there(a, at.Parent, at.Before)
}

// lastNamed is, from the top on, the first element of HTML of one of these names: its place in the stack, below 0 if
// there is none, and what there is to say of it.
func lastNamed(a *node.Arena, s *stack.Stack, names ...string) (int, api.Node) {
	for i := s.Len() - 1; i >= 0; i-- {
		if x, _ := a.Node(s.At(i)); isOf(x, names...) {
			return i, x
		}
	}
	return -1, api.Node{}
}

func isNamed(a *node.Arena, id int, names ...string) bool {
	x, _ := a.Node(id)
	return isOf(x, names...)
}

// isOf asks whether a node is an element of HTML of one of these names. A doctype has a name too.
func isOf(x api.Node, names ...string) bool {
	if x.Kind != api.KElement || x.Space != api.HTML {
		return false
	}
	for _, name := range names {
		if x.Name == name {
			return true
		}
	}
	return false
}
