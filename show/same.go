package show

import (
	"slices"

	"hornbeam/api"
	"hornbeam/node"
)

// pair is a node of each of two trees, which stand at the same place of them.
type pair struct {
	x int
	y int
}

// Same tells whether two nodes, and all that is below them, are alike.
func Same(a *node.Arena, x int, b *node.Arena, y int) bool {
	var rest stack[pair]
	put := func(x int, y int) {
		if x != api.None || y != api.None {
			rest.push(pair{x: x, y: y})
		}
	}
	rest.push(pair{x: x, y: y})
	for top := true; !rest.empty(); top = false {
		at := rest.pop()
		one, e := a.Node(at.x)
		two, f := b.Node(at.y)
		if e != api.OK || f != api.OK || !alike(one, two) {
			return false
		}
		// The neighbours of the two that were asked for are not below them.
		if !top {
			put(one.Next, two.Next)
		}
		put(one.First, two.First)
		put(one.Inner, two.Inner)
	}
	return true
}

// alike tells whether two nodes are the same but for their links.
func alike(x api.Node, y api.Node) bool {
	return x.Kind == y.Kind && x.Space == y.Space && x.Name == y.Name &&
		x.Data == y.Data && x.System == y.System && slices.Equal(x.Attrs, y.Attrs)
}
