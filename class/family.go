package class

import (
	"iter"

	"hornbeam/api"
	"hornbeam/node"
)

// family is a node with its children: whether a node keeps the rules can be told without what is farther above it or below.
type family struct {
	parent api.Node
	kids   []api.Node
	depth  int // of the parent
}

// families goes over a node and all that is below it. What waits is kept in a list and not by calls within calls, as
// trees that are not in the class may be as deep as an arena has nodes.
func families(a *node.Arena, top api.Node) iter.Seq[family] {
	return func(yield func(family) bool) {
		rest := []family{{parent: top}}
		for len(rest) > 0 {
			last := len(rest) - 1
			x := rest[last]
			rest = rest[:last]
			x.kids = kidsOf(a, x.parent)
			if !yield(x) {
				return
			}
			for _, kid := range x.kids {
				rest = append(rest, family{parent: kid, depth: x.depth + 1})
			}
		}
	}
}

func kidsOf(a *node.Arena, x api.Node) []api.Node {
	var kids []api.Node
	for id := x.First; id != api.None; {
		kid, _ := a.Node(id)
		kids = append(kids, kid)
		id = kid.Next
	}
	return kids
}
