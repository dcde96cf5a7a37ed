package show

import (
	"hornbeam/api"
	"hornbeam/node"
)

// document is its number in every arena.
const document = 0

// Sound tells whether all links of an arena agree.
func Sound(a *node.Arena) bool {
	return soundLinks(linksOf(a))
}

// linksOf is what an arena tells of its nodes, each at the place of its number, without their attributes.
func linksOf(a *node.Arena) []api.Node {
	nodes := make([]api.Node, 0, a.Len())
	for id := range a.Len() {
		x, _ := a.Node(id)
		x.Attrs = nil
		nodes = append(nodes, x)
	}
	return nodes
}

// soundLinks is false of no nodes: every arena that a call made has a document.
func soundLinks(nodes []api.Node) bool {
	if len(nodes) == 0 || nodes[document].Parent != api.None {
		return false
	}
	for _, x := range nodes {
		if !allInside(len(nodes), x.Parent, x.First, x.Last, x.Prev, x.Next, x.Inner) {
			return false
		}
	}
	for id := range nodes {
		if !childrenAgree(nodes, id) || !neighboursAgree(nodes, id) || !contentsAgree(nodes, id) {
			return false
		}
	}
	return allReached(nodes)
}

// allInside tells whether links lead to one of n nodes, or are None.
func allInside(n int, links ...int) bool {
	for _, link := range links {
		if link != api.None && (link < 0 || link >= n) {
			return false
		}
	}
	return true
}

// childrenAgree tells whether the first and the last child of a node, if it has any, know that they are.
func childrenAgree(nodes []api.Node, id int) bool {
	x := nodes[id]
	if x.First == api.None || x.Last == api.None {
		return x.First == x.Last
	}
	first, last := nodes[x.First], nodes[x.Last]
	return first.Parent == id && first.Prev == api.None && last.Parent == id && last.Next == api.None
}

// neighboursAgree tells whether those beside a node know it, and where there is none, whether its parent does.
func neighboursAgree(nodes []api.Node, id int) bool {
	x := nodes[id]
	if x.Parent == api.None {
		return x.Prev == api.None && x.Next == api.None
	}
	if x.Prev == api.None {
		if nodes[x.Parent].First != id {
			return false
		}
	} else if nodes[x.Prev].Next != id || nodes[x.Prev].Parent != x.Parent {
		return false
	}
	if x.Next == api.None {
		return nodes[x.Parent].Last == id
	}
	return nodes[x.Next].Prev == id && nodes[x.Next].Parent == x.Parent
}

// contentsAgree tells whether a template, and nothing else, has contents, a fragment without a parent.
func contentsAgree(nodes []api.Node, id int) bool {
	x := nodes[id]
	template := x.Kind == api.KElement && x.Space == api.HTML && x.Name == "template"
	if !template || x.Inner == api.None {
		return !template && x.Inner == api.None
	}
	return nodes[x.Inner].Kind == api.KFragment && nodes[x.Inner].Parent == api.None
}

// allReached goes down from the nodes that nothing is above, and tells whether each node is met, and met once. A node
// that is above itself is below none of them, and so are neighbours whose links lead round.
func allReached(nodes []api.Node) bool {
	met := make([]bool, len(nodes))
	var rest stack[int]
	put := func(id int) {
		if id != api.None {
			rest.push(id)
		}
	}
	for _, id := range tops(nodes) {
		put(id)
	}
	count := 0
	for ; !rest.empty(); count++ {
		id := rest.pop()
		if met[id] {
			return false
		}
		met[id] = true
		put(nodes[id].Next)
		put(nodes[id].First)
		put(nodes[id].Inner)
	}
	return count == len(nodes)
}

// tops are the nodes that have neither a parent nor a host.
func tops(nodes []api.Node) []int {
	held := make([]bool, len(nodes))
	for _, x := range nodes {
		if x.Inner != api.None {
			held[x.Inner] = true
		}
	}
	var ids []int
	for id, x := range nodes {
		if x.Parent == api.None && !held[id] {
			ids = append(ids, id)
		}
	}
	return ids
}
