package show

import (
	"math/rand"
	"slices"
	"testing"

	"hornbeam/api"
	"hornbeam/node"
)

// P3.2, of Sound: links that layer 1 would not make, put into what it tells of its nodes.

const none = -1

// page has chains of no, one and many children, templates one in the other, and nodes without a parent.
func page(t *testing.T) []api.Node {
	t.Helper()
	a := node.New()
	for _, name := range []string{"html", "p", "b", "i", "template"} {
		a.Element(api.HTML, name, nil) // 1 to 5; 6 are the contents
	}
	a.Element(api.HTML, "template", nil) // 7, with 8
	a.Text("t")                          // 9
	a.Text("u")                          // 10
	a.Element(api.HTML, "loose", nil)    // 11
	a.Comment("c")                       // 12
	for _, link := range [][2]int{{0, 1}, {1, 2}, {1, 3}, {1, 4}, {3, 9}, {4, 5}, {6, 7}, {8, 10}, {11, 12}} {
		if e := a.Link(link[0], link[1], none); e != api.OK {
			t.Fatalf("Link %v: %d", link, e)
		}
	}
	nodes := linksOf(a)
	if !soundLinks(nodes) || !plainSound(nodes) {
		t.Fatalf("the page is not sound: %+v", nodes)
	}
	return nodes
}

func linkFields(x *api.Node) []*int {
	return []*int{&x.Parent, &x.First, &x.Last, &x.Prev, &x.Next, &x.Inner}
}

func TestEveryOtherLinkIsNotSound(t *testing.T) {
	nodes := page(t)
	values := []int{-1 << 63, none - 1, len(nodes), len(nodes) + 1, 1<<63 - 1}
	for value := none; value < len(nodes); value++ {
		values = append(values, value)
	}
	for id := range nodes {
		for field := range 6 {
			for _, value := range values {
				broken := slices.Clone(nodes)
				link := linkFields(&broken[id])[field]
				if *link == value {
					continue
				}
				*link = value
				if soundLinks(broken) {
					t.Errorf("sound with link %d of node %d as %d", field, id, value)
				}
			}
		}
	}
}

// checkBroken changes a page, and asks that it is not sound any more.
func checkBroken(t *testing.T, what string, change func(nodes []api.Node)) {
	t.Helper()
	nodes := page(t)
	change(nodes)
	if soundLinks(nodes) {
		t.Errorf("sound: %s", what)
	}
	if plainSound(nodes) {
		t.Errorf("sound the plain way: %s", what)
	}
}

func TestLinksThatAgreeButLeadRound(t *testing.T) {
	checkBroken(t, "an element that is its own child", func(nodes []api.Node) {
		nodes[12].Parent, nodes[11].First, nodes[11].Last = none, 11, 11
		nodes[11].Parent = 11
	})
	checkBroken(t, "two elements, each the other's child", func(nodes []api.Node) {
		nodes[1].First, nodes[1].Last = 4, 4
		nodes[2].Parent, nodes[2].Prev, nodes[2].Next, nodes[2].First, nodes[2].Last = 3, none, none, 3, 3
		nodes[3].Parent, nodes[3].Prev, nodes[3].Next, nodes[3].First, nodes[3].Last = 2, none, none, 2, 2
		nodes[9].Parent = none
		nodes[4].Prev = none
	})
	checkBroken(t, "neighbours in a ring that their parent does not know", func(nodes []api.Node) {
		nodes[1].First, nodes[1].Last = 4, 4
		nodes[4].Prev = none
		nodes[2].Prev, nodes[2].Next, nodes[3].Prev, nodes[3].Next = 3, 3, 2, 2
	})
	checkBroken(t, "a neighbour of itself", func(nodes []api.Node) {
		nodes[12].Parent, nodes[11].First, nodes[11].Last = 1, none, none
		nodes[12].Prev, nodes[12].Next = 12, 12
	})
	checkBroken(t, "a template in its own contents", func(nodes []api.Node) {
		nodes[4].First, nodes[4].Last = none, none
		nodes[5].Parent = 6
		nodes[6].First = 5
		nodes[5].Next, nodes[7].Prev = 7, 5
	})
	checkBroken(t, "two templates, each in the other's contents", func(nodes []api.Node) {
		nodes[4].First, nodes[4].Last = none, none
		nodes[5].Parent = 8
		nodes[8].First = 5
		nodes[5].Next, nodes[10].Prev = 10, 5
	})
}

func TestContentsThatAreNone(t *testing.T) {
	checkBroken(t, "contents that are an element", func(nodes []api.Node) { nodes[8].Kind = api.KElement })
	checkBroken(t, "contents with a parent", func(nodes []api.Node) {
		nodes[8].Parent, nodes[2].First, nodes[2].Last = 2, 8, 8
	})
	checkBroken(t, "a template without contents", func(nodes []api.Node) { nodes[7].Inner = none })
	checkBroken(t, "two templates with the same contents", func(nodes []api.Node) { nodes[7].Inner = 6 })
	checkBroken(t, "contents of no template", func(nodes []api.Node) { nodes[7].Name = "p" })
	checkBroken(t, "contents of an SVG template", func(nodes []api.Node) { nodes[7].Space = api.SVG })
	checkBroken(t, "a template that has none", func(nodes []api.Node) { nodes[2].Name = "template" })
}

func TestDocumentWithAParent(t *testing.T) {
	checkBroken(t, "the document below a loose element", func(nodes []api.Node) {
		nodes[0].Parent, nodes[0].Next = 11, 12
		nodes[12].Prev, nodes[11].First = 0, 0
	})
}

func TestNoNodesAreNotSound(t *testing.T) {
	if soundLinks(nil) || soundLinks([]api.Node{}) || soundLinks([]api.Node{{}}) {
		t.Error("sound")
	}
}

// plainSound is the chapter's rule told slowly: children forwards and backwards are the same and are all that have that
// parent, and the way up from each node ends.
func plainSound(nodes []api.Node) bool {
	hosts := map[int]int{}
	for id := range nodes {
		for _, link := range linkFields(&nodes[id]) {
			if *link < none || *link >= len(nodes) {
				return false
			}
		}
		x := nodes[id]
		if (x.Kind == api.KElement && x.Space == api.HTML && x.Name == "template") != (x.Inner != none) {
			return false
		}
		if x.Inner != none {
			if _, twice := hosts[x.Inner]; twice || nodes[x.Inner].Kind != api.KFragment || nodes[x.Inner].Parent != none {
				return false
			}
			hosts[x.Inner] = id
		}
	}
	for id := range nodes {
		if !plainKids(nodes, id) || !plainWayUp(nodes, hosts, id) {
			return false
		}
	}
	return len(nodes) > 0 && nodes[0].Parent == none
}

func plainKids(nodes []api.Node, id int) bool {
	var kids, back, want []int
	for kid := nodes[id].First; kid != none && len(kids) <= len(nodes); kid = nodes[kid].Next {
		kids = append(kids, kid)
	}
	for kid := nodes[id].Last; kid != none && len(back) <= len(nodes); kid = nodes[kid].Prev {
		back = append(back, kid)
	}
	for kid, x := range nodes {
		if x.Parent == id {
			want = append(want, kid)
		}
	}
	slices.Reverse(back)
	x := nodes[id]
	loose := x.Parent != none || x.Prev == none && x.Next == none
	same := slices.Equal(kids, back)
	slices.Sort(kids)
	return loose && same && slices.Equal(kids, want)
}

func plainWayUp(nodes []api.Node, hosts map[int]int, id int) bool {
	for range len(nodes) + 1 {
		up := nodes[id].Parent
		if host, is := hosts[id]; is {
			up = host
		}
		if up == none {
			return true
		}
		id = up
	}
	return false
}

func TestSoundAgainstThePlainWay(t *testing.T) {
	sound := 0
	for seed := range int64(20000) {
		r := rand.New(rand.NewSource(seed))
		nodes := page(t)
		for range 1 + r.Intn(4) {
			mix(r, nodes)
		}
		got, want := soundLinks(nodes), plainSound(nodes)
		if got != want {
			t.Fatalf("seed %d: %v; want %v: %+v", seed, got, want, nodes)
		}
		if got {
			sound++
		}
	}
	if sound == 0 || sound == 20000 {
		t.Errorf("%d are sound", sound)
	}
}

// mix changes one link, or all links between two nodes, so that some lists are sound still.
func mix(r *rand.Rand, nodes []api.Node) {
	x, y := r.Intn(len(nodes)), r.Intn(len(nodes))
	switch r.Intn(4) {
	case 0:
		*linkFields(&nodes[x])[r.Intn(6)] = r.Intn(len(nodes)+1) - 1
	case 1: // x goes from its neighbours
		cut(nodes, x)
	case 2: // x becomes the last child of y, whatever is above y
		cut(nodes, x)
		nodes[x].Parent, nodes[x].Prev, nodes[x].Next = y, nodes[y].Last, none
		if last := nodes[y].Last; last != none {
			nodes[last].Next = x
		} else {
			nodes[y].First = x
		}
		nodes[y].Last = x
	case 3: // two that have contents change them
		if nodes[x].Inner != none && nodes[y].Inner != none {
			nodes[x].Inner, nodes[y].Inner = nodes[y].Inner, nodes[x].Inner
		}
	}
}

func cut(nodes []api.Node, id int) {
	x := nodes[id]
	if x.Parent == none {
		return
	}
	if x.Prev != none {
		nodes[x.Prev].Next = x.Next
	} else {
		nodes[x.Parent].First = x.Next
	}
	if x.Next != none {
		nodes[x.Next].Prev = x.Prev
	} else {
		nodes[x.Parent].Last = x.Prev
	}
	nodes[id].Parent, nodes[id].Prev, nodes[id].Next = none, none, none
}
