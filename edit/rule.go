package edit

import (
	"slices"

	"hornbeam/api"
	"hornbeam/node"
)

// guest is what is put in: a node, or a fragment, whose children come in its stead. The rules ask it what it brings.
type guest interface {
	kind() int
	// brings tells how many nodes of a kind come in with it.
	brings(kind int) int
}

// single is a node that comes in by itself.
type single struct {
	id int
	is int // its kind
}

func (s single) kind() int { return s.is }

func (s single) brings(kind int) int {
	if s.is == kind {
		return 1
	}
	return 0
}

// bundle is a fragment.
type bundle struct {
	arena *node.Arena
	kids  []int
}

func (b bundle) kind() int { return api.KFragment }

func (b bundle) brings(kind int) int { return count(b.arena, b.kids, kind) }

func guestOf(a *node.Arena, id int) guest {
	kind := see(a, id).Kind
	if kind == api.KFragment {
		return bundle{arena: a, kids: a.Kids(id)}
	}
	return single{id: id, is: kind}
}

// comers are the nodes that a guest is put in as.
func comers(g guest) []int {
	switch g := g.(type) {
	case bundle:
		return g.kids
	case single:
		return []int{g.id}
	}
	return nil
}

// fits tells whether a guest may be put below a parent, ahead of before.
func fits(a *node.Arena, g guest, parent int, before int) bool {
	if parent == document {
		return fitsDocument(a, g, before)
	}
	return g.kind() != api.KDocument && g.kind() != api.KDoctype
}

// fitsDocument: no rule looks at a comment. The document itself never comes here, as it is above itself.
func fitsDocument(a *node.Arena, g guest, before int) bool {
	if g.brings(api.KText) > 0 || g.brings(api.KElement) > 1 {
		return false
	}
	switch g.kind() {
	case api.KFragment:
		if g.brings(api.KElement) == 0 {
			return true
		}
		// With one element it is held to an element's rules.
		fallthrough
	case api.KElement:
		ahead, behind := around(a, before)
		return count(a, ahead, api.KElement) == 0 && count(a, behind, api.KElement, api.KDoctype) == 0
	case api.KDoctype:
		ahead, behind := around(a, before)
		return count(a, ahead, api.KElement, api.KDoctype) == 0 && count(a, behind, api.KDoctype) == 0
	}
	return true
}

// around tells the document's children that are ahead of a place, and those behind it, before itself among them.
func around(a *node.Arena, before int) ([]int, []int) {
	kids := a.Kids(document)
	at := slices.Index(kids, before)
	if at < 0 {
		at = len(kids)
	}
	return kids[:at], kids[at:]
}

// count tells how many nodes are of one of the kinds.
func count(a *node.Arena, ids []int, kinds ...int) int {
	n := 0
	for _, id := range ids {
		if slices.Contains(kinds, see(a, id).Kind) {
			n++
		}
	}
	return n
}

func isParent(a *node.Arena, id int) bool {
	switch see(a, id).Kind {
	case api.KDocument, api.KElement, api.KFragment:
		return true
	}
	return false
}

// mayFind tells why nodes can't be worked on.
func mayFind(a *node.Arena, ids ...int) api.Errno {
	// An arena that was made has its document at least.
	if a.Len() == 0 {
		return api.ErrZero
	}
	for _, id := range ids {
		if !has(a, id) {
			return api.ErrNone
		}
	}
	return api.OK
}

func has(a *node.Arena, id int) bool {
	return id >= 0 && id < a.Len()
}

// see tells of a node that is there.
func see(a *node.Arena, id int) api.Node {
	x, _ := a.Node(id)
	return x
}
