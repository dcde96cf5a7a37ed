// Package node is layer 1: the arena of nodes, and raw links between them. See shared/doc/01-node.md.
package node

import (
	"hornbeam/api"
)

// Arena is a document and all nodes that were made for it.
type Arena struct {
	// A pointer, so that an Arena that was copied as a value stays the same arena. With a slice here both
	// would share nodes but not their number, and links could lead past the end of one.
	store *store
}

// store holds the nodes, each at the place of its number. Its zero-th one is the document.
type store struct {
	nodes []api.Node
}

// New makes an arena with the document alone.
func New() *Arena {
	return &Arena{store: &store{nodes: []api.Node{blank(api.KDocument)}}}
}

// Element makes an element, and the contents of a template right behind it.
func (a *Arena) Element(space int, name string, attrs []api.Attr) (int, api.Errno) {
	if !a.made() {
		return 0, api.ErrZero
	}
	if space != api.HTML && space != api.MathML && space != api.SVG {
		return 0, api.ErrArg
	}
	if anyLong(name) || len(attrs) > api.MaxAttrs || anyLongAttr(attrs) {
		return 0, api.ErrLong
	}
	x := blank(api.KElement)
	x.Space, x.Name, x.Attrs = space, name, ownAttrs(attrs)
	if space != api.HTML || name != "template" {
		return a.add(x)
	}
	x.Inner = len(a.store.nodes) + 1
	return a.add(x, blank(api.KFragment))
}

// Text makes a text.
func (a *Arena) Text(s string) (int, api.Errno) {
	return a.addData(api.KText, s)
}

// Comment makes a comment.
func (a *Arena) Comment(s string) (int, api.Errno) {
	return a.addData(api.KComment, s)
}

// Doctype makes a doctype.
func (a *Arena) Doctype(name string, public string, system string) (int, api.Errno) {
	if !a.made() {
		return 0, api.ErrZero
	}
	if anyLong(name, public, system) {
		return 0, api.ErrLong
	}
	x := blank(api.KDoctype)
	x.Name, x.Data, x.System = name, public, system
	return a.add(x)
}

// Fragment makes a fragment that is no template's.
func (a *Arena) Fragment() (int, api.Errno) {
	if !a.made() {
		return 0, api.ErrZero
	}
	return a.add(blank(api.KFragment))
}

// Node tells all that there is to say of a node.
func (a *Arena) Node(id int) (api.Node, api.Errno) {
	if !a.made() {
		return api.Node{}, api.ErrZero
	}
	if !a.has(id) {
		return api.Node{}, api.ErrNone
	}
	x := a.store.nodes[id]
	x.Attrs = ownAttrs(x.Attrs)
	return x, api.OK
}

// Len tells how many nodes there are.
func (a *Arena) Len() int {
	if !a.made() {
		return 0
	}
	return len(a.store.nodes)
}

// Copy makes an arena of the same nodes that shares nothing with this one.
func (a *Arena) Copy() *Arena {
	if !a.made() {
		return nil
	}
	nodes := make([]api.Node, len(a.store.nodes))
	copy(nodes, a.store.nodes)
	separateAttrs(nodes)
	return &Arena{store: &store{nodes: nodes}}
}

// made is false of a nil arena, and of one that no call made.
func (a *Arena) made() bool {
	return a != nil && a.store != nil
}

// has is false of every number in an arena that was not made.
func (a *Arena) has(id int) bool {
	return a.made() && id >= 0 && id < len(a.store.nodes)
}

// blank is a node of a kind without any links.
func blank(kind int) api.Node {
	return api.Node{
		Kind:   kind,
		Parent: api.None,
		First:  api.None,
		Last:   api.None,
		Prev:   api.None,
		Next:   api.None,
		Inner:  api.None,
	}
}

// add takes all of the nodes, or none, so that a template never stands without its contents.
func (a *Arena) add(nodes ...api.Node) (int, api.Errno) {
	id := len(a.store.nodes)
	if id > api.MaxNodes-len(nodes) {
		return 0, api.ErrFull
	}
	a.store.nodes = append(a.store.nodes, nodes...)
	return id, api.OK
}

func (a *Arena) addData(kind int, s string) (int, api.Errno) {
	if !a.made() {
		return 0, api.ErrZero
	}
	if anyLong(s) {
		return 0, api.ErrLong
	}
	x := blank(kind)
	x.Data = s
	return a.add(x)
}

func anyLong(texts ...string) bool {
	for _, s := range texts {
		if len(s) > api.MaxText {
			return true
		}
	}
	return false
}
