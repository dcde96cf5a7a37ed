package node

import (
	"slices"

	"hornbeam/api"
)

// SetData gives a text or a comment other data.
func (a *Arena) SetData(id int, s string) api.Errno {
	if !a.made() {
		return api.ErrZero
	}
	if !a.has(id) {
		return api.ErrNone
	}
	x := &a.store.nodes[id]
	if x.Kind != api.KText && x.Kind != api.KComment {
		return api.ErrKind
	}
	if anyLong(s) {
		return api.ErrLong
	}
	x.Data = s
	return api.OK
}

// SetAttr gives an attribute of an element another value, or adds it.
func (a *Arena) SetAttr(id int, x api.Attr) api.Errno {
	if e := a.mayAttr(id); e != api.OK {
		return e
	}
	if isLongAttr(x) {
		return api.ErrLong
	}
	attrs := a.store.nodes[id].Attrs
	if i := findAttr(attrs, x.Space, x.Name); i >= 0 {
		attrs[i].Value = x.Value
		return api.OK
	}
	if len(attrs) >= api.MaxAttrs {
		return api.ErrLong
	}
	a.store.nodes[id].Attrs = append(attrs, x)
	return api.OK
}

// DelAttr takes an attribute from an element.
func (a *Arena) DelAttr(id int, space int, name string) api.Errno {
	if e := a.mayAttr(id); e != api.OK {
		return e
	}
	attrs := a.store.nodes[id].Attrs
	i := findAttr(attrs, space, name)
	if i < 0 {
		return api.ErrArg
	}
	a.store.nodes[id].Attrs = slices.Delete(attrs, i, i+1)
	return api.OK
}

// mayAttr tells why a node can't have attributes.
func (a *Arena) mayAttr(id int) api.Errno {
	if !a.made() {
		return api.ErrZero
	}
	if !a.has(id) {
		return api.ErrNone
	}
	if a.store.nodes[id].Kind != api.KElement {
		return api.ErrKind
	}
	return api.OK
}

// findAttr tells the place of the first attribute of that name, -1 if there is none.
func findAttr(attrs []api.Attr, space int, name string) int {
	return slices.IndexFunc(attrs, func(x api.Attr) bool {
		return x.Space == space && x.Name == name
	})
}

func anyLongAttr(attrs []api.Attr) bool {
	return slices.ContainsFunc(attrs, isLongAttr)
}

func isLongAttr(x api.Attr) bool {
	return anyLong(x.Prefix, x.Name, x.Value)
}

// ownAttrs is a list of its own, nil if it is empty.
func ownAttrs(attrs []api.Attr) []api.Attr {
	if len(attrs) == 0 {
		return nil
	}
	own := make([]api.Attr, len(attrs))
	copy(own, attrs)
	return own
}

// separateAttrs gives each node attributes of its own, all of them cut out of one new list.
func separateAttrs(nodes []api.Node) {
	total := 0
	for _, x := range nodes {
		total += len(x.Attrs)
	}
	all := make([]api.Attr, total)
	for i := range nodes {
		n := copy(all, nodes[i].Attrs)
		// The third index keeps a later append out of the next node's part.
		nodes[i].Attrs = all[:n:n]
		all = all[n:]
	}
}
