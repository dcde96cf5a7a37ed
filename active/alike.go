package active

import (
	"cmp"
	"slices"

	"hornbeam/api"
)

// kin is what elements are told apart by here. An arena never gives an element another name, so that it is asked once.
type kin struct {
	space int
	name  string
}

// entry is an element with its token, or a marker.
type entry struct {
	node  int
	kin   kin
	token api.Token
	// The token's attributes as a set. It is made once, as a list is long and asked often.
	set []api.Attr
}

func newEntry(id int, k kin, t api.Token) *entry {
	return &entry{node: id, kin: k, token: ownToken(t), set: setOf(t.Attrs)}
}

func newMarker() *entry {
	return &entry{node: api.None}
}

func (x *entry) isMarker() bool {
	return x.node == api.None
}

// alike takes the names of the elements, not those of the tokens, and the attributes of the tokens, not those that the
// elements have got meanwhile.
func alike(x *entry, y *entry) bool {
	return x.kin == y.kin && slices.Equal(x.set, y.set)
}

// setOf brings attributes into one order, each once: as sets they are the same if these lists are equal.
func setOf(attrs []api.Attr) []api.Attr {
	set := ownAttrs(attrs)
	slices.SortFunc(set, compareAttrs)
	return slices.Compact(set)
}

// compareAttrs orders attributes by each of their fields, so that only equal ones are neither ahead nor behind.
func compareAttrs(x api.Attr, y api.Attr) int {
	return cmp.Or(
		cmp.Compare(x.Space, y.Space),
		cmp.Compare(x.Prefix, y.Prefix),
		cmp.Compare(x.Name, y.Name),
		cmp.Compare(x.Value, y.Value),
	)
}

// ownToken is a token whose attributes are a list of its own.
func ownToken(t api.Token) api.Token {
	t.Attrs = ownAttrs(t.Attrs)
	return t
}

// ownAttrs is a list of its own, nil if it is empty.
func ownAttrs(attrs []api.Attr) []api.Attr {
	if len(attrs) == 0 {
		return nil
	}
	own := make([]api.Attr, len(attrs))
	copy(own, attrs)
	return own
}
