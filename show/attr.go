package show

import (
	"slices"
	"strings"

	"hornbeam/api"
)

// shownAttr is an attribute by its shown name: its namespace's word and its name.
type shownAttr struct {
	name  string
	value string
}

// shownAttrs are attributes in the order of their shown names.
func shownAttrs(attrs []api.Attr) []shownAttr {
	shown := make([]shownAttr, 0, len(attrs))
	for _, x := range attrs {
		shown = append(shown, shownAttr{name: attrWord(x.Space) + x.Name, value: x.Value})
	}
	// Attributes of the same shown name must keep their order: a sort that is not stable could turn it.
	slices.SortStableFunc(shown, func(x shownAttr, y shownAttr) int {
		return strings.Compare(x.name, y.name)
	})
	return shown
}

// elementWord is what stands ahead of the name of an element of that namespace.
func elementWord(space int) string {
	switch space {
	case api.MathML:
		return "math "
	case api.SVG:
		return "svg "
	}
	return ""
}

// attrWord is what stands ahead of the name of an attribute of that namespace. Layer 1 keeps attributes of any
// namespace; the chapter has words for three.
func attrWord(space int) string {
	switch space {
	case api.XLink:
		return "xlink "
	case api.XML:
		return "xml "
	case api.XMLNS:
		return "xmlns "
	}
	return ""
}
