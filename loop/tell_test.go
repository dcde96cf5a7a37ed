package loop_test

import (
	"fmt"
	"strconv"
	"strings"

	"hornbeam/api"
	"hornbeam/node"
)

// tell tells what is below a node: elements with their attributes in curly brackets, a template's contents in square
// ones, and children in round ones.
func tell(a *node.Arena, id int) string {
	var parts []string
	for _, kid := range a.Kids(id) {
		parts = append(parts, tellOne(a, kid))
	}
	return strings.Join(parts, " ")
}

func tellOne(a *node.Arena, id int) string {
	x, _ := a.Node(id)
	switch x.Kind {
	case api.KText:
		return strconv.Quote(x.Data)
	case api.KComment:
		return "!" + strconv.Quote(x.Data)
	case api.KDoctype:
		return "doctype:" + x.Name
	}
	s := []string{"", "math:", "svg:"}[x.Space] + x.Name
	for _, attr := range x.Attrs {
		s += "{" + attr.Name + "=" + attr.Value + "}"
	}
	if x.Inner != none {
		s += "[" + tell(a, x.Inner) + "]"
	}
	if x.First != none {
		s += "(" + tell(a, id) + ")"
	}
	return s
}

// short is a thing's text, cut where it is too long to be read.
func short(x any) string {
	s := fmt.Sprintf("%v", x)
	return s[:min(len(s), 400)]
}
