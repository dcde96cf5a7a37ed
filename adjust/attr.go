package adjust

import (
	"slices"

	"hornbeam/api"
)

// each is a new list of what f makes of each attribute: the one that was handed in stays as it is.
func each(l []api.Attr, f func(api.Attr) api.Attr) []api.Attr {
	var out []api.Attr
	for _, a := range l {
		out = append(out, f(a))
	}
	return out
}

// bare is what an attribute is told apart by. Its prefix is no part of that: without a namespace it means nothing.
func bare(a api.Attr) api.Attr {
	return api.Attr{Space: a.Space, Name: a.Name}
}

// plain is what bare makes of an attribute of that name without a namespace.
func plain(name string) api.Attr {
	return api.Attr{Space: api.HTML, Name: name}
}

// holdsHTML tells whether the attributes of an annotation say that HTML is in it.
func holdsHTML(l []api.Attr) bool {
	i := slices.IndexFunc(l, func(a api.Attr) bool { return bare(a) == plain("encoding") })
	if i < 0 {
		return false
	}
	return inSmall(l[i].Value, "text/html") || inSmall(l[i].Value, "application/xhtml+xml")
}

// isOfFont tells whether an attribute is one by which font is HTML's. A token's attributes have no namespace yet: the
// name alone counts.
func isOfFont(a api.Attr) bool {
	return a.Name == "color" || a.Name == "face" || a.Name == "size"
}
