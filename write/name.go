package write

import (
	"slices"

	"hornbeam/api"
)

// Void tells of the elements of HTML that nothing is ever in.
func Void(name string) bool {
	names := [...]string{
		"area", "base", "basefont", "bgsound", "br", "col", "embed", "frame", "hr", "img", "input", "keygen", "link",
		"meta", "param", "source", "track", "wbr",
	}
	return slices.Contains(names[:], name)
}

// Plain tells of the elements of HTML whose texts are written as they are.
func Plain(name string, scripts bool) bool {
	names := [...]string{"style", "script", "xmp", "iframe", "noembed", "noframes", "plaintext"}
	return slices.Contains(names[:], name) || scripts && name == "noscript"
}

func isHTML(x api.Node) bool {
	return x.Kind == api.KElement && x.Space == api.HTML
}

func isVoid(x api.Node) bool {
	return isHTML(x) && Void(x.Name)
}

// ahead is what an attribute's shown name has ahead of its name. It is told by the namespace alone: a prefix may be any
// text. Layer 1 keeps attributes of any namespace; the chapter has words for three.
func ahead(x api.Attr) string {
	switch x.Space {
	case api.XLink:
		return "xlink:"
	case api.XML:
		return "xml:"
	case api.XMLNS:
		if x.Name != "xmlns" {
			return "xmlns:"
		}
	}
	return ""
}
