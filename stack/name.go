package stack

import (
	"slices"

	"hornbeam/api"
)

// called is what elements are told apart by here: all else that the arena says of one is much to carry about.
type called struct {
	space int
	name  string
}

// known is what is kept of an element: what it is called, and of which kinds of scopes it is a border.
type known struct {
	called
	border [kinds]bool
	there  bool
}

func newKnown(x called) known {
	k := known{called: x, there: true}
	for kind := range kinds {
		k.border[kind] = isBorder(x, kind)
	}
	return k
}

// isNamed tells whether an element is one of HTML of that name.
func isNamed(x called, name string) bool {
	return x.space == api.HTML && x.name == name
}

// isAmong tells whether an element is one of a namespace and has one of the names.
func isAmong(x called, space int, names ...string) bool {
	return x.space == space && slices.Contains(names, x.name)
}

// isPlainBorder tells of the borders of the scope, which are among those of the list scope and the button scope too.
func isPlainBorder(x called) bool {
	names := [...]string{"applet", "caption", "html", "table", "td", "th", "marquee", "object", "template"}
	return isAmong(x, api.HTML, names[:]...) || isForeign(x)
}

// isForeign tells of the elements of MathML and SVG that are borders of the scope: the same ones are special.
func isForeign(x called) bool {
	math := [...]string{"mi", "mo", "mn", "ms", "mtext", "annotation-xml"}
	svg := [...]string{"foreignObject", "desc", "title"}
	return isAmong(x, api.MathML, math[:]...) || isAmong(x, api.SVG, svg[:]...)
}

func isTableBorder(x called) bool {
	names := [...]string{"html", "table", "template"}
	return isAmong(x, api.HTML, names[:]...)
}

// isImplied tells of elements whose end tags may be left out.
func isImplied(x called) bool {
	names := [...]string{"dd", "dt", "li", "optgroup", "option", "p", "rb", "rp", "rt", "rtc"}
	return isAmong(x, api.HTML, names[:]...)
}

func isTablePart(x called) bool {
	names := [...]string{"caption", "colgroup", "tbody", "td", "tfoot", "th", "thead", "tr"}
	return isAmong(x, api.HTML, names[:]...)
}

func isSpecial(x called) bool {
	names := [...]string{
		"address", "applet", "area", "article", "aside", "base", "basefont", "bgsound", "blockquote", "body", "br",
		"button", "caption", "center", "col", "colgroup", "dd", "details", "dir", "div", "dl", "dt", "embed",
		"fieldset", "figcaption", "figure", "footer", "form", "frame", "frameset", "h1", "h2", "h3", "h4", "h5", "h6",
		"head", "header", "hgroup", "hr", "html", "iframe", "img", "input", "keygen", "li", "link", "listing", "main",
		"marquee", "menu", "meta", "nav", "noembed", "noframes", "noscript", "object", "ol", "p", "param",
		"plaintext", "pre", "script", "search", "section", "select", "source", "style", "summary", "table", "tbody",
		"td", "template", "textarea", "tfoot", "th", "thead", "title", "tr", "track", "ul", "wbr", "xmp",
	}
	return isAmong(x, api.HTML, names[:]...) || isForeign(x)
}
