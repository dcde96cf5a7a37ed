package builder

import (
	"slices"

	"hornbeam/api"
)

// isOld tells of the blocks that close a p.
func isOld(name string) bool {
	names := [...]string{
		"address", "article", "aside", "blockquote", "center", "details", "dialog", "dir", "div", "dl", "fieldset",
		"figcaption", "figure", "footer", "header", "hgroup", "main", "menu", "nav", "ol", "p", "search", "section",
		"summary", "ul",
	}
	return slices.Contains(names[:], name)
}

// isFormat tells of the formatting elements.
func isFormat(name string) bool {
	names := [...]string{
		"a", "b", "big", "code", "em", "font", "i", "nobr", "s", "small", "strike", "strong", "tt", "u",
	}
	return slices.Contains(names[:], name)
}

// isMeta tells of what goes into a head wherever it stands.
func isMeta(name string) bool {
	names := [...]string{
		"base", "basefont", "bgsound", "link", "meta", "noframes", "script", "style", "template", "title",
	}
	return slices.Contains(names[:], name)
}

// isPart tells of the parts of a table.
func isPart(name string) bool {
	names := [...]string{"caption", "col", "colgroup", "tbody", "td", "tfoot", "th", "thead", "tr"}
	return slices.Contains(names[:], name)
}

// isSection tells of the parts of a table that have rows.
func isSection(name string) bool {
	return name == "tbody" || name == "tfoot" || name == "thead"
}

func isCell(name string) bool {
	return name == "td" || name == "th"
}

func isHeading(name string) bool {
	names := [...]string{"h1", "h2", "h3", "h4", "h5", "h6"}
	return slices.Contains(names[:], name)
}

// mayStayOpen tells of elements whose end tags may be left out at a page's end.
func mayStayOpen(name string) bool {
	names := [...]string{
		"dd", "dt", "li", "optgroup", "option", "p", "rb", "rp", "rt", "rtc", "tbody", "td", "tfoot", "th", "thead",
		"tr", "body", "html",
	}
	return slices.Contains(names[:], name)
}

// isBlank tells whether a token is a character that is blank.
func isBlank(t api.Token) bool {
	return t.Kind == api.TChar && isBlankChar(t.Char)
}

func isBlankChar(c rune) bool {
	switch c {
	case '\t', '\n', '\f', '\r', ' ':
		return true
	}
	return false
}

// isHidden tells whether an input is not to be seen.
func isHidden(t api.Token) bool {
	i := slices.IndexFunc(t.Attrs, func(x api.Attr) bool { return x.Name == "type" })
	return i >= 0 && small(t.Attrs[i].Value) == "hidden"
}

// small is a text with small letters for A to Z.
func small(s string) string {
	l := []byte(s)
	for i, c := range l {
		if c >= 'A' && c <= 'Z' {
			l[i] = c - 'A' + 'a'
		}
	}
	return string(l)
}
