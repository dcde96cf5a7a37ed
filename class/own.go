package class

import (
	"strings"
	"unicode/utf8"

	"hornbeam/api"
)

// maxName is how many letters a plain name has at most.
const maxName = 50

func never(x api.Node) bool {
	return false
}

func isBare(x api.Node) bool {
	return len(x.Attrs) == 0
}

// hasPlainAttrs tells whether all attributes are plain ones, of unlike names.
func hasPlainAttrs(x api.Node) bool {
	names := make(map[string]struct{}, len(x.Attrs))
	for _, attr := range x.Attrs {
		if attr.Space != api.HTML || attr.Prefix != "" || !isPlainName(attr.Name) || !isPlain(attr.Value) {
			return false
		}
		names[attr.Name] = struct{}{}
	}
	return len(names) == len(x.Attrs)
}

// isPlainText refuses an empty text: no page has one.
func isPlainText(x api.Node) bool {
	return x.Data != "" && isPlain(x.Data)
}

// isPlainComment refuses what would end the comment ahead of its end.
func isPlainComment(x api.Node) bool {
	return isPlain(x.Data) &&
		!strings.Contains(x.Data, "--") &&
		!strings.HasPrefix(x.Data, ">") &&
		!strings.HasPrefix(x.Data, "->") &&
		!strings.HasSuffix(x.Data, "-")
}

// isPlain tells whether a text is of plain code points alone: those that a page may have anywhere, and that stay as
// they are.
func isPlain(s string) bool {
	return utf8.ValidString(s) && !strings.ContainsAny(s, "\x00\r")
}

func isPlainName(s string) bool {
	if s == "" || len(s) > maxName || !isLetter(s[0]) {
		return false
	}
	for _, c := range []byte(s) {
		if !isLetter(c) && (c < '0' || c > '9') && c != '-' {
			return false
		}
	}
	return true
}

func isLetter(c byte) bool {
	return c >= 'a' && c <= 'z'
}
