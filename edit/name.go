package edit

import (
	"strings"

	"hornbeam/api"
	"hornbeam/node"
)

const maxName = 100

// notInNames are the bytes that no name has.
const notInNames = "\x00\t\n\f\r /=><\"'"

// Name tells whether a text may be a name.
func Name(s string) bool {
	return s != "" && len(s) <= maxName && !strings.ContainsAny(s, notInNames)
}

func isElementName(s string) bool {
	return Name(s) && (s[0] >= 'a' && s[0] <= 'z' || isCapital(s[0]))
}

// attrName is the name that an element's attribute has.
func attrName(a *node.Arena, id int, name string) (string, api.Errno) {
	if e := mayFind(a, id); e != api.OK {
		return "", e
	}
	x := see(a, id)
	if x.Kind != api.KElement {
		return "", api.ErrKind
	}
	if !Name(name) {
		return "", api.ErrName
	}
	if x.Space == api.HTML {
		return small(name), api.OK
	}
	return name, api.OK
}

// small goes byte by byte: strings.ToLower would change other letters, and bytes that are no UTF-8.
func small(s string) string {
	b := []byte(s)
	for i, c := range b {
		if isCapital(c) {
			b[i] = c - 'A' + 'a'
		}
	}
	return string(b)
}

func isCapital(c byte) bool { return c >= 'A' && c <= 'Z' }
