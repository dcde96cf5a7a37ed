package quirk

import (
	"slices"

	"hornbeam/api"
)

// What a doctype has, as bits of Has. A part's text alone does not tell: a part that is there may be empty.
const (
	name       = 1
	identifier = 2 // the public one
	system     = 4
)

func has(t api.Token, part int) bool {
	return t.Has&part != 0
}

func isNamed(t api.Token) bool {
	return has(t, name) && same(t.Name, "html")
}

// isOld tells whether an identifier is one of those that lead to quirks as a whole.
func isOld(t api.Token) bool {
	const ibm = "http://www.ibm.com/data/dtd/v11/ibmxhtml1-transitional.dtd"
	if has(t, system) && same(t.System, ibm) {
		return true
	}
	return has(t, identifier) && slices.ContainsFunc(whole(), func(s string) bool { return same(t.Data, s) })
}

// public answers a question: does the public identifier of t begin with one of the texts of a table?
func public(t api.Token) func(table []string) bool {
	begun := func(s string) bool {
		return len(s) <= len(t.Data) && same(t.Data[:len(s)], s)
	}
	return func(table []string) bool {
		return has(t, identifier) && slices.ContainsFunc(table, begun)
	}
}

// same holds two texts against each other, A to Z taken as a to z. It goes byte by byte: other letters have no sizes
// here, and what is no UTF-8 stays what it is.
func same(a, b string) bool {
	if len(a) != len(b) {
		return false
	}
	for i := range len(a) {
		if small(a[i]) != small(b[i]) {
			return false
		}
	}
	return true
}

func small(c byte) byte {
	if c >= 'A' && c <= 'Z' {
		return c + 'a' - 'A'
	}
	return c
}
