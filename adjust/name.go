package adjust

// proper is the name of a table that name is in small letters; else name.
func proper(table []string, name string) string {
	for _, x := range table {
		if inSmall(x, name) {
			return x
		}
	}
	return name
}

// inSmall tells whether s in small letters is text, one of the two being of ASCII alone: a code point at its place is
// then the byte at that place, and one beyond ASCII is none.
func inSmall(s, text string) bool {
	if len(s) != len(text) {
		return false
	}
	for i, r := range s {
		if small(r) != rune(text[i]) {
			return false
		}
	}
	return true
}

// small takes A to Z as a to z: other letters have no sizes here.
func small(r rune) rune {
	if r >= 'A' && r <= 'Z' {
		return r + 'a' - 'A'
	}
	return r
}
