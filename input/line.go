package input

import "slices"

// lineEnds makes a function that is told the code points of one source, one by one, and answers what waits for each, and whether anything does. It remembers how the source went on, as a line end may be cut in two.
func lineEnds() func(r rune) (rune, bool) {
	after13 := false
	return func(r rune) (rune, bool) {
		secondHalf := after13 && r == 10
		after13 = r == 13
		switch {
		case secondHalf:
			return 0, false
		case after13:
			return 10, true
		}
		return r, true
	}
}

// add answers part with what the line ends leave of l behind it.
func add(part, l []rune, ends func(r rune) (rune, bool)) []rune {
	part = slices.Grow(part, len(l))
	for _, r := range l {
		if c, ok := ends(r); ok {
			part = append(part, c)
		}
	}
	return part
}

// join answers both parts as one. Mostly all that was written has been read by then, and nothing has to be moved.
func join(ahead, behind []rune) []rune {
	if len(ahead) == 0 {
		return behind
	}
	l := make([]rune, len(ahead)+len(behind))
	n := copy(l, ahead)
	copy(l[n:], behind)
	return l
}
