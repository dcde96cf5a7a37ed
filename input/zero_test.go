package input_test

import (
	"testing"

	"hornbeam/input"
)

// P7.3: a nil stream, and those that no call made, with every call, twice over: no call makes one of them a stream.
func TestZero(t *testing.T) {
	for _, s := range []*input.Stream{nil, {}, new(input.Stream)} {
		for range 2 {
			for _, l := range [][]rune{nil, {}, {'a'}, {13, 10}, make([]rune, most+1)} {
				gives(t, "Feed", s.Feed(l), errZero)
				gives(t, "Write", s.Write(l), errZero)
			}
			gives(t, "Mark", s.Mark(), errZero)
			gives(t, "Unmark", s.Unmark(), errZero)
			gives(t, "End", s.End(), errZero)
			gives(t, "Drop", s.Drop(), errZero)
			if r, is := s.Next(); r != 0 || is {
				t.Errorf("Next: %d %v", r, is)
			}
			if r, is := s.Peek(); r != 0 || is {
				t.Errorf("Peek: %d %v", r, is)
			}
			stands(t, s, 0, 0)
		}
	}
	var field struct{ s input.Stream }
	gives(t, "End", field.s.End(), errZero)
	gives(t, "Mark", field.s.Mark(), errZero)
	stands(t, &field.s, 0, 0)
}
