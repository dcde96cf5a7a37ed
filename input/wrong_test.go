package input_test

import (
	"math"
	"slices"
	"testing"

	"hornbeam/input"
)

// strange are numbers that are no code points, and those at the ends of what is.
var strange = []rune{0, end, -2, -10, -13, math.MinInt32, math.MaxInt32, 0x10FFFF, 0x110000, 0xD800, 0xDFFF, 0xFFFD, 0xFEFF, 9, 11, 12, 14, 0x85, 0x2028, 13 + 1<<16, 10 + 1<<16, 13 + 1<<8, 10 + 1<<8}

// P7.1: nothing is refused for what it is, and nothing but 13 and 10 is a line end.
func TestStrangePoints(t *testing.T) {
	var l, want []rune
	for _, r := range strange {
		l = append(l, r, 13, r, 10, r, 13, 10)
		want = append(want, r, 10, r, 10, r, 10)
	}
	for marks := range 2 {
		s := input.New()
		put := s.Feed
		if marks == 1 {
			gives(t, "Mark", s.Mark(), ok)
			put = s.Write
		}
		gives(t, "put", put(l), ok)
		stands(t, s, len(want), marks)
		for i, w := range want {
			if r, is := s.Peek(); r != w || !is {
				t.Fatalf("Peek %d: %d %v, not %d", i, r, is, w)
			}
			if r, is := s.Next(); r != w || !is {
				t.Fatalf("Next %d: %d %v, not %d", i, r, is, w)
			}
		}
		reads(t, s, "")
		stands(t, s, 0, marks)
	}
}

// P7.2: EOF's own number, fed or written, is one that waits, and not the end.
func TestEOFsNumber(t *testing.T) {
	s := input.New()
	gives(t, "Feed", s.Feed([]rune{end, end}), ok)
	gives(t, "Mark", s.Mark(), ok)
	gives(t, "Write", s.Write([]rune{end}), ok)
	next := func(want rune, wantIs bool) {
		t.Helper()
		if r, is := s.Next(); r != want || is != wantIs {
			t.Errorf("Next: %d %v, not %d %v", r, is, want, wantIs)
		}
	}
	next(end, true)
	stands(t, s, 2, 1)
	next(0, false)
	gives(t, "Unmark", s.Unmark(), ok)
	next(end, true)
	stands(t, s, 1, 0)
	next(end, true)
	stands(t, s, 0, 0)
	next(0, false)
	gives(t, "Feed", s.Feed([]rune{13, end, 10}), ok)
	gives(t, "End", s.End(), ok)
	for _, want := range []rune{10, end, 10, end, end} {
		next(want, true)
	}
}

// P4: what is handed in is not changed, behind its end neither, and not kept.
func TestHandedIn(t *testing.T) {
	for marks := range 3 {
		s := input.New()
		put := s.Feed
		for range marks {
			gives(t, "Mark", s.Mark(), ok)
			put = s.Write
		}
		whole := points("arnbrc...")
		l := whole[:6]
		gives(t, "put", put(l), ok)
		gives(t, "put", put(l[:0]), ok)
		gives(t, "put", put(l[:2]), ok)
		for range 3 {
			s.Next()
		}
		gives(t, "put", put(l[1:3]), ok)
		if !slices.Equal(whole, points("arnbrc...")) {
			t.Errorf("%d marks: it was changed: %q", marks, string(whole))
		}
		for i := range whole {
			whole[i] = 'X'
		}
		reads(t, s, "ncann")
		if !slices.Equal(whole, points("XXXXXXXXX")) {
			t.Errorf("%d marks: it was changed later: %q", marks, string(whole))
		}
	}
}

// P5: streams know nothing of each other.
func TestTwoStreams(t *testing.T) {
	a, b := input.New(), input.New()
	gives(t, "Feed", a.Feed(points("r")), ok)
	gives(t, "Feed", b.Feed(points("nb")), ok)
	gives(t, "Mark", a.Mark(), ok)
	gives(t, "Write", b.Write(points("x")), errState)
	gives(t, "Write", a.Write(points("x")), ok)
	gives(t, "End", b.End(), ok)
	gives(t, "Feed", a.Feed(points("na")), ok)
	gives(t, "Drop", b.Drop(), ok)
	gives(t, "Unmark", a.Unmark(), ok)
	stands(t, a, 3, 0)
	reads(t, a, "xna")
	reads(t, b, ".")
}
