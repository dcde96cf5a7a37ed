package input_test

import (
	"testing"

	"hornbeam/input"
)

// P7.1: Unmark down to none, and once more.
func TestUnmark(t *testing.T) {
	s := fed(t, "ab")
	gives(t, "Unmark", s.Unmark(), errState)
	for range 3 {
		gives(t, "Mark", s.Mark(), ok)
	}
	for i := range 3 {
		reads(t, s, "")
		stands(t, s, 2, 3-i)
		gives(t, "Unmark", s.Unmark(), ok)
	}
	stands(t, s, 2, 0)
	gives(t, "Unmark", s.Unmark(), errState)
	gives(t, "Unmark", s.Unmark(), errState)
	stands(t, s, 2, 0)
	reads(t, s, "ab")
	gives(t, "Unmark", s.Unmark(), errState)
}

// P7.1: as many marks as MaxNest, one more, two more.
func TestMostMarks(t *testing.T) {
	s := fed(t, "ab")
	for i := range nest + 1 {
		gives(t, "Mark", s.Mark(), ok)
		stands(t, s, 2, i+1)
	}
	for range 3 {
		gives(t, "Mark", s.Mark(), errFull)
		stands(t, s, 2, nest+1)
	}
	gives(t, "Write", s.Write(points("x")), ok)
	gives(t, "Mark", s.Mark(), errFull)
	reads(t, s, "x") // the mark that was refused is not there
	gives(t, "Unmark", s.Unmark(), ok)
	stands(t, s, 2, nest)
	gives(t, "Mark", s.Mark(), ok)
	gives(t, "Mark", s.Mark(), errFull)
	for i := range nest + 1 {
		gives(t, "Unmark", s.Unmark(), ok)
		stands(t, s, 2, nest-i)
	}
	gives(t, "Unmark", s.Unmark(), errState)
	reads(t, s, "ab")
}

// P7.1, P7.2: marks within marks, each with something of its own.
func TestMarksWithinMarks(t *testing.T) {
	s := fed(t, "z")
	want := ""
	for i := range nest + 1 {
		gives(t, "Mark", s.Mark(), ok)
		a := rune('a' + i)
		gives(t, "Write", s.Write([]rune{a, a, a}), ok)
		if r, is := s.Next(); r != a || !is {
			t.Errorf("Next: %d %v", r, is)
		}
		stands(t, s, 1+2*(i+1), i+1)
		want = string([]rune{a, a}) + want
	}
	for i := range nest + 1 {
		reads(t, s, want[2*i:2*i+2])
		reads(t, s, "")
		gives(t, "Unmark", s.Unmark(), ok)
	}
	reads(t, s, "z")
}

// P7.1: the marks of unread writes go one by one, and all that was written is in order.
func TestUnmarkUnread(t *testing.T) {
	s := fed(t, "z")
	for i := range nest + 1 {
		gives(t, "Mark", s.Mark(), ok)
		gives(t, "Write", s.Write([]rune{rune('a' + i), rune('A' + i)}), ok)
	}
	want := "z"
	for i := range nest + 1 {
		want = string([]rune{rune('a' + i), rune('A' + i)}) + want
		gives(t, "Unmark", s.Unmark(), ok)
		stands(t, s, 1+2*(nest+1), nest-i)
	}
	reads(t, s, want)
}

// P7.2: marks further behind stop nothing; the last one at the beginning does.
func TestMarksFurtherBehind(t *testing.T) {
	s := fed(t, "z")
	gives(t, "Mark", s.Mark(), ok)
	gives(t, "Write", s.Write(points("ab")), ok)
	gives(t, "Mark", s.Mark(), ok)
	reads(t, s, "") // the last mark is at the beginning, the first one is not
	gives(t, "Write", s.Write(points("x")), ok)
	gives(t, "Unmark", s.Unmark(), ok)
	reads(t, s, "xab") // up to the first mark
	stands(t, s, 1, 1)
	gives(t, "Unmark", s.Unmark(), ok)
	reads(t, s, "z")
}

// P7.1: a write where several marks are at one place moves all of them behind it.
func TestWriteAtSeveralMarks(t *testing.T) {
	s := fed(t, "z")
	for range 3 {
		gives(t, "Mark", s.Mark(), ok)
	}
	gives(t, "Write", s.Write(points("ab")), ok)
	reads(t, s, "ab")
	gives(t, "Write", s.Write(points("cd")), ok)
	gives(t, "Unmark", s.Unmark(), ok)
	if r, is := s.Next(); r != 'c' || !is {
		t.Errorf("Next: %d %v", r, is)
	}
	gives(t, "Unmark", s.Unmark(), ok)
	stands(t, s, 2, 1)
	gives(t, "Write", s.Write(points("e")), ok) // at the mark that is left: behind what was written at the others
	reads(t, s, "de")
	gives(t, "Unmark", s.Unmark(), ok)
	reads(t, s, "z")
}

// P7.1: a write at an outer mark, with something of an inner one still unread, and the inner one gone.
func TestWriteBehindInner(t *testing.T) {
	s := fed(t, "z")
	gives(t, "Mark", s.Mark(), ok)
	gives(t, "Write", s.Write(points("abr")), ok)
	gives(t, "Mark", s.Mark(), ok)
	gives(t, "Write", s.Write(points("xyr")), ok)
	s.Next()
	gives(t, "Unmark", s.Unmark(), ok)
	gives(t, "Write", s.Write(points("nc")), ok)
	stands(t, s, 8, 1)
	reads(t, s, "ynabnnc")
	gives(t, "Unmark", s.Unmark(), ok)
	reads(t, s, "z")
}

// P7.1: what is written does not run over what stands behind its mark, nor over what is fed, nor the other way round.
func TestPartsShareNothing(t *testing.T) {
	s := fed(t, "abcdefgh")
	for range 4 {
		s.Next()
	}
	gives(t, "Mark", s.Mark(), ok)
	gives(t, "Write", s.Write(points("uvwxyz")), ok)
	gives(t, "Feed", s.Feed(points("ij")), ok)
	gives(t, "Mark", s.Mark(), ok)
	gives(t, "Write", s.Write(points("012")), ok)
	gives(t, "Write", s.Write(points("345")), ok)
	gives(t, "Feed", s.Feed(points("kl")), ok)
	gives(t, "Unmark", s.Unmark(), ok)
	gives(t, "Write", s.Write(points("XYZ")), ok)
	gives(t, "Feed", s.Feed(points("mo")), ok)
	gives(t, "Unmark", s.Unmark(), ok)
	gives(t, "Feed", s.Feed(points("pq")), ok)
	reads(t, s, "012345uvwxyzXYZefghijklmopq")
}

// P7.2: no EOF while there is a mark, nothing waiting and the stream ended.
func TestNoEOFAtMark(t *testing.T) {
	s := input.New()
	gives(t, "Mark", s.Mark(), ok)
	gives(t, "Mark", s.Mark(), ok)
	gives(t, "End", s.End(), ok)
	for range 10 {
		reads(t, s, "")
	}
	gives(t, "Unmark", s.Unmark(), ok)
	for range 10 {
		reads(t, s, "")
	}
	stands(t, s, 0, 1)
	gives(t, "Unmark", s.Unmark(), ok)
	for range 10 {
		reads(t, s, ".")
	}
	gives(t, "Mark", s.Mark(), ok)
	reads(t, s, "")
}

// P7.2: nothing waits, and it was not ended: nothing, with marks and without.
func TestNothingWaits(t *testing.T) {
	s := fed(t, "a")
	reads(t, s, "a")
	gives(t, "Mark", s.Mark(), ok)
	reads(t, s, "")
	gives(t, "Unmark", s.Unmark(), ok)
	reads(t, s, "")
	gives(t, "Feed", s.Feed(points("b")), ok)
	reads(t, s, "b")
}
