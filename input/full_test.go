package input_test

import (
	"testing"

	"hornbeam/input"
)

// many is n times the same code point.
func many(r rune, n int) []rune {
	l := make([]rune, n)
	for i := range l {
		l[i] = r
	}
	return l
}

// count takes all that Next gives, and tells how many there were, and whether each was r. It stops where there are more than can wait.
func count(s *input.Stream, r rune) (int, bool) {
	all := true
	for n := range most + 1 {
		c, is := s.Next()
		if !is {
			return n, all
		}
		all = all && c == r
	}
	return most + 1, all
}

// P7.1: one less than MaxInput by Feed, as many, one more.
func TestFullByFeed(t *testing.T) {
	for _, n := range []int{most - 1, most} {
		s := input.New()
		gives(t, "Feed", s.Feed(many('a', n)), ok)
		stands(t, s, n, 0)
		if got, all := count(s, 'a'); got != n || !all {
			t.Errorf("%d of %d came out, alike: %v", got, n, all)
		}
	}
	for _, n := range []int{most + 1, most + 2, 2 * most} {
		s := fed(t, "")
		gives(t, "Feed", s.Feed(many('a', n)), errFull)
		stands(t, s, 0, 0)
		reads(t, s, "")
		gives(t, "Feed", s.Feed(points("b")), ok)
		reads(t, s, "b")
	}
}

// P7.1: what waits counts, what was read does not.
func TestFullByWhatWaits(t *testing.T) {
	s := fed(t, "abc")
	gives(t, "Feed", s.Feed(many('d', most-2)), errFull)
	stands(t, s, 3, 0)
	s.Next()
	gives(t, "Feed", s.Feed(many('d', most-2)), ok)
	stands(t, s, most, 0)
	gives(t, "Feed", s.Feed(points("e")), errFull)
	gives(t, "Feed", s.Feed(nil), ok)
	gives(t, "Feed", s.Feed([]rune{}), ok)
	s.Next()
	gives(t, "Feed", s.Feed(points("ef")), errFull)
	gives(t, "Feed", s.Feed(points("e")), ok)
	stands(t, s, most, 0)
	if r, is := s.Next(); r != 'c' || !is {
		t.Errorf("Next: %d %v", r, is)
	}
	for range most - 2 {
		if r, is := s.Next(); r != 'd' || !is {
			t.Fatalf("Next: %d %v", r, is)
		}
	}
	reads(t, s, "e")
}

// P7.1: ErrFull is counted ahead of line ends, by Feed and by Write; what errs changes nothing, a 13 that was fed is still remembered.
func TestFullAheadOfLineEnds(t *testing.T) {
	ends := make([]rune, 0, most)
	for range most / 2 {
		ends = append(ends, 13, 10)
	}
	for _, marks := range []int{0, 1} {
		s := input.New()
		put := s.Feed
		if marks == 1 {
			gives(t, "Mark", s.Mark(), ok)
			put = s.Write
		}
		gives(t, "put", put(append(ends[:most:most], 10)), errFull)
		stands(t, s, 0, marks)
		gives(t, "put", put(ends), ok)
		stands(t, s, most/2, marks)
		gives(t, "put", put(ends[:most/2+2]), errFull)
		gives(t, "put", put(ends[:most/2]), ok)
		stands(t, s, most/2+most/4, marks)
		if n, all := count(s, 10); n != most/2+most/4 || !all {
			t.Errorf("%d came out, alike: %v", n, all)
		}
	}

	s := input.New()
	gives(t, "Feed", s.Feed(many(13, most)), ok)
	gives(t, "Feed", s.Feed(points("n")), errFull) // nothing would be left of it, but it counts
	stands(t, s, most, 0)
	s.Next()
	gives(t, "Feed", s.Feed(points("na")), errFull)
	gives(t, "Feed", s.Feed(points("n")), ok)
	stands(t, s, most-1, 0)
	gives(t, "Feed", s.Feed(points("n")), ok)
	stands(t, s, most, 0)
}

// P7.1: an error of Feed does not make a new source, nor end the old one.
func TestErrorsForgetNoLineEnd(t *testing.T) {
	s := fed(t, "ar")
	gives(t, "Feed", s.Feed(many('n', most)), errFull)
	gives(t, "Feed", s.Feed(append(many(13, most), 'b')), errFull)
	gives(t, "Write", s.Write(points("x")), errState)
	gives(t, "Unmark", s.Unmark(), errState)
	gives(t, "Feed", s.Feed(points("nb")), ok)
	gives(t, "Feed", s.Feed(append(many('b', most), 13)), errFull)
	gives(t, "Feed", s.Feed(points("nc")), ok)
	reads(t, s, "anbnc")
}

// P7.1: ErrFull of Write, behind ErrState.
func TestFullByWrite(t *testing.T) {
	s := fed(t, "ab")
	gives(t, "Write", s.Write(many('x', most+1)), errState)
	gives(t, "Mark", s.Mark(), ok)
	gives(t, "Write", s.Write(many('x', most-1)), errFull)
	stands(t, s, 2, 1)
	reads(t, s, "")
	gives(t, "Write", s.Write(many('x', most-3)), ok)
	stands(t, s, most-1, 1)
	gives(t, "Write", s.Write(points("yz")), errFull)
	gives(t, "Feed", s.Feed(points("cd")), errFull)
	gives(t, "Write", s.Write(points("y")), ok)
	gives(t, "Write", s.Write(points("z")), errFull)
	gives(t, "Feed", s.Feed(points("c")), errFull)
	gives(t, "Write", s.Write(nil), ok)
	gives(t, "Feed", s.Feed(nil), ok)
	stands(t, s, most, 1)
	gives(t, "Mark", s.Mark(), ok)
	gives(t, "Write", s.Write(points("z")), errFull)
	gives(t, "Unmark", s.Unmark(), ok)
	for range most - 3 {
		if r, is := s.Next(); r != 'x' || !is {
			t.Fatalf("Next: %d %v", r, is)
		}
	}
	reads(t, s, "y")
	gives(t, "Unmark", s.Unmark(), ok)
	reads(t, s, "ab")
}

// P7.1: behind End, Feed's ErrState goes ahead of its ErrFull.
func TestStateAheadOfFull(t *testing.T) {
	s := fed(t, "")
	gives(t, "End", s.End(), ok)
	gives(t, "Feed", s.Feed(many('a', most+1)), errState)
	reads(t, s, ".")
}

// P7.1, P7.4: as many as MaxInput, one by one, by Feed and by Write at each depth, all unread, then through all marks.
func TestFullOneByOne(t *testing.T) {
	s := input.New()
	for i := range most / 2 {
		gives(t, "Feed", s.Feed([]rune{rune(i + 100)}), ok)
	}
	gives(t, "Mark", s.Mark(), ok)
	gives(t, "Mark", s.Mark(), ok)
	for i := range most / 4 {
		gives(t, "Write", s.Write([]rune{rune(i + 100)}), ok)
	}
	gives(t, "Unmark", s.Unmark(), ok)
	for i := most / 4; i < most/2; i++ {
		gives(t, "Write", s.Write([]rune{rune(i + 100)}), ok)
	}
	stands(t, s, most, 1)
	gives(t, "Write", s.Write(points("x")), errFull)
	gives(t, "Feed", s.Feed(points("x")), errFull)
	gives(t, "Unmark", s.Unmark(), ok)
	for i := range most {
		if r, is := s.Next(); r != rune(i%(most/2)+100) || !is {
			t.Fatalf("Next %d: %d %v", i, r, is)
		}
	}
	reads(t, s, "")
}

// P7.1: far more goes through than may wait at once.
func TestManyMoreThanWait(t *testing.T) {
	s := input.New()
	chunk := append(many('a', 1000), 13)
	for range 3000 {
		gives(t, "Feed", s.Feed(chunk), ok)
		for range 1001 {
			if _, is := s.Next(); !is {
				t.Fatal("too few")
			}
		}
		if !stands(t, s, 0, 0) {
			return
		}
	}
}
