package input_test

import (
	"testing"

	"hornbeam/input"
)

// P7.1, P7.2: the chapter's second example.
func TestExampleOfWrites(t *testing.T) {
	s := fed(t, "cd")
	gives(t, "Mark", s.Mark(), ok)
	stands(t, s, 2, 1)
	gives(t, "Write", s.Write(points("xy")), ok)
	stands(t, s, 4, 1)
	reads(t, s, "xy")
	reads(t, s, "")
	stands(t, s, 2, 1)
	gives(t, "Unmark", s.Unmark(), ok)
	stands(t, s, 2, 0)
	reads(t, s, "cd")
}

// P7.1: Write asks for a mark, ahead of all else.
func TestWriteWithoutMark(t *testing.T) {
	s := fed(t, "ab")
	for _, l := range [][]rune{nil, {}, points("x"), make([]rune, most+1)} {
		gives(t, "Write", s.Write(l), errState)
		stands(t, s, 2, 0)
	}
	gives(t, "Mark", s.Mark(), ok)
	gives(t, "Unmark", s.Unmark(), ok)
	gives(t, "Write", s.Write(points("x")), errState)
	gives(t, "Write", s.Write(nil), errState)
	reads(t, s, "ab")
}

// P7.1: writes at one mark stand in their order, however much was read between.
func TestWritesInOrder(t *testing.T) {
	s := fed(t, "z")
	gives(t, "Mark", s.Mark(), ok)
	for _, l := range []string{"ab", "", "c", "de"} {
		gives(t, "Write", s.Write(points(l)), ok)
	}
	gives(t, "Write", s.Write(nil), ok)
	stands(t, s, 6, 1)
	if r, is := s.Next(); r != 'a' || !is {
		t.Errorf("Next: %d %v", r, is)
	}
	gives(t, "Write", s.Write(points("f")), ok)
	reads(t, s, "bcdef")
	gives(t, "Write", s.Write(points("gh")), ok)
	reads(t, s, "gh")
	gives(t, "Unmark", s.Unmark(), ok)
	reads(t, s, "z")
}

// P7.1: each write is a source of its own.
func TestLineEndsOfWrites(t *testing.T) {
	for _, c := range []struct {
		writes []string
		want   string
	}{
		{[]string{"r"}, "n"},
		{[]string{"n"}, "n"},
		{[]string{"rn"}, "n"},
		{[]string{"rrn"}, "nn"},
		{[]string{"nr"}, "nn"},
		{[]string{"rnn"}, "nn"},
		{[]string{"r", "n"}, "nn"},
		{[]string{"r", "", "n"}, "nn"},
		{[]string{"rn", "n"}, "nn"},
		{[]string{"r", "rn"}, "nn"},
		{[]string{"ar", "nb"}, "annb"},
		{[]string{"a", "rnb"}, "anb"},
	} {
		s := input.New()
		gives(t, "Mark", s.Mark(), ok)
		for _, w := range c.writes {
			gives(t, "Write", s.Write(points(w)), ok)
		}
		stands(t, s, len(c.want), 1)
		if got := read(t, s); got != c.want {
			t.Errorf("%q: %q, not %q", c.writes, got, c.want)
		}
	}
}

// P7.1: a 13 at the end of a write, and a 10 at the beginning of what was fed, of what waits, or of an outer write.
func TestLineEndOfWriteAndRest(t *testing.T) {
	s := fed(t, "nb")
	gives(t, "Mark", s.Mark(), ok)
	gives(t, "Write", s.Write(points("ar")), ok)
	gives(t, "Unmark", s.Unmark(), ok)
	stands(t, s, 4, 0)
	reads(t, s, "annb")

	s = fed(t, "anb")
	s.Next()
	gives(t, "Mark", s.Mark(), ok)
	gives(t, "Write", s.Write(points("r")), ok)
	reads(t, s, "n")
	gives(t, "Unmark", s.Unmark(), ok)
	reads(t, s, "nb")

	s = input.New()
	gives(t, "Mark", s.Mark(), ok)
	gives(t, "Write", s.Write(points("nb")), ok)
	gives(t, "Mark", s.Mark(), ok)
	gives(t, "Write", s.Write(points("r")), ok)
	gives(t, "Unmark", s.Unmark(), ok)
	reads(t, s, "nnb")
}

// P7.1: a 13 that was fed, and a 10 at the beginning of a write.
func TestLineEndOfFeedAndWrite(t *testing.T) {
	s := fed(t, "r")
	reads(t, s, "n")
	gives(t, "Mark", s.Mark(), ok)
	gives(t, "Write", s.Write(points("na")), ok)
	reads(t, s, "na")
	gives(t, "Unmark", s.Unmark(), ok)
	gives(t, "Feed", s.Feed(points("nb")), ok)
	reads(t, s, "b")
}

// P7.1: all that is fed is one source, whatever is written between the halves of a line end.
func TestWriteBetweenHalves(t *testing.T) {
	for _, w := range []string{"", "x", "r", "n", "rn", "xr", "nx"} {
		for early := range 2 {
			s := fed(t, "ar")
			if early == 1 {
				reads(t, s, "an")
			}
			gives(t, "Mark", s.Mark(), ok)
			gives(t, "Write", s.Write(points(w)), ok)
			gives(t, "Feed", s.Feed(points("nb")), ok)
			gives(t, "Unmark", s.Unmark(), ok)
			gives(t, "End", s.End(), ok)
			rest := []string{"anb.", "b."}[early]
			reads(t, s, letters(lines(points(w)))+rest)
		}
	}
	// A 13 that is written is not one that was fed.
	s := fed(t, "a")
	gives(t, "Mark", s.Mark(), ok)
	gives(t, "Write", s.Write(points("r")), ok)
	gives(t, "Unmark", s.Unmark(), ok)
	gives(t, "Feed", s.Feed(points("n")), ok)
	reads(t, s, "nan")
}

func letters(l []rune) string {
	out := ""
	for _, r := range l {
		out += string(letter(r))
	}
	return out
}

// P7.1, P7.4: what is fed while there is a mark stands behind what is written, even if nothing waited at that mark.
func TestFeedAtMark(t *testing.T) {
	s := input.New()
	gives(t, "Mark", s.Mark(), ok)
	gives(t, "Feed", s.Feed(points("ab")), ok)
	reads(t, s, "")
	gives(t, "Write", s.Write(points("x")), ok)
	gives(t, "Feed", s.Feed(points("c")), ok)
	gives(t, "Write", s.Write(points("y")), ok)
	stands(t, s, 5, 1)
	reads(t, s, "xy")
	gives(t, "Write", s.Write(points("z")), ok)
	gives(t, "Unmark", s.Unmark(), ok)
	reads(t, s, "zabc")
}

// P7.1: writes go on behind End, and the end waits for them.
func TestWriteBehindEnd(t *testing.T) {
	s := fed(t, "ab")
	gives(t, "End", s.End(), ok)
	gives(t, "Mark", s.Mark(), ok)
	gives(t, "Write", s.Write(points("xrn")), ok)
	reads(t, s, "xn")
	gives(t, "Unmark", s.Unmark(), ok)
	reads(t, s, "ab.")
	gives(t, "Mark", s.Mark(), ok)
	reads(t, s, "")
	gives(t, "Write", s.Write(points("y")), ok)
	reads(t, s, "y")
	gives(t, "Unmark", s.Unmark(), ok)
	reads(t, s, ".")
}

// P7.4: a text that is written in many pieces comes ahead of all that was fed, and of what is fed between.
func TestManyWrites(t *testing.T) {
	s := input.New()
	gives(t, "Mark", s.Mark(), ok)
	want := ""
	for i := range 500 {
		gives(t, "Feed", s.Feed([]rune{rune('0' + i%10)}), ok)
		gives(t, "Write", s.Write([]rune{rune('A' + i%26)}), ok)
		want += string(rune('A' + i%26))
	}
	stands(t, s, 1000, 1)
	gives(t, "Unmark", s.Unmark(), ok)
	for i := range 500 {
		want += string(rune('0' + i%10))
	}
	gives(t, "End", s.End(), ok)
	reads(t, s, want+".")
}
