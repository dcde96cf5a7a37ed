package input_test

import (
	"testing"

	"hornbeam/input"
)

// P7.1: New.
func TestNew(t *testing.T) {
	s := input.New()
	if s == nil {
		t.Fatal("no stream")
	}
	stands(t, s, 0, 0)
	reads(t, s, "")
	if input.New() == s {
		t.Error("the same stream twice")
	}
}

// P7.1, P7.2: the chapter's first example, one call after the other.
func TestExampleOfFeeds(t *testing.T) {
	s := input.New()
	gives(t, "Feed", s.Feed([]rune{'a', 13}), ok)
	stands(t, s, 2, 0)
	gives(t, "Feed", s.Feed([]rune{10, 'b'}), ok)
	stands(t, s, 3, 0)
	gives(t, "End", s.End(), ok)
	for i, want := range []rune{'a', 10, 'b', end, end} {
		if r, is := s.Next(); r != want || !is {
			t.Errorf("Next %d: %d %v, not %d", i, r, is, want)
		}
	}
	stands(t, s, 0, 0)
}

// P7.1: line ends of what is fed.
func TestLineEndsOfFeeds(t *testing.T) {
	for _, c := range []struct {
		chunks []string
		want   string
	}{
		{[]string{""}, ""},
		{[]string{"ab"}, "ab"},
		{[]string{"r"}, "n"},
		{[]string{"n"}, "n"},
		{[]string{"rn"}, "n"},
		{[]string{"nr"}, "nn"},
		{[]string{"rrn"}, "nn"},
		{[]string{"rnn"}, "nn"},
		{[]string{"rnrn"}, "nn"},
		{[]string{"nn"}, "nn"},
		{[]string{"rr"}, "nn"},
		{[]string{"nrn"}, "nn"},
		{[]string{"ran"}, "nan"},
		{[]string{"arnb"}, "anb"},
		{[]string{"ar", "nb"}, "anb"},
		{[]string{"r", "n"}, "n"},
		{[]string{"r", "", "n"}, "n"},
		{[]string{"r", "n", "n"}, "nn"},
		{[]string{"r", "r", "n"}, "nn"},
		{[]string{"n", "r"}, "nn"},
		{[]string{"r", "a", "n"}, "nan"},
		{[]string{"r", "nr", "n"}, "nn"},
	} {
		s := fed(t, c.chunks...)
		stands(t, s, len(c.want), 0)
		if got := read(t, s); got != c.want {
			t.Errorf("%q: %q, not %q", c.chunks, got, c.want)
		}
		gives(t, "End", s.End(), ok)
		reads(t, s, ".")
	}
}

// P7.1: the second half of a line end is left out however long ago the first was read, and what else was asked meanwhile.
func TestLineEndCutByReading(t *testing.T) {
	s := fed(t, "ar")
	reads(t, s, "an")
	reads(t, s, "")
	gives(t, "Feed", s.Feed(nil), ok)
	gives(t, "Feed", s.Feed([]rune{}), ok)
	reads(t, s, "")
	gives(t, "Feed", s.Feed(points("n")), ok)
	stands(t, s, 0, 0)
	reads(t, s, "")
	gives(t, "Feed", s.Feed(points("n")), ok)
	reads(t, s, "n")
}

// P7.1: ErrState behind End, of nothing too; what errs changes nothing.
func TestFeedBehindEnd(t *testing.T) {
	for _, more := range []string{"", "a", "n", "rn"} {
		s := fed(t, "xr")
		gives(t, "End", s.End(), ok)
		for range 3 {
			gives(t, "Feed behind End", s.Feed(points(more)), errState)
			gives(t, "End behind End", s.End(), errState)
			stands(t, s, 2, 0)
		}
		reads(t, s, "xn.")
		gives(t, "Feed behind all", s.Feed(points(more)), errState)
		gives(t, "Feed of nil behind all", s.Feed(nil), errState)
		gives(t, "End behind all", s.End(), errState)
		reads(t, s, ".")
	}
}

// P7.1, P3: nil and empty lists.
func TestEmptyFeeds(t *testing.T) {
	s := input.New()
	gives(t, "Feed", s.Feed(nil), ok)
	gives(t, "Feed", s.Feed([]rune{}), ok)
	stands(t, s, 0, 0)
	reads(t, s, "")
	gives(t, "Feed", s.Feed(points("ab")), ok)
	gives(t, "Feed", s.Feed(nil), ok)
	reads(t, s, "ab")
	gives(t, "End", s.End(), ok)
	reads(t, s, ".")
}

// P7.1: l stands behind all that waits, whatever was read meanwhile.
func TestFeedsAndReads(t *testing.T) {
	s := fed(t, "ab")
	if r, is := s.Next(); r != 'a' || !is {
		t.Errorf("Next: %d %v", r, is)
	}
	gives(t, "Feed", s.Feed(points("cd")), ok)
	stands(t, s, 3, 0)
	reads(t, s, "bcd")
	gives(t, "Feed", s.Feed(points("e")), ok)
	gives(t, "End", s.End(), ok)
	reads(t, s, "e.")
}

// P7.2: EOF as often as it is asked, by both calls, and it is none of what waits.
func TestEOF(t *testing.T) {
	s := input.New()
	gives(t, "End", s.End(), ok)
	for range 1000 {
		if r, is := s.Peek(); r != end || !is {
			t.Fatalf("Peek: %d %v", r, is)
		}
		if r, is := s.Next(); r != end || !is {
			t.Fatalf("Next: %d %v", r, is)
		}
		if !stands(t, s, 0, 0) {
			return
		}
	}
}

// P7.4: each short text, cut in each way, and read in each way between: one by one, all, or nothing.
func TestAnyChunksOfFeeds(t *testing.T) {
	const letters = "rna"
	for size := range 7 {
		for number := range power(len(letters), size) {
			text := make([]rune, size)
			for i, n := 0, number; i < size; i, n = i+1, n/len(letters) {
				text[i] = points(letters)[n%len(letters)]
			}
			want := string(lines(text)) + "."
			for cuts := range 1 << max(0, size-1) {
				for way := range 3 {
					if got := chunked(text, cuts, way); got != want {
						t.Fatalf("%q, cuts %b, way %d: %q, not %q", string(text), cuts, way, got, want)
					}
				}
			}
		}
	}
}

func power(n, k int) int {
	out := 1
	for range k {
		out *= n
	}
	return out
}

// chunked feeds the text in chunks, one of which ends behind place i if cuts has the bit i, and tells all that comes out. Way tells how many are read behind each chunk.
func chunked(text []rune, cuts, way int) string {
	s := input.New()
	out := ""
	take := func(most int) {
		for range most {
			r, is := s.Next()
			if !is {
				return
			}
			if r == end {
				out += "."
				return
			}
			out += string(r)
		}
	}
	from := 0
	for i := range text {
		if i == len(text)-1 || cuts>>i&1 == 1 {
			s.Feed(text[from : i+1])
			from = i + 1
			take([]int{0, 1, 100}[way])
		}
	}
	s.End()
	take(100)
	return out
}
