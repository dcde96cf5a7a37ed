package input_test

import (
	"math/rand"
	"slices"
	"testing"

	"hornbeam/input"
)

// follow makes the calls on a stream and on a plain one, and says whether all answers are the same, and what both tell of themselves behind each call.
func follow(t *testing.T, calls []call) bool {
	t.Helper()
	s, p := input.New(), &plain{}
	for i, c := range calls {
		got, want := c.on(s), c.onPlain(p)
		if got != want {
			t.Errorf("%q: the last answers %s, not %s", calls[:i+1], got, want)
			return false
		}
		first, is := s.Peek()
		wanted, wantedIs := p.peek()
		if first != wanted || is != wantedIs {
			t.Errorf("%q: then Peek %d %v, not %d %v", calls[:i+1], first, is, wanted, wantedIs)
			return false
		}
		if !stands(t, s, len(p.waits), len(p.marks)) {
			t.Errorf("behind %q", calls[:i+1])
			return false
		}
	}
	return true
}

// P7.1, P7.2: each short row of calls.
func TestEachRowOfCalls(t *testing.T) {
	kinds := []call{"feed ar", "feed n", "mark", "unmark", "write xr", "write n", "next", "end", "drop"}
	const length = 6
	row := make([]call, length)
	for number := range power(len(kinds), length) {
		for i := range row {
			row[i] = kinds[number%len(kinds)]
			number /= len(kinds)
		}
		if !follow(t, row) {
			return
		}
	}
}

// P7.1, P7.2: long rows of calls, in which some kinds are more frequent than others, another mixture each time.
func TestRandomCalls(t *testing.T) {
	kinds := []call{"feed", "feed", "write", "write", "mark", "unmark", "next", "next", "next", "next", "peek", "end", "drop"}
	texts := []string{"", "a", "r", "n", "rn", "nr", "rr", "abrnc", "rrn", "nxyz", "longer text rn of more r"}
	random := rand.New(rand.NewSource(7))
	for range 4000 {
		mixture := make([]call, 1+random.Intn(12))
		for i := range mixture {
			mixture[i] = kinds[random.Intn(len(kinds))]
		}
		row := make([]call, 1+random.Intn(120))
		for i := range row {
			c := mixture[random.Intn(len(mixture))]
			if c == "drop" || c == "end" {
				if random.Intn(20) > 0 {
					c = "next"
				}
			}
			if c == "feed" || c == "write" {
				c += " " + call(texts[random.Intn(len(texts))])
			}
			row[i] = c
		}
		if !follow(t, row) {
			return
		}
	}
}

// P7.4: the same text in any chunks, with the same writes at the same places of it, leads to the same.
func TestAnyChunksWithWrites(t *testing.T) {
	random := rand.New(rand.NewSource(8))
	for range 500 {
		text := make([]rune, random.Intn(60))
		for i := range text {
			text[i] = points("rrnnabcdW")[random.Intn(9)]
		}
		var want []rune
		for way := range 6 {
			got := written(text, random, way)
			if way == 0 {
				want = got
			}
			if !slices.Equal(got, want) {
				t.Fatalf("%q, way %d: %q, not %q", string(text), way, string(got), string(want))
			}
		}
		writes := 0
		for _, r := range text {
			if r == 'W' {
				writes++
			}
		}
		if n := len(lines(text)) + 3*writes + 1; len(want) != n {
			t.Fatalf("%q: %d came out, not %d", string(text), len(want), n)
		}
	}
}

// written feeds the text in chunks and reads each as far as it can; behind each W that was fed it marks, writes and reads that first. Way 0 is one chunk, way 1 one code point a chunk.
func written(text []rune, random *rand.Rand, way int) []rune {
	s := input.New()
	var out []rune
	for from, more := 0, true; more; {
		n := min(len(text)-from, random.Intn(5))
		switch way {
		case 0:
			n = len(text)
		case 1:
			n = min(len(text)-from, 1)
		}
		s.Feed(text[from : from+n])
		from += n
		if more = from < len(text); !more {
			s.End()
		}
		for r, is := s.Next(); is; r, is = s.Next() {
			out = append(out, r)
			switch r {
			case end:
				return out
			case 'W':
				out = append(out, inner(s)...)
			}
		}
	}
	return out
}

func inner(s *input.Stream) []rune {
	s.Mark()
	s.Write([]rune{'x', 13, 10})
	s.Write([]rune{10})
	var out []rune
	for range 3 {
		r, _ := s.Next()
		out = append(out, r)
	}
	s.Unmark()
	return out
}
