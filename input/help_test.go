package input_test

import (
	"slices"
	"strconv"
	"strings"
	"testing"

	"hornbeam/input"
)

// Errors, limits and the end by the document's numbers: a test leans on no constant that the program reads.
const (
	ok       = 0
	errState = 5
	errZero  = 7
	errFull  = 9
	most     = 1048576 // code points that wait
	nest     = 20
	end      = -1
)

// lines makes line ends one in a whole source.
func lines(l []rune) []rune {
	var out []rune
	for i, r := range l {
		switch {
		case r == 13:
			out = append(out, 10)
		case r == 10 && i > 0 && l[i-1] == 13:
		default:
			out = append(out, r)
		}
	}
	return out
}

// A plain stream does what the chapter says in the simplest way: what waits is one list, marks are places in it, and all that was ever fed is kept.
type plain struct {
	waits          []rune
	marks          []int // the last one was made last
	fed            []rune
	ended, dropped bool
}

func (p *plain) putIn(l []rune, at int) {
	p.waits = slices.Concat(p.waits[:at], l, p.waits[at:])
}

func (p *plain) feed(l []rune) int {
	if p.ended {
		return errState
	}
	if len(p.waits)+len(l) > most {
		return errFull
	}
	before := len(lines(p.fed))
	p.fed = slices.Concat(p.fed, l)
	p.putIn(lines(p.fed)[before:], len(p.waits))
	return ok
}

func (p *plain) end() int {
	if p.ended {
		return errState
	}
	p.ended = true
	return ok
}

func (p *plain) mark() int {
	if len(p.marks) == nest+1 {
		return errFull
	}
	p.marks = append(p.marks, 0)
	return ok
}

func (p *plain) unmark() int {
	if len(p.marks) == 0 {
		return errState
	}
	p.marks = p.marks[:len(p.marks)-1]
	return ok
}

func (p *plain) write(l []rune) int {
	if len(p.marks) == 0 {
		return errState
	}
	if len(p.waits)+len(l) > most {
		return errFull
	}
	at := p.marks[len(p.marks)-1]
	p.putIn(lines(l), at)
	for i, m := range p.marks {
		if m >= at {
			p.marks[i] = m + len(lines(l))
		}
	}
	return ok
}

func (p *plain) peek() (rune, bool) {
	marked := len(p.marks) > 0
	switch {
	case len(p.waits) == 0 && !marked && p.ended:
		return end, true
	case len(p.waits) == 0, marked && p.marks[len(p.marks)-1] == 0:
		return 0, false
	}
	return p.waits[0], true
}

func (p *plain) next() (rune, bool) {
	r, is := p.peek()
	if is && len(p.waits) > 0 {
		p.waits = p.waits[1:]
		for i := range p.marks {
			p.marks[i]--
		}
	}
	return r, is
}

func (p *plain) drop() int {
	if p.dropped {
		return errState
	}
	*p = plain{ended: true, dropped: true}
	return ok
}

// A call is a line of a test: its name, and behind a blank what is handed in, with r and n for 13 and 10.
type call string

func (c call) points() []rune {
	_, s, _ := strings.Cut(string(c), " ")
	return points(s)
}

// points are the runes of a text, in which r and n stand for 13 and 10.
func points(s string) []rune {
	var l []rune
	for _, r := range s {
		switch r {
		case 'r':
			r = 13
		case 'n':
			r = 10
		}
		l = append(l, r)
	}
	return l
}

func answer(r rune, is bool) string {
	return strconv.Itoa(int(r)) + " " + strconv.FormatBool(is)
}

// on makes the call on a stream and tells its answer.
func (c call) on(s *input.Stream) string {
	name, _, _ := strings.Cut(string(c), " ")
	switch name {
	case "feed":
		return strconv.Itoa(int(s.Feed(c.points())))
	case "write":
		return strconv.Itoa(int(s.Write(c.points())))
	case "end":
		return strconv.Itoa(int(s.End()))
	case "mark":
		return strconv.Itoa(int(s.Mark()))
	case "unmark":
		return strconv.Itoa(int(s.Unmark()))
	case "drop":
		return strconv.Itoa(int(s.Drop()))
	case "next":
		return answer(s.Next())
	case "peek":
		return answer(s.Peek())
	}
	panic("no call: " + name)
}

// onPlain makes the call on a plain stream and tells its answer.
func (c call) onPlain(p *plain) string {
	name, _, _ := strings.Cut(string(c), " ")
	switch name {
	case "feed":
		return strconv.Itoa(p.feed(c.points()))
	case "write":
		return strconv.Itoa(p.write(c.points()))
	case "end":
		return strconv.Itoa(p.end())
	case "mark":
		return strconv.Itoa(p.mark())
	case "unmark":
		return strconv.Itoa(p.unmark())
	case "drop":
		return strconv.Itoa(p.drop())
	case "next":
		return answer(p.next())
	case "peek":
		return answer(p.peek())
	}
	panic("no call: " + name)
}

// stands holds what a stream tells of itself against what is wanted, and says whether it is so.
func stands(t *testing.T, s *input.Stream, length, marks int) bool {
	t.Helper()
	if s.Len() != length || s.Marks() != marks {
		t.Errorf("Len %d, Marks %d: not %d, %d", s.Len(), s.Marks(), length, marks)
		return false
	}
	return true
}

// gives fails, unless the call's errno is as wanted.
func gives[E ~int](t *testing.T, what string, got E, want int) {
	t.Helper()
	if int(got) != want {
		t.Errorf("%s: error %d, not %d", what, int(got), want)
	}
}

// read takes all that Next gives till it gives nothing, or the end, which is a dot. Each is peeked at first, twice.
func read(t *testing.T, s *input.Stream) string {
	t.Helper()
	var b strings.Builder
	for {
		length := s.Len()
		peeked, is := s.Peek()
		again, isAgain := s.Peek()
		if s.Len() != length {
			t.Errorf("Peek took something: %d wait, not %d", s.Len(), length)
		}
		r, more := s.Next()
		if peeked != r || is != more || again != r || isAgain != more {
			t.Errorf("Peek %d %v, Peek %d %v, Next %d %v", peeked, is, again, isAgain, r, more)
		}
		if !more {
			if r != 0 {
				t.Errorf("Next: %d beside false", r)
			}
			return b.String()
		}
		if length == 0 {
			if r != end {
				t.Errorf("Next: %d, where nothing waits", r)
			}
			return b.String() + "."
		}
		if s.Len() != length-1 {
			t.Errorf("Next: %d wait of %d", s.Len(), length)
			return b.String()
		}
		b.WriteRune(letter(r))
	}
}

// letter tells line ends as points reads them.
func letter(r rune) rune {
	switch r {
	case 13:
		return 'r'
	case 10:
		return 'n'
	}
	return r
}

// reads fails, unless just that can be read.
func reads(t *testing.T, s *input.Stream, want string) {
	t.Helper()
	if got := read(t, s); got != want {
		t.Errorf("read %q, not %q", got, want)
	}
}

// fed is a stream to which these were fed.
func fed(t *testing.T, chunks ...string) *input.Stream {
	t.Helper()
	s := input.New()
	for _, c := range chunks {
		gives(t, "Feed", s.Feed(points(c)), ok)
	}
	return s
}
