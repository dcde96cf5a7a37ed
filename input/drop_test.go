package input_test

import (
	"testing"

	"hornbeam/input"
)

// P7.2: Drop, from each state, then every call, and Drop again.
func TestDrop(t *testing.T) {
	for name, begin := range map[string]func() *input.Stream{
		"new": input.New,
		"fed": func() *input.Stream { return fed(t, "abr") },
		"ended": func() *input.Stream {
			s := fed(t, "ab")
			s.End()
			return s
		},
		"at its end": func() *input.Stream {
			s := input.New()
			s.End()
			s.Next()
			return s
		},
		"marked": func() *input.Stream {
			s := fed(t, "ab")
			for range nest + 1 {
				s.Mark()
				s.Write(points("xr"))
			}
			return s
		},
		"full": func() *input.Stream {
			s := input.New()
			s.Feed(many('a', most))
			return s
		},
	} {
		s := begin()
		gives(t, name+": Drop", s.Drop(), ok)
		dropped(t, name, s)
	}
}

func dropped(t *testing.T, name string, s *input.Stream) {
	t.Helper()
	for range 2 {
		stands(t, s, 0, 0)
		reads(t, s, ".")
		reads(t, s, ".")
		gives(t, name+": Feed", s.Feed(points("na")), errState)
		gives(t, name+": Feed of nil", s.Feed(nil), errState)
		gives(t, name+": Feed of too many", s.Feed(many('a', most+1)), errState)
		gives(t, name+": End", s.End(), errState)
		gives(t, name+": Unmark", s.Unmark(), errState)
		gives(t, name+": Write", s.Write(points("x")), errState)
		gives(t, name+": Write of nil", s.Write(nil), errState)
		gives(t, name+": Drop", s.Drop(), errState)
		stands(t, s, 0, 0)
	}
}

// P7.1, P7.2: marks and writes are not refused behind Drop, and a second Drop changes nothing of them.
func TestMarkBehindDrop(t *testing.T) {
	s := fed(t, "ab")
	gives(t, "Drop", s.Drop(), ok)
	for i := range nest + 1 {
		gives(t, "Mark", s.Mark(), ok)
		stands(t, s, 0, i+1)
	}
	gives(t, "Mark", s.Mark(), errFull)
	reads(t, s, "")
	gives(t, "Write", s.Write(points("nxr")), ok)
	gives(t, "Drop", s.Drop(), errState)
	stands(t, s, 3, nest+1)
	reads(t, s, "nxn")
	gives(t, "Write", s.Write(many('y', most)), ok)
	gives(t, "Write", s.Write(points("z")), errFull)
	if n, all := count(s, 'y'); n != most || !all {
		t.Errorf("%d came out, alike: %v", n, all)
	}
	for range nest + 1 {
		gives(t, "Unmark", s.Unmark(), ok)
	}
	reads(t, s, ".")
	gives(t, "Drop", s.Drop(), errState)
}
