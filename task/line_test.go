package task

import "testing"

// Nothing waits for room, nor for what isn't there: a line that is full, one that is empty, one without room, one that no call made.
func TestLineNeverWaits(t *testing.T) {
	for _, room := range []int{0, 1, 3} {
		l := newLine[string](room)
		for range 2 {
			for n := range room {
				if !l.add("x") || l.size() != n+1 {
					t.Errorf("room %d: no room behind %d", room, n)
				}
			}
			if l.add("y") || l.size() != room {
				t.Errorf("room %d: %d", room, l.size())
			}
			for n := range room {
				if x, is := l.take(); x != "x" || !is || l.size() != room-n-1 {
					t.Errorf("room %d: took %q, %v", room, x, is)
				}
			}
			if x, is := l.take(); x != "" || is || l.size() != 0 {
				t.Errorf("room %d: took %q, %v from nothing", room, x, is)
			}
		}
	}
	var zero line[string]
	if x, is := zero.take(); zero.made() || zero.add("x") || zero.size() != 0 || x != "" || is {
		t.Errorf("a zero line: %q, %v", x, is)
	}
}
