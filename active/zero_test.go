package active_test

import (
	"reflect"
	"testing"

	"hornbeam/active"
	"hornbeam/api"
)

// P13.3: a nil list, and those that no call made, with every call, twice over: no call makes one of them a list.
func TestZero(t *testing.T) {
	var field struct{ l active.List }
	refused, _ := active.New(nil)
	for _, l := range []*active.List{nil, {}, new(active.List), &field.l, refused} {
		for range 2 {
			for _, n := range []int{0, 1, 2, none, -2, 32768, minInt, maxInt} {
				zeroOf(t, l, n)
			}
			for _, name := range []string{"", "b", "\xff"} {
				last(t, l, name, none)
			}
			gives(t, "Mark", l.Mark(), errZero)
			cleared(t, l, 0)
			if l.Len() != 0 {
				t.Errorf("Len: %d", l.Len())
			}
		}
	}
}

// zeroOf asks every call that is given a number, as an element and as a place.
func zeroOf(t *testing.T, l *active.List, n int) {
	t.Helper()
	for _, x := range []api.Token{{}, tag("b"), tag("b", attr("n", "1"))} {
		for _, e := range []api.Errno{l.Push(n, x), l.Put(0, n, x), l.Put(n, 1, x), l.Put(n, n, x)} {
			gives(t, "Push or Put", e, errZero)
		}
	}
	for _, e := range []api.Errno{l.Remove(n), l.Swap(n, n), l.Swap(n, 1), l.Swap(1, n)} {
		gives(t, "Remove or Swap", e, errZero)
	}
	if x, e := l.At(n); e != errZero || !reflect.DeepEqual(x, api.Entry{}) {
		t.Errorf("At(%d): %v, %d", n, x, e)
	}
	if l.Find(n) != -1 {
		t.Errorf("Find(%d): %d", n, l.Find(n))
	}
}
