package show_test

import (
	"testing"

	"hornbeam/api"
	"hornbeam/node"
	"hornbeam/show"
)

// P3.3

func TestArenasThatNoCallMade(t *testing.T) {
	made := node.New()
	zeros := []*node.Arena{nil, {}, new(node.Arena), (*node.Arena)(nil).Copy()}
	for _, a := range zeros {
		if show.Sound(a) {
			t.Error("Sound")
		}
		for _, id := range append(outside, 0, 1) {
			if s, e := show.Show(a, id); s != "" || e != api.ErrZero {
				t.Errorf("Show(%d): %q, %d", id, s, e)
			}
			for _, other := range append(outside, 0, 1) {
				checkAlike(t, "one that no call made", a, id, made, other, false)
				for _, b := range zeros {
					checkAlike(t, "two that no call made", a, id, b, other, false)
				}
			}
		}
	}
}
