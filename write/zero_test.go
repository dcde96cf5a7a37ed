package write_test

import (
	"testing"

	"hornbeam/api"
	"hornbeam/node"
	"hornbeam/write"
)

// P17.3

func TestArenasThatNoCallMade(t *testing.T) {
	for _, a := range []*node.Arena{nil, {}, new(node.Arena), (*node.Arena)(nil).Copy(), (&node.Arena{}).Copy()} {
		for _, id := range append(outside, 0, 1) {
			for _, scripts := range []bool{false, true} {
				if s, e := write.Inner(a, id, scripts); s != "" || e != api.ErrZero {
					t.Errorf("Inner(%d, %v): %q, %d", id, scripts, s, e)
				}
			}
		}
	}
}
