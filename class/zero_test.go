package class_test

import (
	"testing"

	"hornbeam/class"
	"hornbeam/node"
	"hornbeam/parse"
)

// P19.2
func TestArenasThatNoCallMade(t *testing.T) {
	var p *parse.Parser
	for _, a := range []*node.Arena{nil, {}, new(node.Arena), (*node.Arena)(nil).Copy(), (&node.Arena{}).Copy(), p.Tree(), new(parse.Parser).Tree()} {
		for range 2 {
			if class.In(a) {
				t.Error("In")
			}
			if s, e := class.Text(a); s != "" || e != errZero {
				t.Errorf("Text: %q, %d", s, e)
			}
		}
	}
}
