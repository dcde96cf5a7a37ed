package parse_test

import (
	"testing"

	"hornbeam/parse"
)

// P18.3
func TestParsersThatNoCallMade(t *testing.T) {
	var value parse.Parser
	for _, p := range []*parse.Parser{nil, {}, new(parse.Parser), &value} {
		for range 2 {
			for _, b := range [][]byte{nil, []byte("<p>"), make([]byte, maxSniff), make([]byte, 2*maxInput)} {
				gives(t, "Feed", p.Feed(b), errZero)
			}
			gives(t, "End", p.End(), errZero)
			if p.Tree() != nil {
				t.Error("Tree")
			}
			if r := p.Result(); r.Encoding != 0 || r.Mode != 0 || r.Errors != nil {
				t.Errorf("Result: %v", r)
			}
			if p.Over() {
				t.Error("Over")
			}
		}
	}
}
