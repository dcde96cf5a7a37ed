package builder_test

import (
	"testing"

	"hornbeam/api"
	"hornbeam/builder"
	"hornbeam/node"
)

// P16.4: a nil builder, and builders that no call made.
func TestNoBuilder(t *testing.T) {
	for _, b := range []*builder.Builder{nil, {}, new(builder.Builder)} {
		for _, x := range []api.Token{{}, {Kind: eof}, {Kind: 9}, {Kind: minInt}, {Kind: start, Name: "p", Attrs: make([]api.Attr, maxAttrs+1)}} {
			gives(t, "Token", b.Token(x), errZero)
		}
		if b.Want() != -1 || b.Script() != none || b.Foreign() || b.Over() {
			t.Errorf("Want: %d, Script: %d, Foreign: %v, Over: %v", b.Want(), b.Script(), b.Foreign(), b.Over())
		}
		if b.Mode() != 0 || b.Quirk() != 0 || b.Errors() != 0 || len(b.Open()) != 0 || len(b.Active()) != 0 {
			t.Errorf("Mode: %d, Quirk: %d, Errors: %d, Open: %v, Active: %v", b.Mode(), b.Quirk(), b.Errors(), b.Open(), b.Active())
		}
	}
}

// P16.1: no arena, and arenas that no call made; ErrZero goes ahead of the other errors.
func TestNoArena(t *testing.T) {
	for _, a := range []*node.Arena{nil, {}, new(node.Arena), (*node.Arena)(nil).Copy()} {
		for _, scripts := range []bool{false, true} {
			if b, e := builder.New(a, scripts); b != nil || e != errZero {
				t.Errorf("New: %v, %d", b, e)
			}
			for _, name := range []string{"", "div", string(make([]byte, 101))} {
				if b, e := builder.Fragment(a, scripts, name); b != nil || e != errZero {
					t.Errorf("Fragment(%q): %v, %d", name, b, e)
				}
			}
		}
	}
}

// P16.4: the numbers of the modes.
func TestModes(t *testing.T) {
	for i, mode := range []int{api.MInitial, api.MBeforeHTML, api.MBeforeHead, api.MInHead, api.MNoscript, api.MAfterHead, api.MInBody, api.MText, api.MInTable,
		api.MTableText, api.MInCaption, api.MInColgroup, api.MInTbody, api.MInRow, api.MInCell, api.MInSelect, api.MSelTable, api.MInTemplate, api.MAfterBody,
		api.MInFrameset, api.MAfterSet, api.MAfter2, api.MAfterSet2} {
		if mode != i {
			t.Errorf("mode %d: %d", i, mode)
		}
	}
}
