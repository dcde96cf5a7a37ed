package parse

import (
	"hornbeam/api"
	"hornbeam/builder"
	"hornbeam/input"
	"hornbeam/node"
	"hornbeam/page"
)

// way is a page's way to its tree.
type way struct {
	arena *node.Arena
	bytes *page.Bytes
	input *input.Stream
	tree  *page.Tree
}

// newWay begins a way that a builder of an arena is at the end of.
func newWay(hint string, arena *node.Arena, b *builder.Builder, last string) *way {
	return &way{
		arena: arena,
		bytes: page.NewBytes(hint),
		input: input.New(),
		tree:  page.NewTree(b, last),
	}
}

// hasRoom tells whether b may come. Of a parser that is over code points wait for ever, and count.
func (w *way) hasRoom(b []byte) bool {
	return w.bytes.HasRoom(b, w.input.Len())
}

// feed leads code points on: the input has room for whatever may come of a page or a fragment.
func (w *way) feed(l []rune) {
	w.input.Feed(l)
	w.run()
}

// end leads the last code points and the end on.
func (w *way) end(l []rune) {
	w.input.Feed(l)
	w.input.End()
	w.run()
}

// run puts what waits, code point by code point.
func (w *way) run() {
	for !w.tree.Over() {
		r, ok := w.input.Next()
		if !ok {
			return
		}
		w.tree.Put(r)
		if r == api.EOF { // the input tells it as often as it is asked
			return
		}
	}
}

func (w *way) result() api.Result {
	return api.Result{Encoding: w.bytes.Encoding(), Mode: w.tree.Mode(), Errors: w.tree.Errors()}
}
