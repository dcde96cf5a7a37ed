package builder

import (
	"strings"

	"hornbeam/api"
	"hornbeam/decode"
	"hornbeam/node"
	"hornbeam/place"
)

// tail is the text that grew last. Its data are kept where they can go on, since a text that is made anew for each of
// its characters takes a time of its length squared.
type tail struct {
	id   int
	data *strings.Builder
}

// add is place.Chars of one character.
func (w *tail) add(a *node.Arena, at api.Spot, c rune) api.Errno {
	id := ahead(a, at)
	x, e := a.Node(id)
	if e != api.OK || x.Kind != api.KText || at.Parent == document {
		return place.Chars(a, at, []rune{c})
	}
	w.follow(id, x.Data)
	more := decode.UTF8([]rune{c})
	if w.data.Len()+len(more) > api.MaxText {
		return api.ErrLong
	}
	w.data.Write(more)
	return a.SetData(id, w.data.String())
}

// follow makes a text the one that grows. A script may have given the same one other data.
func (w *tail) follow(id int, data string) {
	if w.id == id && w.data.String() == data {
		return
	}
	w.id, w.data = id, &strings.Builder{}
	w.data.WriteString(data)
}

// ahead is the child behind which a place is, None if it is ahead of all.
func ahead(a *node.Arena, at api.Spot) int {
	if at.Before != api.None {
		x, _ := a.Node(at.Before)
		return x.Prev
	}
	x, _ := a.Node(at.Parent)
	return x.Last
}

// inText has the rules of the mode Text.
func (b *tree) inText(t api.Token) verdict {
	switch t.Kind {
	case api.TChar:
		b.char(t.Char)
		return done
	case api.TEOF:
		b.wrong()
		b.open.Pop()
		b.mode = b.original
		return again
	}
	id := b.open.Pop()
	if t.Kind == api.TEnd && t.Name == "script" {
		b.ready = id
	}
	b.mode = b.original
	return done
}
