package builder

import (
	"slices"

	"hornbeam/active"
	"hornbeam/api"
	"hornbeam/stack"
)

// renewed is how many elements the adoption agency may make.
const renewed = 32

// refusal tells why a token is not taken, in the order in which the chapter names it.
func (b *tree) refusal(t api.Token) api.Errno {
	switch {
	case b.over:
		return api.ErrState
	case t.Kind < api.TDoctype || t.Kind > api.TEOF:
		return api.ErrArg
	case isLong(t):
		return api.ErrLong
	case b.arena.Len() > api.MaxNodes-room-b.list.Len():
		return api.ErrFull
	case b.mayAdoptTooMuch(t) || b.mayMergeTooMuch(t):
		return b.trial(t)
	}
	return api.OK
}

func isLong(t api.Token) bool {
	return len(t.Attrs) > api.MaxAttrs || anyLong(t.Name, t.Data, t.System) ||
		slices.ContainsFunc(t.Attrs, func(x api.Attr) bool { return anyLong(x.Prefix, x.Name, x.Value) })
}

func anyLong(texts ...string) bool {
	return slices.ContainsFunc(texts, func(s string) bool { return len(s) > api.MaxText })
}

// mayAdoptTooMuch tells whether a token may need more nodes than there is room for, though the arena has what one
// should need. A table's text makes an element for each entry, and the agency asks for room of its own behind that; what
// it closes is made once more for a start tag.
func (b *tree) mayAdoptTooMuch(t api.Token) bool {
	left, entries := api.MaxNodes-b.arena.Len(), b.list.Len()
	switch {
	case t.Kind == api.TStart && (t.Name == "a" || t.Name == "nobr"):
		return left < entries+1+room || left < entries+1+renewed+entries+1
	case t.Kind == api.TEnd && b.mode == api.MTableText && isFormat(t.Name):
		return left < entries+1+room
	}
	return false
}

// mayMergeTooMuch tells whether an element may get more attributes than one may have.
func (b *tree) mayMergeTooMuch(t api.Token) bool {
	if t.Kind != api.TStart || t.Name != "html" && t.Name != "body" {
		return false
	}
	for i := range 2 {
		if x, _ := b.arena.Node(b.open.At(i)); len(x.Attrs)+len(t.Attrs) > api.MaxAttrs {
			return true
		}
	}
	return false
}

// trial tells the error of a token that can't be done to its end. It is tried on a copy of all, as what a token has led
// to can't be undone: what is told beside an error must not have changed anything.
func (b *tree) trial(t api.Token) api.Errno {
	c := b.copied()
	c.look(t)
	return c.refused
}

func (b *tree) copied() *tree {
	c := *b
	c.arena = b.arena.Copy()
	c.open, _ = stack.New(c.arena)
	for i := range b.open.Len() {
		c.open.Push(b.open.At(i))
	}
	c.list, _ = active.New(c.arena)
	for i := range b.list.Len() {
		x, _ := b.list.At(i)
		if x.Node == api.None {
			c.list.Mark()
		} else {
			c.list.Put(i, x.Node, x.Token)
		}
	}
	c.templates = slices.Clone(b.templates)
	c.pending = slices.Clone(b.pending)
	c.tail = &tail{id: api.None}
	return &c
}
