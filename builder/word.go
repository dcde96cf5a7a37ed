package builder

import (
	"slices"

	"hornbeam/adopt"
	"hornbeam/api"
	"hornbeam/place"
)

// Kinds of the stack's scopes, by the numbers that it takes.
const (
	scope       = 0
	listScope   = 1
	buttonScope = 2
	tableScope  = 3
	selectScope = 4
)

// spot is where what comes next is put.
func (b *tree) spot() api.Spot {
	target := b.open.Top()
	if target == api.None {
		target = document
	}
	at, e := place.Spot(b.arena, b.open, target, b.foster)
	b.note(e)
	return at
}

func atEndOf(id int) api.Spot {
	return api.Spot{Parent: id, Before: api.None}
}

// made is a new node, None if there can't be one.
func (b *tree) made(id int, e api.Errno) int {
	b.note(e)
	if e != api.OK {
		return api.None
	}
	return id
}

// link puts a node at a place. Without one, what is noted is why there is none.
func (b *tree) link(at api.Spot, id int) {
	b.note(place.Put(b.arena, at, id))
}

// putAt makes an element, puts it at a place and pushes it: None, if there can't be one.
func (b *tree) putAt(at api.Spot, space int, name string, attrs []api.Attr) int {
	id := b.made(b.arena.Element(space, name, attrs))
	b.link(at, id)
	b.open.Push(id)
	return id
}

// put opens an element of HTML for a token.
func (b *tree) put(t api.Token) int {
	return b.putAt(b.spot(), api.HTML, t.Name, t.Attrs)
}

// putNamed opens an element for which there is no token.
func (b *tree) putNamed(name string) int {
	return b.putAt(b.spot(), api.HTML, name, nil)
}

// putRoot opens html.
func (b *tree) putRoot(attrs []api.Attr) {
	b.putAt(atEndOf(document), api.HTML, "html", attrs)
}

// void puts an element that has no children.
func (b *tree) void(t api.Token) {
	b.put(t)
	b.open.Pop()
	b.taken = true
}

// raw opens an element that has text alone.
func (b *tree) raw(t api.Token, state int) {
	b.put(t)
	b.want = state
	b.original = b.mode
	b.mode = api.MText
}

func (b *tree) comment(t api.Token) {
	b.commentAt(b.spot(), t)
}

func (b *tree) commentAt(at api.Spot, t api.Token) {
	b.link(at, b.made(b.arena.Comment(t.Data)))
}

func (b *tree) char(c rune) {
	b.note(b.tail.add(b.arena, b.spot(), c))
}

// rebuild opens the formatting elements anew that were closed by something else than their end tags.
func (b *tree) rebuild() {
	i := b.list.Len()
	for i > 0 && !b.stands(i-1) {
		i--
	}
	for ; i < b.list.Len(); i++ {
		x, _ := b.list.At(i)
		id := b.put(x.Token)
		if id == api.None {
			return
		}
		b.list.Swap(x.Node, id)
	}
}

// stands tells whether an entry is a marker, or open.
func (b *tree) stands(i int) bool {
	x, _ := b.list.At(i)
	return x.Node == api.None || b.open.Find(x.Node) >= 0
}

// in tells whether an element of a name is in the scope.
func (b *tree) in(name string) bool {
	return b.open.Scope(name, scope)
}

// inAny tells whether one of several names is in the scope.
func (b *tree) inAny(names ...string) bool {
	return slices.ContainsFunc(names, b.in)
}

// inTableScope tells whether one of several names is in the table scope.
func (b *tree) inTableScope(names ...string) bool {
	return slices.ContainsFunc(names, func(name string) bool { return b.open.Scope(name, tableScope) })
}

// templateThere tells whether a template is open.
func (b *tree) templateThere() bool {
	for i := range b.open.Len() {
		if b.is(b.open.At(i), "template") {
			return true
		}
	}
	return false
}

// close closes the nearest element of a name, with those in it whose end tags may be left out.
func (b *tree) close(name string) {
	but := ""
	switch name {
	case "p", "dd", "dt", "li":
		// One of these may be in another one, and the nearest one is meant.
		but = name
	}
	b.open.Implied(but)
	if !b.isTop(name) {
		b.wrong()
	}
	b.open.PopTo(name)
}

// shutP closes a p, if what comes can't be in one.
func (b *tree) shutP() {
	if b.open.Scope("p", buttonScope) {
		b.close("p")
	}
}

// clearTo pops until the current node has one of the names.
func (b *tree) clearTo(names ...string) {
	for b.open.Len() > 0 && !b.isTop(names...) {
		b.open.Pop()
	}
}

// popThrough pops up to and with the first element that has one of the names.
func (b *tree) popThrough(names ...string) {
	b.clearTo(names...)
	b.open.Pop()
}

// popTop pops the current node, if it has the name.
func (b *tree) popTop(name string) bool {
	if !b.isTop(name) {
		return false
	}
	b.open.Pop()
	return true
}

// cutTo leaves so many elements on the stack.
func (b *tree) cutTo(n int) {
	for b.open.Len() > n {
		b.open.Pop()
	}
}

// merge adds the attributes that an element has not: all of them, or none.
func (b *tree) merge(id int, attrs []api.Attr) {
	x, _ := b.arena.Node(id)
	had := len(x.Attrs)
	for _, y := range attrs {
		if !hasAttr(x.Attrs, y) {
			x.Attrs = append(x.Attrs, y)
		}
	}
	if len(x.Attrs) > api.MaxAttrs {
		b.note(api.ErrLong)
		return
	}
	for _, y := range x.Attrs[had:] {
		b.note(b.arena.SetAttr(id, y))
	}
}

func hasAttr(attrs []api.Attr, x api.Attr) bool {
	return slices.ContainsFunc(attrs, func(y api.Attr) bool { return y.Space == x.Space && y.Name == x.Name })
}

// adopt closes a formatting element.
func (b *tree) adopt(name string) {
	another, errors, e := adopt.Run(b.arena, b.open, b.list, name, b.foster)
	b.note(e)
	b.errors += errors
	if another {
		b.anotherEnd(name)
	}
}

// anotherEnd closes an element by an end tag that has no rule of its own.
func (b *tree) anotherEnd(name string) {
	for i := b.open.Len() - 1; i >= 0; i-- {
		id := b.open.At(i)
		if b.is(id, name) {
			b.open.Implied(name)
			if b.open.Top() != id {
				b.wrong()
			}
			b.cutTo(i)
			return
		}
		if b.open.Special(id) {
			b.wrong()
			return
		}
	}
}
