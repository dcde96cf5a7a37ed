package builder

import (
	"slices"

	"hornbeam/active"
	"hornbeam/adjust"
	"hornbeam/api"
	"hornbeam/node"
	"hornbeam/stack"
)

const (
	// document is the number of each arena's document.
	document = 0
	// room is what a token may need beside an element for each entry of the list.
	room = 64
)

// tree is what a builder works on.
type tree struct {
	arena   *node.Arena
	open    *stack.Stack
	list    *active.List
	rules   map[int]rule
	scripts bool
	context int // the context element, None
	tail    *tail
	state
}

// state is what a builder remembers beside the tree, the stack and the list. It is a value: a copy of it, made ahead of
// a token, brings it back.
type state struct {
	mode      int
	original  int   // the mode behind a text
	templates []int // the template modes
	quirk     int
	errors    int
	head      int // the head element, None
	form      int // the form element, None
	framesOff bool
	foster    bool
	skip      bool   // a character 10 is left out, if it is next
	taken     bool   // the token's self-closing is taken
	pending   []rune // characters of a table's text
	want      int
	ready     int
	over      bool
	refused   api.Errno // a layer below could not do what a rule asks for
}

// verdict says how a token goes on behind a rule.
type verdict bool

const (
	done  verdict = false
	again verdict = true // it is looked at once more
)

// rule is what a mode does with a token.
type rule func(b *tree, t api.Token) verdict

// modeRules are the rules of each mode.
func modeRules() map[int]rule {
	return map[int]rule{
		api.MInitial:    (*tree).initial,
		api.MBeforeHTML: (*tree).beforeHTML,
		api.MBeforeHead: (*tree).beforeHead,
		api.MInHead:     (*tree).inHead,
		api.MNoscript:   (*tree).inNoscript,
		api.MAfterHead:  (*tree).afterHead,
		api.MInBody:     (*tree).inBody,
		api.MText:       (*tree).inText,
		api.MInTable:    (*tree).inTable,
		api.MTableText:  (*tree).inTableText,
		api.MInCaption:  (*tree).inCaption,
		api.MInColgroup: (*tree).inColgroup,
		api.MInTbody:    (*tree).inTbody,
		api.MInRow:      (*tree).inRow,
		api.MInCell:     (*tree).inCell,
		api.MInSelect:   (*tree).inSelect,
		api.MSelTable:   (*tree).inSelectInTable,
		api.MInTemplate: (*tree).inTemplate,
		api.MAfterBody:  (*tree).afterBody,
		api.MInFrameset: (*tree).inFrameset,
		api.MAfterSet:   (*tree).afterFrameset,
		api.MAfter2:     (*tree).afterAfterBody,
		api.MAfterSet2:  (*tree).afterAfterFrameset,
	}
}

func newTree(a *node.Arena, scripts bool) (*tree, api.Errno) {
	open, e := stack.New(a)
	if e != api.OK {
		return nil, e
	}
	list, _ := active.New(a)
	return &tree{
		arena:   a,
		open:    open,
		list:    list,
		rules:   modeRules(),
		scripts: scripts,
		context: api.None,
		tail:    &tail{id: api.None},
		state: state{
			mode:  api.MInitial,
			head:  api.None,
			form:  api.None,
			want:  nothing,
			ready: api.None,
		},
	}, api.OK
}

// take does a token that was not refused. A character may still be one too many for its text: a rule does nothing with
// the tree, the stack or the list ahead of adding to a text that stands there, so that the state alone is brought back.
func (b *tree) take(t api.Token) api.Errno {
	before := b.state
	b.look(t)
	if e := b.refused; e != api.OK {
		b.state = before
		return e
	}
	return api.OK
}

// look goes by the rules, again and again if they say so.
func (b *tree) look(t api.Token) {
	skip := b.skip
	b.skip, b.taken = false, false
	if skip && t.Kind == api.TChar && t.Char == '\n' {
		return
	}
look:
	for b.refused == api.OK {
		rules := b.rules[b.mode]
		if b.isForeign(t) {
			rules = (*tree).inForeign
		}
		if rules(b, t) == again {
			continue look
		}
		break look
	}
	if t.Kind == api.TStart && t.Self && !b.taken {
		b.wrong()
	}
}

// byMode goes by the mode's rules, whatever the adjusted node is.
func (b *tree) byMode(t api.Token) verdict {
	return b.rules[b.mode](b, t)
}

// isForeign tells whether a token goes by the rules of foreign content.
func (b *tree) isForeign(t api.Token) bool {
	x, there := b.adjusted()
	if !there || t.Kind == api.TEOF || x.Space == api.HTML {
		return false
	}
	char, start := t.Kind == api.TChar, t.Kind == api.TStart
	switch {
	case adjust.TextPoint(x.Space, x.Name) && (char || start && t.Name != "mglyph" && t.Name != "malignmark"):
		return false
	case x.Space == api.MathML && x.Name == "annotation-xml" && start && t.Name == "svg":
		return false
	case adjust.HTMLPoint(x.Space, x.Name, x.Attrs) && (char || start):
		return false
	}
	return true
}

// adjusted is the node by which foreign content is told; false of an empty stack.
func (b *tree) adjusted() (api.Node, bool) {
	id := b.open.Top()
	if b.open.Len() == 1 && b.context != api.None {
		id = b.context
	}
	x, e := b.arena.Node(id)
	return x, e == api.OK
}

// is tells whether a node is an element of HTML that has one of the names.
func (b *tree) is(id int, names ...string) bool {
	x, e := b.arena.Node(id)
	return e == api.OK && x.Kind == api.KElement && x.Space == api.HTML && slices.Contains(names, x.Name)
}

// isTop tells whether the current node is an element of HTML that has one of the names.
func (b *tree) isTop(names ...string) bool {
	return b.is(b.open.Top(), names...)
}

// wrong is an error of the page.
func (b *tree) wrong() {
	b.errors++
}

// note keeps the first error of a layer below.
func (b *tree) note(e api.Errno) {
	if b.refused == api.OK {
		b.refused = e
	}
}

// stop ends the building.
func (b *tree) stop() {
	for b.open.Len() > 0 {
		b.open.Pop()
	}
	b.over = true
}
