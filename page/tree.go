package page

import (
	"errors"
	"slices"

	"hornbeam/api"
	"hornbeam/builder"
	"hornbeam/lexer"
)

// Tree leads code points to a tree, through a lexer of its own and a builder.
type Tree struct {
	lexer   *lexer.Lexer
	builder *builder.Builder
	token   func(t api.Token) error // leads a token on
	errors  []string
	over    bool
}

// NewTree makes a tree of what a builder builds. last is the last start tag's name, ahead of all that is put.
func NewTree(b *builder.Builder, last string) *Tree {
	t := &Tree{lexer: lexer.New(), builder: b}
	t.token = t.tokens()
	t.lexer.Name(last)
	t.obey()
	return t
}

// tokens makes the function that leads tokens to the builder, and tells of each why it was refused. It remembers how
// many of the builder's errors were told.
func (t *Tree) tokens() func(x api.Token) error {
	told := t.builder.Errors()
	return func(x api.Token) error {
		e := t.builder.Token(x)
		for ; told < t.builder.Errors(); told++ {
			t.tell("tree")
		}
		if e != api.OK {
			return e
		}
		return nil
	}
}

// Put leads a code point, or EOF, to the tree. However that is left, the tree is over where the builder is.
func (t *Tree) Put(r rune) {
	full := false
	defer func() {
		t.over = t.over || full || t.builder.Over()
	}()
	t.lexer.Sections(t.builder.Foreign())
	t.lexer.Put(r)
	t.tell(t.lexer.Errors()...)
	for _, x := range t.lexer.Tokens() {
		if full = isFull(t.token(x)); full {
			t.tell("full")
			return
		}
	}
	t.obey()
}

// isFull tells apart the one refusal that ends a page: behind any other one it goes on without that token.
func isFull(err error) bool {
	var e api.Errno
	return errors.As(err, &e) && e == api.ErrFull
}

// obey gives the lexer the state that the builder wants, if there is one.
func (t *Tree) obey() {
	if state := t.builder.Want(); state >= 0 {
		t.lexer.Set(state)
	}
}

func (t *Tree) tell(faults ...string) {
	t.errors = append(t.errors, faults...)
}

// Stop says that nothing more will be put.
func (t *Tree) Stop() {
	t.over = true
}

// Over tells whether nothing more is to be put.
func (t *Tree) Over() bool {
	return t.over
}

// Script tells whether a script has become ready since the last time.
func (t *Tree) Script() bool {
	return t.builder.Script() != api.None
}

// Mode tells the document's mode.
func (t *Tree) Mode() int {
	return t.builder.Quirk()
}

// Errors tells the errors of all that was put, in order.
func (t *Tree) Errors() []string {
	return slices.Clone(t.errors)
}
