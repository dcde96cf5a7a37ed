package parse

import (
	"errors"
	"slices"

	"hornbeam/api"
	"hornbeam/builder"
	"hornbeam/input"
	"hornbeam/lexer"
	"hornbeam/node"
)

// way leads code points to a tree: through the input, the lexer and the builder.
type way struct {
	arena   *node.Arena
	input   *input.Stream
	lexer   *lexer.Lexer
	builder *builder.Builder
	token   func(t api.Token) error // leads a token on
	errors  []string
	over    bool
}

func newWay(arena *node.Arena, tree *builder.Builder) *way {
	w := &way{arena: arena, input: input.New(), lexer: lexer.New(), builder: tree}
	w.token = w.tokens()
	return w
}

// tokens makes the function that leads tokens to the builder, and tells of each why it was refused. It remembers how
// many of the builder's errors were told.
func (w *way) tokens() func(t api.Token) error {
	told := w.builder.Errors()
	return func(t api.Token) error {
		e := w.builder.Token(t)
		for ; told < w.builder.Errors(); told++ {
			w.tell("tree")
		}
		if e != api.OK {
			return e
		}
		return nil
	}
}

// feed leads code points on, and end the end: the input counts what a page or a fragment may have, and refuses neither.
func (w *way) feed(l []rune) {
	w.input.Feed(l)
	w.run()
}

func (w *way) end() {
	w.input.End()
	w.run()
}

// run puts what waits, code point by code point.
func (w *way) run() {
	for !w.over {
		r, ok := w.input.Next()
		if !ok {
			return
		}
		w.put(r)
		if r == api.EOF { // the input tells it as often as it is asked
			return
		}
	}
}

// put leads a code point, or EOF, to the tree. However that is left, the parser is over where the builder is.
func (w *way) put(r rune) {
	full := false
	defer func() {
		w.over = full || w.builder.Over()
	}()
	w.lexer.Sections(w.builder.Foreign())
	w.lexer.Put(r)
	w.tell(w.lexer.Errors()...)
	for _, t := range w.lexer.Tokens() {
		if full = isFull(w.token(t)); full {
			w.tell("full")
			return
		}
	}
	w.obey()
}

// isFull tells apart the one refusal that ends a page: behind any other one it goes on without that token.
func isFull(err error) bool {
	var e api.Errno
	return errors.As(err, &e) && e == api.ErrFull
}

// obey gives the lexer the state that the builder wants, if there is one.
func (w *way) obey() {
	if state := w.builder.Want(); state >= 0 {
		w.lexer.Set(state)
	}
}

func (w *way) tell(faults ...string) {
	w.errors = append(w.errors, faults...)
}

func (w *way) result(encoding int) api.Result {
	return api.Result{Encoding: encoding, Mode: w.builder.Quirk(), Errors: slices.Clone(w.errors)}
}
