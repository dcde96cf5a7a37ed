package parse_test

import (
	"fmt"
	"reflect"
	"strconv"
	"strings"
	"testing"

	"hornbeam/api"
	"hornbeam/builder"
	"hornbeam/decode"
	"hornbeam/lexer"
	"hornbeam/node"
	"hornbeam/parse"
	"hornbeam/sniff"
)

// Errors, limits, modes and encodings by the document's numbers: a test leans on no constant that the program reads.
const (
	ok       = 0
	errArg   = 1
	errState = 5
	errZero  = 7
	errFull  = 9

	none     = -1
	maxNodes = 32768
	maxText  = 1048576
	maxInput = 1048576
	maxSniff = 1024

	noQuirks = 0
	limited  = 1
	quirks   = 2

	utf8    = 0
	utf16LE = 1
	utf16BE = 2
	windows = 3
	latin9  = 4
	cyr     = 5
	user    = 6
)

// outcome is all that there is to say of a page that was parsed: every node of its arena, and the result.
type outcome struct {
	nodes  []api.Node
	result api.Result
	over   bool
}

func nodesOf(a *node.Arena) []api.Node {
	var l []api.Node
	for id := range a.Len() {
		x, _ := a.Node(id)
		l = append(l, x)
	}
	return l
}

func resultOf(encoding, mode int, errors ...string) api.Result {
	return api.Result{Encoding: encoding, Mode: mode, Errors: errors}
}

func outcomeOf(p *parse.Parser) outcome {
	r := p.Result()
	return outcome{nodesOf(p.Tree()), resultOf(r.Encoding, r.Mode, r.Errors...), p.Over()}
}

// words are errors by their names, parted by blanks.
func words(s string) []string { return strings.Fields(s) }

// gives asks for the error of a call.
func gives(t *testing.T, what string, got, want api.Errno) {
	t.Helper()
	if got != want {
		t.Fatalf("%s: %d; want %d", what, got, want)
	}
}

func feed(t *testing.T, p *parse.Parser, chunks ...string) {
	t.Helper()
	for _, s := range chunks {
		gives(t, "Feed", p.Feed([]byte(s)), ok)
	}
}

// fed is a parser that was given chunks, and not the end.
func fed(t *testing.T, hint string, scripts bool, chunks ...string) *parse.Parser {
	t.Helper()
	p := parse.New(hint, scripts)
	feed(t, p, chunks...)
	return p
}

// parsed is what chunks and the end have led to.
func parsed(t *testing.T, hint string, scripts bool, chunks ...string) outcome {
	t.Helper()
	p := fed(t, hint, scripts, chunks...)
	gives(t, "End", p.End(), ok)
	return outcomeOf(p)
}

// padding is blanks ahead of a page's first word, which lead to no token's doing: with them the encoding is sure.
var padding = strings.Repeat(" ", maxSniff)

// tell tells what is below a node: elements with their attributes in curly brackets, a template's contents in square
// ones, and children in round ones.
func tell(a *node.Arena, id int) string {
	var parts []string
	for _, kid := range a.Kids(id) {
		parts = append(parts, tellOne(a, kid))
	}
	return strings.Join(parts, " ")
}

func tellOne(a *node.Arena, id int) string {
	x, _ := a.Node(id)
	switch x.Kind {
	case api.KText:
		return strconv.Quote(x.Data)
	case api.KComment:
		return "!" + strconv.Quote(x.Data)
	case api.KDoctype:
		return "doctype:" + x.Name
	}
	s := []string{"", "math:", "svg:"}[x.Space] + x.Name
	for _, attr := range x.Attrs {
		s += "{" + attr.Name + "=" + attr.Value + "}"
	}
	if x.Inner != none {
		s += "[" + tell(a, x.Inner) + "]"
	}
	if x.First != none {
		s += "(" + tell(a, id) + ")"
	}
	return s
}

// same holds what came against what should, and tells where they part.
func same(t *testing.T, what string, got, want outcome) {
	t.Helper()
	if reflect.DeepEqual(got, want) {
		return
	}
	for i := range min(len(got.nodes), len(want.nodes)) {
		if !reflect.DeepEqual(got.nodes[i], want.nodes[i]) {
			t.Errorf("%s: node %d is %s; want %s", what, i, short(got.nodes[i]), short(want.nodes[i]))
			break
		}
	}
	t.Fatalf("%s: %d nodes, %s, over %v; want %d, %s, %v", what, len(got.nodes), short(got.result), got.over, len(want.nodes), short(want.result), want.over)
}

// short is a thing's text, cut where it is too long to be read.
func short(x any) string {
	s := fmt.Sprintf("%v", x)
	return s[:min(len(s), 400)]
}

// plain is a page read by the chapter's words, all at once: no bytes wait, and line ends are made one by hand.
func plain(b string, hint string, scripts bool) outcome {
	encoding, mark, _ := sniff.Choose([]byte(b), true, hint)
	l, _ := decode.Text(encoding, []byte(b)[mark:])
	a := node.New()
	tree, _ := builder.New(a, scripts)
	return plainTree(a, tree, lexer.New(), encoding, l)
}

// plainFragment is a fragment read likewise.
func plainFragment(s, name string, scripts bool) outcome {
	l, _ := decode.Text(utf8, []byte(s))
	a := node.New()
	tree, _ := builder.Fragment(a, scripts, name)
	x := lexer.New()
	if state := tree.Want(); state >= 0 {
		x.Set(state)
	}
	x.Name(name)
	return plainTree(a, tree, x, utf8, l)
}

func plainTree(a *node.Arena, tree *builder.Builder, x *lexer.Lexer, encoding int, l []rune) outcome {
	var errors []string
	full := false
	for _, r := range append(plainLines(l), -1) {
		if full {
			break
		}
		x.Sections(tree.Foreign())
		x.Put(r)
		errors = append(errors, x.Errors()...)
		for _, t := range x.Tokens() {
			before := tree.Errors()
			e := tree.Token(t)
			for range tree.Errors() - before {
				errors = append(errors, "tree")
			}
			if e == errFull {
				errors = append(errors, "full")
				full = true
				break
			}
		}
		if state := tree.Want(); state >= 0 {
			x.Set(state)
		}
	}
	return outcome{nodesOf(a), resultOf(encoding, tree.Quirk(), errors...), full || tree.Over()}
}

func plainLines(l []rune) []rune {
	var out []rune
	for i, r := range l {
		switch {
		case r == 13:
			out = append(out, 10)
		case r != 10 || i == 0 || l[i-1] != 13:
			out = append(out, r)
		}
	}
	return out
}

// sixteen is a text in UTF-16, LE or BE.
func sixteen(s string, low bool) string {
	var b []byte
	add := func(unit rune) {
		if low {
			b = append(b, byte(unit), byte(unit>>8))
		} else {
			b = append(b, byte(unit>>8), byte(unit))
		}
	}
	for _, r := range s {
		if r < 0x10000 {
			add(r)
			continue
		}
		add(0xD800 + (r-0x10000)>>10)
		add(0xDC00 + (r-0x10000)&0x3FF)
	}
	return string(b)
}
