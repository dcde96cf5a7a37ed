package parse_test

import (
	"slices"
	"strings"
	"testing"

	"hornbeam/node"
	"hornbeam/parse"
)

// fill makes nodes without a parent, until the arena has n.
func fill(t *testing.T, a *node.Arena, n int) {
	t.Helper()
	for a.Len() < n {
		if _, e := a.Comment(""); e != ok {
			t.Fatalf("Comment: %d", e)
		}
	}
}

// isFull asks for a parser that is over, and for its errors.
func isFull(t *testing.T, p *parse.Parser, errors string) {
	t.Helper()
	if !p.Over() || !slices.Equal(p.Result().Errors, words(errors)) {
		t.Errorf("over %v, %q; want %s", p.Over(), p.Result().Errors, errors)
	}
}

// P18.1: an arena that is full: the error full, and nothing behind it.
func TestFullByPage(t *testing.T) {
	for _, c := range []struct {
		head, unit string
		left       int // how many nodes there is no room for
	}{
		{doctype + "<body>", "<br>", 63},
		{doctype + "<body><b><i>", "<br>", 65},
		{doctype + "<body><b><object>", "<!-->", 65},
		{doctype + "<body>", "<p>x", 63},
	} {
		page := c.head + strings.Repeat(c.unit, 40000) + "\x00</x><a b b"
		want := plain(page, "", false)
		a, r := parse.Parse([]byte(page), "", false)
		same(t, c.head, outcome{nodesOf(a), resultOf(r.Encoding, r.Mode, r.Errors...), true}, want)
		if a.Len() != maxNodes-c.left || slices.Index(r.Errors, "full") != len(r.Errors)-1 {
			t.Errorf("%s: %d nodes, %q", c.head, a.Len(), r.Errors[max(0, len(r.Errors)-3):])
		}
		var chunks []string
		for i := 0; i < len(page); i += 4099 {
			chunks = append(chunks, page[i:min(i+4099, len(page))])
		}
		p := fed(t, "", false, chunks...)
		same(t, c.head+" in chunks", outcomeOf(p), want)
		gives(t, "End", p.End(), ok)
		same(t, c.head+" and the end", outcomeOf(p), want)
		gives(t, "End", p.End(), errState)
		gives(t, "Feed", p.Feed(nil), errState)
	}
}

// P18.1: whatever token it is that finds no room, the end too; the lexer's errors of that code point are told ahead.
func TestFullByHand(t *testing.T) {
	for _, c := range []struct{ begin, more, errors string }{
		{"", "a", "full"},
		{"", "\x00", "unexpected-null-character full"},
		{"", "<b c c>", "duplicate-attribute full"},
		{"", "</b c>\x00", "end-tag-with-attributes full"},
		{"", "&#0;", "null-character-reference full"},
		{"</x>", "<!-->\x00\x00", "tree abrupt-closing-of-empty-comment full"},
		{"", "<a b b=&#0", "duplicate-attribute missing-semicolon-after-character-reference null-character-reference eof-in-tag full"},
		{"", "<!--", "eof-in-comment full"},
		{"", "", "full"},
		{"<textarea>a</b", " \x00", "full"},           // the characters </b and a blank are tokens of one code point
		{"<script></scrip", "!</script>\x00", "full"}, // likewise
	} {
		p := fed(t, "", false, doctype+padding+"<body>"+c.begin)
		fill(t, p.Tree(), maxNodes-63)
		was := nodesOf(p.Tree())
		if p.Over() {
			t.Errorf("%q: over ahead of a token", c.more)
		}
		feed(t, p, c.more, "")
		gives(t, "End", p.End(), ok)
		isFull(t, p, c.errors)
		if r := p.Result(); r.Mode != noQuirks || r.Encoding != windows {
			t.Errorf("%q: %v", c.more, r)
		}
		same(t, c.more, outcome{nodes: nodesOf(p.Tree())}, outcome{nodes: was})
		gives(t, "Feed", p.Feed([]byte("b")), errState)
		gives(t, "End", p.End(), errState)
		isFull(t, p, c.errors)
	}
}

// P18.1: with room for one token more it goes on.
func TestNearlyFull(t *testing.T) {
	p := fed(t, "", false, doctype+padding+"<body>")
	fill(t, p.Tree(), maxNodes-64)
	feed(t, p, "</p>", "a\x00")
	isFull(t, p, "tree full")
	if got := tell(p.Tree(), 0); got != "doctype:html html(head body(p))" {
		t.Error(got)
	}

	p = fed(t, "", false, doctype+padding+"<body>")
	fill(t, p.Tree(), maxNodes-64)
	gives(t, "End", p.End(), ok)
	isFull(t, p, "")
}

// P18.1: an arena that was full ahead of the first token.
func TestFullFromTheBeginning(t *testing.T) {
	for _, n := range []int{maxNodes - 63, maxNodes} {
		p := parse.New("l9", false)
		fill(t, p.Tree(), n)
		feed(t, p, "a\x00")
		isNot := p.Over()
		gives(t, "End", p.End(), ok)
		isFull(t, p, "full")
		if isNot || p.Result().Encoding != latin9 || p.Result().Mode != noQuirks || p.Tree().Len() != n {
			t.Errorf("%v, %d nodes", p.Result(), p.Tree().Len())
		}
	}
}

// P18.1: a parser that is over takes bytes and the end; they change nothing, but wait, and count.
func TestWaitingBehindFull(t *testing.T) {
	over := func(more string) *parse.Parser {
		p := fed(t, "utf-8", false, padding+"<body>")
		fill(t, p.Tree(), maxNodes)
		feed(t, p, "x"+more)
		isFull(t, p, "tree full")
		return p
	}
	p := over("")
	feed(t, p, strings.Repeat("y", maxInput-8))
	gives(t, "Feed", p.Feed([]byte("z")), errFull)
	gives(t, "Feed", p.Feed(nil), ok)
	gives(t, "End", p.End(), ok)
	isFull(t, p, "tree full")

	p = over("é\r\n")
	gives(t, "Feed", p.Feed(make([]byte, maxInput-9)), errFull)
	gives(t, "Feed", p.Feed(make([]byte, maxInput-10)), ok)
	gives(t, "Feed", p.Feed([]byte{0}), errFull)
	gives(t, "Feed", p.Feed(make([]byte, 2*maxInput)), errFull)
	isFull(t, p, "tree full")
	gives(t, "End", p.End(), ok)
	gives(t, "Feed", p.Feed(make([]byte, 2*maxInput)), errState)

	// A code point that the last chunk began is one more than its bytes: there is no room for an empty chunk then.
	p = over("\xe2\x82")
	gives(t, "Feed", p.Feed(make([]byte, maxInput-8)), ok)
	gives(t, "Feed", p.Feed(nil), errFull)
	gives(t, "End", p.End(), ok)
	isFull(t, p, "tree full")
}
