package loop_test

import (
	"testing"
)

// P21.3: DoOpen while parsing is going on.
func TestOpenWhileParsing(t *testing.T) {
	w := newBench(t, acts(open, write("1"), open), acts(write("<script></script>")), acts(open, write("2")))
	w.script("0 5", open)
	w.begin(doctype+"<p>a", "0")
	before := w.state()
	w.script("0 5 5", open, open)
	same(t, "in the middle", w.state(), before)
	w.bytes("b<script></script>c<script></script>d", "3 5 0 5 5 0 0")
	w.end("0")
	w.tree(`doctype:html html(head body(p("ab" script "1c" script script "2d")))`)
}

// P21.3: DoOpen behind an end: the document has no children any more, and a parser that scripts write for.
func TestOpenBehindTheEnd(t *testing.T) {
	w := newBench(t)
	w.page("<!--x-->"+doctype+"<p>a<!--y--></p></b></html><!--z-->", "0")
	w.result(utf8, noQuirks, "tree")
	a, n := w.l.Tree(), w.l.Tree().Len()
	html := w.named("html")
	w.script("0 0", open)
	w.tree("")
	w.is(true, 0, 0)
	w.result(utf8, noQuirks, "tree")
	if w.l.Tree() != a || a.Len() != n || tellOne(a, html) != `html(head body(p("a" !"y")))` {
		t.Errorf("another arena, or its nodes are not there: %d, %s", a.Len(), tellOne(a, html))
	}
	w.script("0 5", open)
	w.script("0 0 0", write("<p>"), write("b"))
	w.tree(`html(head body(p("b")))`)
	w.result(utf8, quirks, "tree tree")
	w.script("0 20 0 0", insert(html, w.named("p")), write("c"), close) // p is the old one, below the old html
	w.tree(`html(head body(p("bc")))`)
	w.is(false, 0, 0)
}

// P21.3: what was unlinked may be put in again.
func TestOldNodesInANewDocument(t *testing.T) {
	w := newBench(t)
	w.page(doctype+"<p>a", "0")
	p := w.named("p")
	w.script("0 0 0", open, write("<div>b"))
	w.script("0 0", insert(p, w.named("div")))
	w.script("0 0 0", write("c"), close)
	w.tree(`html(head body(div("b" p("a") "c")))`)
}

// P21.3: DoOpen twice, and again behind DoClose and DoAbort.
func TestOpenAgain(t *testing.T) {
	w := newBench(t)
	w.page("a", "0")
	w.result(utf8, quirks, "tree")
	w.script("0 0 5 0 5", open, open, write(doctype+"1</p>"), open)
	w.tree(`doctype:html html(head body("1" p))`)
	w.result(utf8, noQuirks, "tree tree")
	w.script("0 5 0 0", open, close, open)
	w.tree("")
	w.script("0 0 0 0 0", write("2"), abort, open, write("3"))
	w.tree(`html(head body("3"))`)
	w.result(utf8, quirks, "tree tree tree tree")
	w.is(true, 0, 0)
	w.script("0 0 0 0 0", close, open, close, open)
	w.tree("")
	w.result(utf8, noQuirks, "tree tree tree tree tree")
	w.is(true, 0, 0)
}

// P21.3: a script that aborts its parser and opens another is done by then: its acts, and those of the scripts that it
// stands in, were its old parser's. A task's acts go on.
func TestOpenInAScript(t *testing.T) {
	w := newBench(t, acts(write("1"), abort, open, write("2"), elem("x", 0)))
	w.begin(doctype+"<body><script></script>a", "1 0 0 0")
	w.tree("")
	w.is(true, 1, 0)
	w.bytes("b", "0")
	w.end("0")
	w.script("0 0 0", write("c"), close)
	w.tree(`html(head body("c"))`)
	w.is(false, 1, 0)

	w = newBench(t, acts(write("<script></script>1"), write("2"), open), acts(abort, open, write("3")))
	w.begin(doctype+"<body><script></script>a", "2 0 0 0")
	w.tree("")
	w.script("0 0", write("b"))
	w.tree(`html(head body("b"))`)
	w.is(true, 2, 0)

	w = newBench(t, acts(write("<script></script>1"), elem("i", 4), open, write("2")), acts(write("0"), abort, write("3"), elem("u", 3)))
	w.begin(doctype+"<body><script></script>a", "2 0 0 5 0 0 0 0")
	w.tree("")
	w.is(true, 2, 0)

	w = newBench(t, acts(write("1"), abort, open, write("2")), acts(write("3")))
	w.page("", "0")
	w.script("2 0 0 0 0 0 0 0 0 0 0", open, write("<script></script>4"), write("<i>5"), close, open, write("<script></script>6"))
	w.tree(`html(head(script) body("36"))`)
	w.is(true, 2, 0)
}

// P21.3: a new parser begins anew: nothing of what the old one had open, or was in the middle of, is left.
func TestOpenBeginsAnew(t *testing.T) {
	for _, s := range []string{"<p", "<!--", "<title>", "<script>", "<plaintext>", "<table><b>", "<svg>", "<form>", "<frameset>", "<template>", "&am", "<pre>", "</html>", "<b><i>", "<![CDATA["} {
		w := newBench(t)
		w.begin(s, "0")
		w.script("0 0 0 0 0", abort, open, write(doctype+"p>\n<form>a"), close)
		w.tree(`doctype:html html(head body("p>\n" form("a")))`)
		w.is(false, 0, 0)
	}
}

// P21.3: DoClose of the first parser, of one in whose script it stands, and of one that was closed, aborted, or never
// opened.
func TestClose(t *testing.T) {
	w := newBench(t, acts(close, write("1"), close), acts(close, write("2")))
	w.script("0 5", close)
	w.begin(doctype+"<p>a", "0")
	before := w.state()
	w.script("0 5", close)
	same(t, "in the middle", w.state(), before)
	w.bytes("<script></script>b", "1 5 0 5")
	w.end("0")
	w.script("0 5", close)
	w.tree(`doctype:html html(head body(p("a" script "1b")))`)

	w.script("1 0 5 0 0", open, write("<script></script>3"))
	w.tree(`html(head(script) body("23"))`)
	w.is(true, 2, 0)
	w.script("0 0 5 5 5", close, close, write("x"), close)
	w.tree(`html(head(script) body("23"))`)
	w.is(false, 2, 0)
	w.script("0 0 0 5 5", open, abort, close, abort)
	w.tree("")
	w.is(false, 2, 0)
	w.script("0 0 0", open, close)
	w.tree("html(head body)")
	w.is(false, 2, 0)
}

// P21.3: DoClose brings the end, and what it leads to.
func TestCloseIsAnEnd(t *testing.T) {
	for _, c := range []struct{ text, tree, faults string }{
		{"", "html(head body)", "tree"},
		{"a", `html(head body("a"))`, "tree"},
		{doctype + "a&amp", `doctype:html html(head body("a&"))`, "missing-semicolon-after-character-reference"},
		{doctype + "a<b", `doctype:html html(head body("a"))`, "eof-in-tag"},
		{doctype + "a<!--b", `doctype:html html(head body("a" !"b"))`, "eof-in-comment"},
		{doctype + "<script>a", `doctype:html html(head(script("a")) body)`, "tree"},
		{doctype + "<script></script", `doctype:html html(head(script("</script")) body)`, "tree"},
		{doctype + "<script></script ", `doctype:html html(head(script) body)`, "eof-in-tag tree"},
		{doctype + "<table>a", `doctype:html html(head body("a" table))`, "tree tree"},
		{"<!DOCTYPE", "doctype: html(head body)", "eof-in-doctype tree"},
	} {
		w := newBench(t, acts(write("x")))
		w.page(doctype, "0")
		w.script("0 0 0", open, write(c.text))
		w.script("0 0", close)
		w.tree(c.tree)
		w.is(false, 0, 0)
		if r := w.l.Result(); len(r.Errors) == 0 || short(r.Errors) != "["+c.faults+"]" {
			t.Errorf("%s: %v; want %s", c.text, r.Errors, c.faults)
		}
	}
}

// P21.3: DoAbort in a script: its acts go on, and what stands behind it is not put.
func TestAbortInAScript(t *testing.T) {
	w := newBench(t, acts(write("1<b"), abort, write("2"), elem("i", 4), abort, close), acts(write("3")))
	w.begin(doctype+"<body><script></script>a<script></script>", "1 0 0 5 0 5 5")
	w.tree(`doctype:html html(head body(script "1" i))`)
	w.is(false, 1, 0)
	before := w.state()
	w.bytes("c", "0")
	w.end("0")
	w.bytes("d", "0")
	same(t, "behind it", w.state(), before)

	w = newBench(t, acts(write("<script></script>1"), write("2"), elem("i", 4)), acts(write("3"), abort, text("4", 4)))
	w.begin(doctype+"<body><script></script>a", "2 0 0 0 0 5 0")
	w.tree(`doctype:html html(head body(script script "3" "4" i))`)
	w.is(false, 2, 0)
}

// P21.3: DoAbort from a task: ahead of the first byte, in the middle, behind an end.
func TestAbortFromATask(t *testing.T) {
	w := hinted(t, "l9")
	w.bytes("<p>a", "0")
	w.script("0 0 5", abort, abort)
	w.bytes(padding, "0")
	w.end("0")
	w.tree("")
	w.is(false, 0, 0)
	w.result(utf8, noQuirks, "")

	w = hinted(t, "l9")
	w.begin("<p>a<i", "0")
	w.script("0 0", abort)
	w.bytes(">b", "0")
	w.end("0")
	w.tree(`html(head body(p("a")))`)
	w.is(false, 0, 0)
	w.result(latin9, quirks, "tree")

	w = newBench(t)
	w.page("a", "0")
	w.script("0 5", abort)
	w.script("0 0 0 0 5", open, write("b<i"), abort, abort)
	w.tree(`html(head body("b"))`)
	w.is(false, 0, 0)
}
