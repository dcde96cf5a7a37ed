package loop_test

import (
	"strings"
	"testing"

	"hornbeam/api"
)

// row is a page behind a doctype and a head, with its scripts, the step of its bytes, and what the body is then.
type row struct {
	page    string
	scripts [][]api.Act
	step    string
	body    string
}

func (c row) holds(t *testing.T) {
	t.Helper()
	w := newBench(t, c.scripts...)
	w.begin(doctype+"<body>"+c.page, c.step)
	w.end("0")
	w.tree("doctype:html html(head body(" + c.body + "))")
	if w.l.Parsing() || w.l.Waiting() != 0 {
		t.Errorf("%s: Parsing %v, Waiting %d", c.page, w.l.Parsing(), w.l.Waiting())
	}
}

// P21.3: what a script writes comes where the script stands, ahead of what is behind it.
func TestWrite(t *testing.T) {
	for _, c := range []row{
		{"<script></script>a", [][]api.Act{{write("<b>")}}, "1 0", `script b("a")`},
		{"<script></script>a", [][]api.Act{{write("")}}, "1 0", `script "a"`},
		{"<script></script>a", [][]api.Act{{write("1"), write("2"), write("<i>")}}, "1 0 0 0", `script "12" i("a")`},
		{"<script>x</script>a", [][]api.Act{{write("<"), write("b c"), write("=d>")}}, "1 0 0 0", `script("x") b{c=d}("a")`},
		{"<script></script>i>a", [][]api.Act{{write("<")}}, "1 0", `script i("a")`},
		{"<script></script>amp;b", [][]api.Act{{write("&")}}, "1 0", `script "&b"`},
		{"<script></script>--><i>", [][]api.Act{{write("<!-- <p>")}}, "1 0", `script !" <p>" i`},
		{"<script></script></title>a", [][]api.Act{{write("<title><b>")}}, "1 0", `script title("<b>") "a"`},
		{"<script></script><b></plaintext>", [][]api.Act{{write("<plaintext>")}}, "1 0", `script plaintext("<b></plaintext>")`},
		{"<table><tr><script></script><td>a", [][]api.Act{{write("1<td>2</td>")}}, "1 0", `"1" table(tbody(tr(script td("2") td("a"))))`},
		{"<script>1</script>2<script>3</script>4", [][]api.Act{{write("a")}, {write("b")}}, "2 0 0", `script("1") "a2" script("3") "b4"`},
		{"<svg><script></script>a", [][]api.Act{{write("b")}}, "0", `svg:svg(svg:script "a")`},
		{"<script></scriptx></script>a", [][]api.Act{{write("b")}}, "1 0", `script("</scriptx>") "ba"`},
	} {
		c.holds(t)
	}
	w := newBench(t, acts(write("</body><!--b-->")))
	w.page(doctype+"<body><script></script>a", "1 0")
	w.tree(`doctype:html html(head body(script "a") !"b")`)
	w.result(utf8, noQuirks, "tree")
}

// P21.3: each write is a source of its own: its line ends, and the bytes of its code points.
func TestSourcesOfWrites(t *testing.T) {
	for _, c := range []row{
		{"<script></script>\nb", [][]api.Act{{write("a\r")}}, "1 0", `script "a\n\nb"`},
		{"<script></script>b", [][]api.Act{{write("a\r"), write("\nc\r\nd\r\r\n")}}, "1 0 0", `script "a\n\nc\nd\n\nb"`},
		{"<script></script>\r\nb", [][]api.Act{{write("\n")}}, "1 0", `script "\n\nb"`},
		{"<pre>\r<script></script>\nb", [][]api.Act{{write("\r\n\r")}}, "1 0", `pre(script "\n\n\nb")`},
		{"<script></script>b", [][]api.Act{{write("\xc3"), write("\xa9"), write("\xc3\xa9\xff")}}, "1 0 0 0", `script "` + "\ufffd\ufffdé\ufffd" + `b"`},
		{"<script></script>b", [][]api.Act{{write("\xed\xa0\x80\xf0\x9f\x98")}}, "1 0", `script "` + "\ufffd\ufffd\ufffd\ufffd" + `b"`},
		{"<script></script>b", [][]api.Act{{write("a\ufeff€😀")}}, "1 0", `script "a\ufeff€😀b"`},
		{"<script></script>b", [][]api.Act{{write("<i \xff=\xc3>")}}, "1 0", "script i{\ufffd=\ufffd}(\"b\")"},
	} {
		c.holds(t)
	}
}

// P21.2, P21.3: what a script writes may make another one ready, which comes ahead of what is left of the first.
func TestScriptsWithinScripts(t *testing.T) {
	inner := "<script></script>"
	for _, c := range []row{
		{"<script></script>a", [][]api.Act{{write(inner + "1"), write("2")}, {write("3")}}, "2 0 0 0", `script script "312a"`},
		{"<script></script>a", [][]api.Act{{write("<scr"), write("ipt></scr"), write("ipt>1"), write("2")}, {write("3")}}, "2 0 0 0 0 0", `script script "312a"`},
		{"<script></script>a", [][]api.Act{{write(inner + "1" + inner + "2"), data(0, "")}, {write("3"), remove(0)}, {elem("?", 1), write("4")}}, "3 0 21 22 0 0 10", `script script "31" script "42a"`},
		{"<script></script>ipt>a", [][]api.Act{{write("<script></scr")}, {write("1")}}, "2 0 0", `script script "1a"`},
		{"<script></script>a<script></script>b", [][]api.Act{{write(inner)}, {write("1")}, {write("2")}}, "3 0 0 0", `script script "1a" script "2b"`},
		{"<script></script>a", [][]api.Act{{write("<script>"), write("x</script>1")}, {write("<i>"), write("</i>")}}, "2 0 0 0 0", `script script("x") i "1a"`},
	} {
		c.holds(t)
	}
}

// chain is so many scripts, each of which makes the next one ready and has a letter behind it.
func chain(n int) [][]api.Act {
	var l [][]api.Act
	for k := range n {
		l = append(l, acts(write("<script></script>"+letter(k))))
	}
	return l
}

func letter(k int) string { return string(rune('a' + k)) }

// letters are those of a chain, the last one first.
func letters(n int) string {
	s := ""
	for k := range n {
		s = letter(k) + s
	}
	return s
}

// P21.3: writes within writes up to MaxNest, and one more: nothing is done of that script, though it counts.
func TestNestedWrites(t *testing.T) {
	for n := 1; n <= maxNest+4; n++ {
		w := newBench(t, append(chain(n), acts(write("last")))...)
		done := min(n, maxNest+1)
		ran := done + 1
		if n <= maxNest { // the list behind the chain is its last script's
			w.begin(doctype+"<body><script></script>!", told(api.Step{Ran: ran, Errs: make([]api.Errno, done+1)}))
			w.tree(`doctype:html html(head body(` + strings.Repeat("script ", ran) + `"last` + letters(done) + `!"))`)
			w.is(true, ran, 0)
			continue
		}
		w.begin(doctype+"<body><script></script>!", told(api.Step{Ran: ran, Errs: make([]api.Errno, done)}))
		w.tree(`doctype:html html(head body(` + strings.Repeat("script ", ran) + `"` + letters(done) + `!"))`)
		w.is(true, maxNest+2, 0)
	}
}

// P21.3: the scripts behind one that came too deep have the lists behind that one's.
func TestBehindNestedWrites(t *testing.T) {
	w := newBench(t, append(chain(maxNest+1), acts(write("not done"), remove(1)), acts(write("1")), acts(write("2")))...)
	w.begin(doctype+"<body><script></script>!", "22"+strings.Repeat(" 0", 21))
	w.bytes("<script></script>?<script></script>.", "2 0 0")
	w.tree(`doctype:html html(head body(` + strings.Repeat("script ", 22) + `"` + letters(21) + `!" script "1?" script "2."))`)
	w.is(true, 24, 0)
}

// P21.3: a parser that DoOpen made has a mark from its beginning on, and so one write less within others.
func TestNestedWritesOfACreatedParser(t *testing.T) {
	w := newBench(t, append(chain(maxNest+1), acts(write("x")))...)
	w.page("", "0")
	w.script("21"+strings.Repeat(" 0", 22), open, write(doctype+"<body><script></script>!"))
	w.tree(`doctype:html html(head body(` + strings.Repeat("script ", 21) + `"` + letters(20) + `!"))`)
	w.is(true, 21, 0)
	w.script("1 0 0 0", write("<script></script>"), close)
	w.tree(`doctype:html html(head body(` + strings.Repeat("script ", 21) + `"` + letters(20) + `!" script "x"))`)
	w.is(false, 22, 0)
}

// P21.3: MaxInput code points that wait, and one more: then nothing is done. Line ends count as they came.
func TestFullWrites(t *testing.T) {
	for _, unit := range []string{" ", "\r\n", "\r\n\r"} {
		n := (maxInput - 2) / len(unit)
		some := strings.Repeat(unit, n) + strings.Repeat(" ", maxInput-2-n*len(unit))
		w := newBench(t, acts(write(some+"x"), write(strings.Repeat("x", 2*maxInput)), write("<title>"), write(some), write("</title>")))
		w.begin(doctype+"<script></script>ab", "1 9 9 0 0 0")
		w.end("0")
		id := w.named("title")
		x, _ := w.l.Tree().Node(id + 1)
		if want := strings.ReplaceAll(strings.ReplaceAll(some, "\r\n", "\n"), "\r", "\n"); x.Data != want {
			t.Errorf("%q: a text of %d bytes; want %d", unit, len(x.Data), len(want))
		}
		w.is(false, 1, 0)
	}
}

// P21.3: it is code points that are counted, not bytes: a comment of more bytes than a text may have is read, and left out.
func TestLongWrites(t *testing.T) {
	w := newBench(t, acts(write("<!--"+strings.Repeat("€", 400000)+"-->b"), write("c")))
	w.page(doctype+"<body><script></script>a", "1 0 0")
	w.tree(`doctype:html html(head body(script "bca"))`)
}

// P21.3: what is left of a write waits while a script within it writes, and counts.
func TestFullWritesWithinWrites(t *testing.T) {
	blanks := func(n int) string { return strings.Repeat(" ", n) }
	w := newBench(t,
		acts(write("<script></script>"+blanks(maxInput/2))),
		acts(write("<i>"+blanks(maxInput/2-6)), write("</i><b>"+blanks(maxInput/2-9)), write("</b>"+blanks(maxInput/2-5)), write("<u>")))
	w.begin(doctype+"<body><script></script>ab", "2 0 0 9 0 0")
	w.tree(`doctype:html html(head body(script script i("` + blanks(maxInput/2-6) + `") b("` + blanks(maxInput/2-9) + `" u("` + blanks(maxInput/2) + `ab"))))`)
	w.is(true, 2, 0)
}

// P21.3: DoWrite where the input has no mark, or parsing is not going on.
func TestWriteWithoutAMark(t *testing.T) {
	w := newBench(t, acts(write("1")))
	w.script("0 5", write("x"))
	w.begin(doctype+"<p>a", "0")
	before := w.state()
	w.script("0 5 5", write("x"), write(""))
	same(t, "in the middle", w.state(), before)
	w.bytes("b<script></script>", "1 0")
	w.script("0 5", write("x"))
	w.end("0")
	w.script("0 5", write("x"))
	w.tree(`doctype:html html(head body(p("ab" script "1")))`)

	w = newBench(t, acts(abort, write("1"), write("")))
	w.begin(doctype+"<p>a<script></script>b", "1 0 5 5")
	w.script("0 5", write("x"))
	w.tree(`doctype:html html(head body(p("a" script)))`)

	w = newBench(t)
	w.script("0 0 5 0 0 0 5", abort, write("x"), open, write("y"), close, write("z"))
	w.tree(`html(head body("y"))`)
	w.is(false, 0, 0)
}
