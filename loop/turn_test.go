package loop_test

import (
	"strings"
	"testing"

	"hornbeam/api"
)

// P21.2: bytes, and an end, of a first parser that was ended, aborted, or followed by DoOpen: nothing is done.
func TestTurnIsOver(t *testing.T) {
	for _, c := range []struct {
		what  string
		acts  []api.Act
		ended bool
		step  string
	}{
		{"ended", nil, true, "0"},
		{"aborted", acts(abort), false, "0 0"},
		{"followed by DoOpen behind the end", acts(open), true, "0 0"},
		{"followed by DoOpen behind DoAbort", acts(abort, open), false, "0 0 0"},
		{"followed by DoOpen, which wrote", acts(abort, open, write("<p>1")), false, "0 0 0 0"},
		{"followed by DoOpen and DoClose", acts(abort, open, write("1"), close), false, "0 0 0 0 0"},
		{"followed by DoOpen and DoAbort", acts(abort, open, write("1"), abort), false, "0 0 0 0 0"},
	} {
		w := newBench(t, acts(write("x")))
		w.begin(doctype+"<p>a", "0")
		if c.ended {
			w.end("0")
		}
		w.script(c.step, c.acts...)
		before := w.state()
		w.bytes("b<script></script>", "0")
		w.bytes("", "0")
		w.end("0")
		w.bytes("c", "0")
		w.end("0")
		w.bytes(strings.Repeat("d", maxInput), "0")
		same(t, c.what, w.state(), before)
	}
}

// P21.2: an end alone, and bytes that are in the queue behind it.
func TestEndFirst(t *testing.T) {
	w := hinted(t, "")
	w.end("0")
	w.tree("html(head body)")
	w.result(windows, quirks, "tree")
	w.bytes("<p>a", "0")
	w.end("0")
	w.tree("html(head body)")
	w.is(false, 0, 0)
}

// P21.2: more bytes than a parser has room for are not taken: nothing is done. Those behind them are.
func TestBytesWithoutRoom(t *testing.T) {
	w := newBench(t)
	w.bytes(doctype+"<p>", "0")
	before := w.state()
	w.bytes(strings.Repeat("x", maxInput-7), "0")    // too long by itself
	w.bytes(strings.Repeat("x", maxInput-8-17), "0") // too long with those that wait
	same(t, "too long", w.state(), before)
	w.bytes(strings.Repeat("y", maxInput-8-18), "0")
	w.bytes(strings.Repeat("z", maxInput-7), "0")
	w.bytes("</p>"+strings.Repeat(" ", maxInput-12), "0")
	w.end("0")
	w.tree(`doctype:html html(head body(p("` + strings.Repeat("y", maxInput-26) + `") "` + strings.Repeat(" ", maxInput-12) + `"))`)
}

// fill makes so many comments without a parent that there is room for no more than so many nodes.
func fill(w bench, room int) {
	w.t.Helper()
	for w.l.Tree().Len() < maxNodes-room {
		if _, e := w.l.Tree().Comment(""); e != ok {
			w.t.Fatalf("Comment: %d", e)
		}
	}
}

// P21.2, P21.3: an arena without room ends the parser, and that of each DoOpen at its first token.
func TestFullArena(t *testing.T) {
	w := newBench(t, acts(write("1"), elem("b", 0), write("<i>2"), write("3"), open, write("4")))
	w.begin("<body><script></script>", "1 0 20 0 0 5 0")
	w.tree(`html(head body(script "1" i("234")))`)
	w.is(true, 1, 0)

	w = newBench(t, acts(write("1"), elem("b", 5), write("<i>2"), write("3"), open, write("4")))
	w.begin(doctype+"<body><script>", "0")
	fill(w, 65)
	w.bytes("</script>a", "1 0 0 0 5 0")
	w.tree("")
	w.is(true, 1, 0)
	w.result(utf8, noQuirks, "full")
	w.bytes("b", "0")
	w.end("0")
	w.script("0 0 5 5", write("c"), write("d"), close)
	w.tree("")
	w.is(false, 1, 0)
	w.result(utf8, noQuirks, "full full")
}
