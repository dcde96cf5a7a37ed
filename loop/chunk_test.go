package loop_test

import (
	"math/rand"
	"strings"
	"testing"

	"hornbeam/api"
	"hornbeam/parse"
)

var pages = []string{
	"",
	"x",
	doctype,
	"<!--",
	"\xef\xbb\xbfa\xff",
	"\xfe\xff\x00<\x00p\x00>\xd8\x00\xdc",
	"<meta charset=l9><p>\xa4\r\n\xa4",
	doctype + "<title>a&amp;</title><p>b<table>c<tr><td>d</p>e",
	doctype + "<b><p>1</b>2</p><a>3<a>4",
	doctype + "<script>if (a<b) x</script><noscript><p>a</noscript><style><p></style>",
	"<head><noscript><link></noscript><body><noscript><b></noscript>c",
	"<script></script>a<script>b</script><script><!--<script></script>--></script>c",
	doctype + "<svg><script>a</script><desc><script>b</script></desc></svg><script>c",
	doctype + "<template><script></script><td>a</template>b\r\r\nc",
	"<frameset><frame></frameset><noframes><script></script></noframes>",
	doctype + "<select><option>a<script>b</script><option>c</select><plaintext><script></script>",
	"<p>a\x00b</p\x00><a b=c b=d>e&notit;&#128;&#x110000;",
	strings.Repeat("<div>", 300) + padding + "<script></script></table>\xe2\x82\xac",
}

// alone is what parse.Parse makes of a page, and how many scripts are in it.
func alone(page, hint string, scripts int) state {
	a, r := parse.Parse([]byte(page), hint, true)
	r.Errors = append([]string{}, r.Errors...)
	return state{nodesOf(a), r, false, scripts, 0}
}

// P21.5: without scripts, and with no acts, all is as of parse.Parse, however the bytes are cut.
func TestAsParse(t *testing.T) {
	r := rand.New(rand.NewSource(21))
	for _, page := range pages {
		for _, hint := range []string{"", "utf-8", "l9", "none such"} {
			for n := range 6 {
				w := hinted(t, hint, make([][]api.Act, n)...)
				for rest := page; rest != ""; {
					cut := 1 + r.Intn(len(rest))
					if n == 1 {
						cut = 1
					} else if n == 2 {
						cut = len(rest)
					}
					gives(t, "Post", w.l.Post(api.Task{What: taskBytes, Bytes: []byte(rest[:cut])}), ok)
					rest = rest[cut:]
				}
				gives(t, "Post", w.l.Post(api.Task{What: taskEnd}), ok)
				for w.l.Waiting() > 0 {
					if step, is := w.l.Run(r.Int() - r.Int()); !is || len(step.Errs) > 0 {
						t.Errorf("%q: Run: %v, %v", page, step, is)
					}
				}
				same(t, page, w.state(), alone(page, hint, w.l.Scripts()))
			}
		}
	}
}

// P21.5: likewise with tasks of acts in between that all err, or do nothing.
func TestAsParseBesideActsThatErr(t *testing.T) {
	for _, page := range pages {
		w := newBench(t, nil, acts(close, open, remove(0)))
		for i := range len(page) {
			w.script("0 5 5 5 21 6 6 1", open, close, write("x"), remove(0), elem("p", none), insert(1<<20, 0), api.Act{What: -1})
			gives(t, "Post", w.l.Post(api.Task{What: taskBytes, Bytes: []byte(page[i : i+1])}), ok)
			w.l.Run(0)
		}
		gives(t, "Post", w.l.Post(api.Task{What: taskEnd}), ok)
		w.l.Run(0)
		w.script("0 5 5 5", close, write("x"), abort)
		same(t, page, w.state(), alone(page, "utf-8", w.l.Scripts()))
	}
}

// P21.5: how many scripts a page has, and that the flag is set: what is in a noscript is text.
func TestScriptsOfPages(t *testing.T) {
	for _, c := range []struct {
		page    string
		scripts int
	}{
		{"a", 0}, {"<script>", 0}, {"</script>", 0}, {"<script></script>", 1}, {"<SCRIPT></Script >", 1},
		{"<script src=a/></script>", 1}, {"<script></script x", 0}, {"<script><!--<script></script>--></script>", 1},
		{"<svg><script></script>", 0}, {"<svg><script/>", 0}, {"<noscript><script></script></noscript>", 0},
		{"<template><script></script></template>", 1}, {"<title><script></script></title>", 0},
		{"<table><script></script><tr><script></script>", 2}, {"<select><script></script>", 1},
		{"<frameset><script></script>", 0}, {"<math><mi><script></script>", 1},
	} {
		w := newBench(t)
		w.begin(doctype+c.page, told(api.Step{Ran: c.scripts}))
		w.end("0")
		w.is(false, c.scripts, 0)
	}
}

// P21.2: a page of more bytes than a chunk may have, as of a parser that is fed.
func TestLongPages(t *testing.T) {
	p := parse.New("utf-8", true)
	w := newBench(t)
	for _, s := range []string{doctype + "<p>" + strings.Repeat("x", maxInput/2), "<script>" + strings.Repeat("y", maxInput/2), "</script><!--" + strings.Repeat("z", maxInput-100), "-->a"} {
		gives(t, "Feed", p.Feed([]byte(s)), ok)
		gives(t, "Post", w.l.Post(api.Task{What: taskBytes, Bytes: []byte(s)}), ok)
		w.l.Run(0)
		r := p.Result()
		r.Errors = append([]string{}, r.Errors...)
		same(t, short(s), w.state(), state{nodesOf(p.Tree()), r, true, w.l.Scripts(), 0})
	}
	w.is(true, 1, 0)
}
