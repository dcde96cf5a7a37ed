package parse_test

import (
	"slices"
	"strconv"
	"strings"
	"testing"

	"hornbeam/parse"
)

// emptyTree is what a page without a word leads to.
const emptyTree = "html(head body)"

// P18.1: a chunk of MaxInput - 8 bytes, and one more, which changes nothing.
func TestLongChunk(t *testing.T) {
	long := strings.Repeat("x", maxInput-8)
	for _, n := range []int{maxInput - 7, maxInput, maxInput + 1, 2 * maxInput} {
		p := parse.New("utf-8", false)
		gives(t, "Feed", p.Feed(make([]byte, n)), errFull)
		same(t, "nothing", outcomeOf(p), outcomeOf(parse.New("utf-8", false)))
		feed(t, p, "<p>a")
		gives(t, "Feed", p.Feed(make([]byte, n)), errFull)
		gives(t, "End", p.End(), ok)
		same(t, "what was taken", outcomeOf(p), plain("<p>a", "utf-8", false))
	}
	p := fed(t, "utf-8", false, long)
	if got := textOf(t, p); got != long {
		t.Errorf("%d bytes of text", len(got))
	}
	gives(t, "Feed", p.Feed(make([]byte, maxInput-7)), errFull)
	feed(t, p, "y", "<p>", long)
	gives(t, "End", p.End(), ok)
	same(t, "more than one long chunk", outcomeOf(p), plain(long+"y<p>"+long, "utf-8", false))
}

// textOf is the data of the first text in the body.
func textOf(t *testing.T, p *parse.Parser) string {
	t.Helper()
	a := p.Tree()
	for id := range a.Len() {
		if x, _ := a.Node(id); x.Kind == 2 {
			return x.Data
		}
	}
	t.Fatal("there is no text")
	return ""
}

// P18.1: bytes that wait for an encoding count, and those that were decoded do not.
func TestBytesThatWait(t *testing.T) {
	for _, wait := range []int{1, 8, 500, maxSniff - 1} {
		begin, long := strings.Repeat("a", wait), strings.Repeat("b", maxInput-8-wait)
		p := fed(t, "", false, begin)
		gives(t, "Feed", p.Feed([]byte(long+"c")), errFull)
		if p.Tree().Len() != 1 {
			t.Errorf("%d: what is refused is parsed", wait)
		}
		same(t, "refused", outcomeOf(p), outcomeOf(fed(t, "", false, begin)))
		feed(t, p, long)
		if got := textOf(t, p); got != begin+long {
			t.Errorf("%d: %d bytes of text", wait, len(got))
		}
	}
	p := fed(t, "", false, strings.Repeat("a", maxSniff))
	feed(t, p, strings.Repeat("b", maxInput-8))
	if got := textOf(t, p); len(got) != maxText {
		t.Errorf("%d bytes of text", len(got))
	}
}

// P18.1: a chunk of just as many bytes as there may be, behind a code point that an earlier one began.
func TestLongChunkBehindACut(t *testing.T) {
	for _, c := range []struct{ hint, begin, unit string }{
		{"utf-8", padding + "\xf0\x9f\x98", "<"},
		{"utf-8", padding + "\xe2\x82", "\xe2\x82"},
		{"utf-16le", sixteen(padding, true) + "\x3d\xd8\x00", "\x00\x3d"},
	} {
		long := strings.Repeat(c.unit, (maxInput-8)/len(c.unit))
		p := fed(t, c.hint, false, c.begin, long)
		gives(t, "End", p.End(), ok)
		same(t, c.hint, outcomeOf(p), plain(c.begin+long, c.hint, false))
	}
}

// P18.2: a page that Feed takes, and one that it does not: then there is the end alone.
func TestParseOfLongPages(t *testing.T) {
	for _, c := range []struct {
		n     int
		taken bool
	}{{maxInput - 9, true}, {maxInput - 8, true}, {maxInput - 7, false}, {maxInput, false}, {maxInput + 1, false}} {
		page := "\xef\xbb\xbf" + doctype + "<p>\x00"
		page += strings.Repeat("x", c.n-len(page))
		a, r := parse.Parse([]byte(page), "", false)
		got := outcome{nodesOf(a), resultOf(r.Encoding, r.Mode, r.Errors...), true}
		if c.taken {
			same(t, strconv.Itoa(c.n), got, plain(page, "", false))
			if r.Encoding != utf8 || a.Len() != 7 {
				t.Errorf("%d: %v, %d nodes", c.n, r, a.Len())
			}
			continue
		}
		same(t, strconv.Itoa(c.n), got, plain("", "", false))
		if tell(a, 0) != emptyTree || r.Encoding != windows || r.Mode != quirks || !slices.Equal(r.Errors, words("tree")) {
			t.Errorf("%d: %s, %v", c.n, tell(a, 0), r)
		}
		if _, r := parse.Parse([]byte(page), "l9", false); r.Encoding != latin9 {
			t.Errorf("%d: the hint does not count: %d", c.n, r.Encoding)
		}
	}
}

// P18.1: a token that is too long is passed over, and the page goes on.
func TestLongTokens(t *testing.T) {
	attrs := func(n int) string {
		var s strings.Builder
		for i := range n {
			s.WriteString(" a" + strconv.Itoa(i))
		}
		return s.String()
	}
	half := strings.Repeat("x", maxText/2)
	for _, c := range []struct {
		chunks []string
		tree   string
		long   string
	}{
		{[]string{"<b", attrs(1025), ">1</b>2"}, `"12"`, "tree"},
		{[]string{"<title", attrs(1025), "><i>1</title>2"}, `i("12")`, "tree"},
		{[]string{"<!--", half, half, "x-->1"}, `"1"`, ""},
		{[]string{"<b c='", half, half, "x'>1</b>2"}, `"12"`, "tree"},
		{[]string{"<b", half, half, ">1"}, `"1"`, ""},
		{[]string{"<b ", half, half, "x>1"}, `"1"`, ""},
	} {
		p := fed(t, "", false, doctype+padding+"<body>")
		feed(t, p, c.chunks...)
		gives(t, "End", p.End(), ok)
		got, r := tell(p.Tree(), 0), p.Result()
		if want := "doctype:html html(head body(" + c.tree + "))"; got != want || !p.Over() || !strings.HasPrefix(strings.Join(r.Errors, " "), c.long) {
			t.Errorf("%q..: %s, %q; want %s", c.chunks[0], short(got), r.Errors, want)
		}
		if slices.Contains(r.Errors, "full") {
			t.Errorf("%q..: full", c.chunks[0])
		}
		same(t, c.chunks[0], outcomeOf(p), plain(doctype+padding+"<body>"+strings.Join(c.chunks, ""), "", false))
	}
}

// P18.1: characters that a text has no room for are passed over, and what is behind them goes on.
func TestLongText(t *testing.T) {
	p := fed(t, "utf-8", false, padding+doctype+"<body>", strings.Repeat("x", maxText-9))
	feed(t, p, "12345678", "é", "9", "a€b<i>c</i>")
	gives(t, "End", p.End(), ok)
	x := textOf(t, p)
	if len(x) != maxText || !strings.HasSuffix(x, "x123456789") {
		t.Errorf("a text of %d bytes, at its end %q", len(x), x[len(x)-12:])
	}
	if got := tell(p.Tree(), 0); !strings.HasSuffix(got, `6789" i("c")))`) || !p.Over() || len(p.Result().Errors) != 0 {
		t.Errorf("..%s, %q", got[len(got)-40:], p.Result().Errors)
	}
}
