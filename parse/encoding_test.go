package parse_test

import (
	"strconv"
	"strings"
	"testing"

	"hornbeam/parse"
)

const doctype = "<!DOCTYPE html>"

// P18.1: pages in each encoding, told by a mark, a hint, a meta and by none of them, in this order.
func TestEncodings(t *testing.T) {
	for _, c := range []struct {
		page     string
		hint     string
		encoding int
		text     string
	}{
		{"<p>\xe9\x80", "", windows, "é€"},
		{"<p>\xe9\x80", "no label", windows, "é€"},
		{"<p>\xc3\xa9", "", windows, "Ã©"},
		{"<p>\xc3\xa9", "utf-8", utf8, "é"},
		{"<p>\xe9\xa4", " L9\n", latin9, "é€"},
		{"<p>\xb6\xf0", "cyrillic", cyr, "Ж№"},
		{"<p>\xe9", "x-user-defined", user, "\uf7e9"},
		{sixteen("<p>é€😀", true), "utf-16", utf16LE, "é€😀"},
		{sixteen("<p>é€😀", false), "UTF-16BE", utf16BE, "é€😀"},

		{"\xef\xbb\xbf<p>é€", "", utf8, "é€"},
		{"\xef\xbb\xbf<p>é€", "l9", utf8, "é€"},
		{"\xef\xbb\xbf<p>\ufeff\xe9", "", utf8, "\ufeff\ufffd"},
		{"\xff\xfe" + sixteen("<p>é😀", true), "utf-8", utf16LE, "é😀"},
		{"\xfe\xff" + sixteen("<p>é😀", false), "utf-16le", utf16BE, "é😀"},
		{"\xff\xfe" + sixteen("<p>\ufeffa", true), "", utf16LE, "\ufeffa"},

		{"<meta charset=utf-8><p>é", "", utf8, "é"},
		{"<meta charset=utf-8><p>\xa4", "l9", latin9, "€"},
		{"<meta charset=utf-16><p>é", "", utf8, "é"},
		{"<meta charset=l9><p>\xa4", "utf8 ", utf8, "\ufffd"},
		{"<meta charset=l9><p>\xa4", "utf 8", latin9, "€"},
		{"<meta charset=x-user-defined><p>\x80", "", windows, "€"},
		{"<meta http-equiv=Content-Type content='text/html; charset=iso-8859-5'><p>\xb6", "", cyr, "Ж"},
		{"\xef\xbb\xbf<meta charset=l9><p>é", "cyrillic", utf8, "é"},
		{"<meta charset=no><p>\x80", "", windows, "€"},
	} {
		for _, padded := range []string{"", strings.Repeat("a", 2*maxSniff)} {
			page, text := c.page, c.text+padded
			switch c.encoding {
			case utf16LE, utf16BE:
				page += sixteen(padded, c.encoding == utf16LE)
			default:
				page += padded
			}
			a, r := parse.Parse([]byte(page), c.hint, false)
			if got := tell(a, 0); !strings.HasSuffix(got, "body(p("+strconv.Quote(text)+")))") || r.Encoding != c.encoding {
				t.Errorf("%q with the hint %q: %s, %d; want %q, %d", c.page, c.hint, short(got), r.Encoding, c.text, c.encoding)
			}
			same(t, c.page, parsed(t, c.hint, false, page), plain(page, c.hint, false))
		}
	}
}

// P18.1, G1: a meta behind the first 1024 bytes is not looked at, and one that goes past them counts by what is ahead.
func TestMetaAtTheBound(t *testing.T) {
	const meta = "<meta charset=l9>"
	for at := maxSniff - 40; at < maxSniff+20; at++ {
		page := doctype + strings.Repeat(" ", at-len(doctype)) + meta + "<p>\xa4"
		want := windows
		if at+len(meta) <= maxSniff {
			want = latin9
		}
		_, r := parse.Parse([]byte(page), "", false)
		chunks := parsed(t, "", false, page[:700], page[700:])
		if r.Encoding != want || chunks.result.Encoding != want {
			t.Errorf("a meta at %d: %d, in chunks %d; want %d", at, r.Encoding, chunks.result.Encoding, want)
		}
	}
}

// P18.1: nothing is answered as long as the encoding is not sure: it is with the 1024th byte, or with the end, and a
// mark, a hint or a meta makes it sure no sooner.
func TestNotSureYet(t *testing.T) {
	for _, c := range []struct {
		begin, hint string
		encoding    int
	}{
		{"<p>\x00", "", windows}, {"<p>\x00", "l9", latin9}, {"<meta charset=cyrillic><p>\x00", "", cyr},
		{"\xef\xbb\xbf<p>\x00", "", utf8}, {"\xff\xfe<\x00p\x00>\x00\x00\x00", "", utf16LE},
	} {
		page := c.begin + strings.Repeat("ab", maxSniff)
		for _, first := range []int{0, 1, 2, 3, 5, maxSniff - 1} {
			p := fed(t, c.hint, false, page[:first], "", page[first:maxSniff-1], "")
			if p.Tree().Len() != 1 || p.Over() {
				t.Errorf("%q: the tree is made ahead of the encoding", c.begin)
			}
			same(t, c.begin, outcomeOf(p), outcome{nodesOf(p.Tree()), resultOf(utf8, noQuirks), false})
			feed(t, p, page[maxSniff-1:maxSniff])
			if r := p.Result(); p.Tree().Len() < 5 || r.Encoding != c.encoding || r.Mode != quirks || len(r.Errors) < 3 || p.Over() {
				t.Errorf("%q: behind the bound: %d nodes, %v", c.begin, p.Tree().Len(), r)
			}
			feed(t, p, page[maxSniff:])
			gives(t, "End", p.End(), ok)
			same(t, c.begin, outcomeOf(p), plain(page, c.hint, false))
		}
		p := fed(t, c.hint, false, page[:maxSniff-1])
		gives(t, "End", p.End(), ok)
		same(t, c.begin, outcomeOf(p), plain(page[:maxSniff-1], c.hint, false))
		if p.Result().Encoding != c.encoding {
			t.Errorf("%q: at the end: %d", c.begin, p.Result().Encoding)
		}
	}
}

// P18.1: bytes of a code point that is not whole wait until the next ones, or until the end.
func TestLastBytes(t *testing.T) {
	for _, c := range []struct{ hint, begin, cut, more, whole, end string }{
		{"utf-8", padding + "a", "\xe2\x82", "\xac", "€", "\ufffd"},
		{"utf-8", padding + "a", "\xf0\x9f\x98", "\x80", "😀", "\ufffd"},
		{"utf-8", padding + "a", "\xf0\x9f\x98", "b", "\ufffdb", "\ufffd"},
		{"utf-16le", sixteen(padding+"a", true), "\x3d\xd8\x00", "\xde", "😀", "\ufffd"},
		{"utf-16le", sixteen(padding+"a", true), "\x3d\xd8", "b\x00", "\ufffdb", "\ufffd"},
		{"utf-16be", sixteen(padding+"a", false), "\x20", "\xac", "€", "\ufffd"},
	} {
		p := fed(t, c.hint, false, c.begin, c.cut)
		if got := tell(p.Tree(), 0); got != `html(head body("a"))` {
			t.Errorf("%q waits: %s", c.cut, got)
		}
		feed(t, p, "", c.more)
		if got := tell(p.Tree(), 0); got != `html(head body("a`+c.whole+`"))` {
			t.Errorf("%q and %q: %s", c.cut, c.more, got)
		}
		p = fed(t, c.hint, false, c.begin, c.cut)
		gives(t, "End", p.End(), ok)
		if got := tell(p.Tree(), 0); got != `html(head body("a`+c.end+`"))` {
			t.Errorf("%q and the end: %s", c.cut, got)
		}
		if !p.Over() {
			t.Error("not over")
		}
	}
}
