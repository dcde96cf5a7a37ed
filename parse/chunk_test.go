package parse_test

import (
	"math/rand"
	"slices"
	"strconv"
	"strings"
	"testing"

	"hornbeam/parse"
)

// P18.4: the same tree, mode, encoding and errors, however bytes are cut.

// chunkPages are pages that have something to cut: marks, code points, returns, tags, references, sections.
func chunkPages() []string {
	middle := "<p a='1\r\n2' a>x\r\n\r\ry&notit;&#x80;<!--c\r--></p></b q>é€😀\x00\xe2\x82<table>t<td>u</table>" +
		"<script>if (a<b) '</scrip'</script><svg><![CDATA[d\r\n]]]></svg><![CDATA[e]]><textarea>\r\n<i></textarea>"
	return []string{
		"\r\n\r", "\xef\xbb\xbf", "\xff\xfe\x00", "\xfe\xff\xd8\x3d\xde", "\xef\xbb", "é😀\xf0\x9f",
		doctype + middle,
		"\xef\xbb\xbf" + doctype + middle,
		"<meta charset=utf-8>" + middle,
		"\xff\xfe" + sixteen(doctype+"<p>é\r\n😀\r", true) + "\x3d\xd8\x00",
		"\xfe\xff" + sixteen("<title>é\r\n😀&amp;</title>\r", false) + "\xd8\x3d",
		strings.Repeat(" ", maxSniff-9) + middle,
		doctype + strings.Repeat("\r\n", maxSniff/2-20) + "<meta charset=utf-8>" + middle,
		"\xef\xbb\xbf" + strings.Repeat("<b>é\r", maxSniff/6),
		"\xff\xfe" + sixteen(strings.Repeat("<i>😀\r\n", maxSniff/14), true),
	}
}

func TestCutAtEveryByte(t *testing.T) {
	for _, page := range chunkPages() {
		for _, hint := range []string{"", "utf-8", "utf-16be"} {
			want := plain(page, hint, true)
			a, r := parse.Parse([]byte(page), hint, true)
			same(t, "whole", outcome{nodesOf(a), resultOf(r.Encoding, r.Mode, r.Errors...), true}, want)
			for i := range len(page) + 1 {
				same(t, strconv.Quote(page[:min(i, 60)])+" at "+strconv.Itoa(i), parsed(t, hint, true, page[:i], page[i:]), want)
			}
		}
	}
}

func TestByteByByte(t *testing.T) {
	for _, page := range chunkPages() {
		for _, hint := range []string{"", "utf-8", "utf-16le", "l9"} {
			want := plain(page, hint, false)
			same(t, page, parsed(t, hint, false, strings.Split(page, "")...), want)
			p := parse.New(hint, false)
			for i := range len(page) {
				gives(t, "Feed", p.Feed(nil), ok)
				gives(t, "Feed", p.Feed([]byte{page[i]}), ok)
				gives(t, "Feed", p.Feed([]byte{}), ok)
			}
			gives(t, "End", p.End(), ok)
			same(t, page, outcomeOf(p), want)
		}
	}
}

// A mark, a code point, a pair of returns and more that chunks cut, as they are told.
func TestCutThings(t *testing.T) {
	const mark, pad = "\xef\xbb\xbf", "<!DOCTYPE html><body>"
	for _, c := range []struct {
		chunks string
		tree   string
	}{
		{"\xef|\xbb|\xbf" + pad + "é", `"é"`},
		{"\xff||\xfe" + sixteen(pad+"é", true), `"é"`},
		{"\xfe|\xff" + sixteen(pad+"é", false), `"é"`},
		{"\xef|\xbb|" + pad, `"ï»"`},
		{mark + pad + "\xe2|\x82|\xac", `"€"`},
		{mark + pad + "\xe2|\x82|a", `"` + "\ufffd" + `a"`},
		{mark + pad + "\xf0|\x9f||\x98", `"` + "\ufffd" + `"`},
		{"\xff\xfe" + sixteen(pad, true) + "\x3d|\xd8|\x00|\xde", `"😀"`},
		{"\xff\xfe" + sixteen(pad, true) + "\x3d|\xd8|a|\x00", `"` + "\ufffd" + `a"`},
		{pad + "a\r|\nb", `"a\nb"`},
		{pad + "a\r||\nb\r|\rc|\n|\nd", `"a\nb\n\nc\n\nd"`},
		{pad + "a&am|p;b&|#|x41|;", `"a&bA"`},
		{pad + "<|b|>c<|/b|>", `b("c")`},
		{pad + "<|!-|-a-|->", `!"a"`},
		{pad + "<svg><|![CDA|TA[|a]|]|></svg>", `svg:svg("a")`},
		{pad + "<textare|a>|\r|\n<b></text|area>", `textarea("<b>")`},
	} {
		chunks := strings.Split(c.chunks, "|")
		p := fed(t, "", false, chunks...)
		gives(t, "End", p.End(), ok)
		want := "doctype:html html(head body(" + c.tree + "))"
		if strings.HasPrefix(c.tree, `"ï`) { // text ahead of the doctype, which is none then
			want = "html(head body(" + c.tree + "))"
		}
		if got := tell(p.Tree(), 0); got != want {
			t.Errorf("%q: %s; want %s", c.chunks, got, want)
		}
		same(t, c.chunks, outcomeOf(p), plain(strings.Join(chunks, ""), "", false))
	}
}

// Random pages in random chunks, held against a plain reading.
func TestRandomPages(t *testing.T) {
	r := rand.New(rand.NewSource(18))
	for range 3000 {
		page, hint, scripts := randomPage(r), pick(r, "", "", "utf-8", "l9", "utf-16", "none such"), r.Intn(2) == 0
		same(t, strconv.Quote(page)+" "+hint, parsed(t, hint, scripts, randomChunks(r, page)...), plain(page, hint, scripts))
	}
}

func pick(r *rand.Rand, l ...string) string { return l[r.Intn(len(l))] }

func randomPage(r *rand.Rand) string {
	s := pick(r, "", "", "\xef\xbb\xbf", doctype, doctype, "<meta charset=utf-8>", "<!--\r\n-->")
	size := r.Intn(40)
	if r.Intn(4) == 0 {
		s += strings.Repeat(pick(r, " ", "\r\n", "x", "é"), maxSniff/2-10+r.Intn(20))
	}
	for range size {
		s += pick(r, "<p>", "</p>", "<b>", "</b>", "<a href=x>", "</a>", "<table>", "</table>", "<td>", "<tr>", "<select>", "<option>",
			"<svg>", "</svg>", "<math>", "<mi>", "<desc>", "<![CDATA[", "]]>", "<title>", "</title>", "<script>", "</script>", "<textarea>", "</textarea>",
			"<noscript>", "</noscript>", "<template>", "</template>", "<plaintext>", "<frameset>", "<html c>", "<body d>", "</body>", "</html>", "</x y/>",
			"<!--", "-->", "<!", "<", ">", "&amp", "&#0", ";", "\r", "\n", "\r\n", "\x00", "a", "é", "😀", "\xe2", "\x82", "\xff", " ")
	}
	return s
}

func randomChunks(r *rand.Rand, page string) []string {
	cuts := []int{0, len(page)}
	for range r.Intn(12) {
		cuts = append(cuts, r.Intn(len(page)+1))
	}
	slices.Sort(cuts)
	var l []string
	for i := range len(cuts) - 1 {
		l = append(l, page[cuts[i]:cuts[i+1]])
	}
	return l
}
