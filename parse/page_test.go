package parse_test

import (
	"slices"
	"strings"
	"testing"

	"hornbeam/parse"
)

// P18.1, P18.2: whole pages.
func TestPages(t *testing.T) {
	for _, c := range []struct {
		page   string
		tree   string
		mode   int
		errors string
	}{
		{"", "html(head body)", quirks, "tree"},
		{"x", `html(head body("x"))`, quirks, "tree"},
		{"<!DOCTYPE html>", "doctype:html html(head body)", noQuirks, ""},
		{"<!doctype HTML><title>a&amp;b</title><p>c<p>d", `doctype:html html(head(title("a&b")) body(p("c") p("d")))`, noQuirks, ""},
		{"<!DOCTYPE html><p>a<table>b", `doctype:html html(head body(p("a") "b" table))`, noQuirks, "tree tree"},
		{"<p>a<table>b", `html(head body(p("ab" table)))`, quirks, "tree tree tree"},
		{"<!DOCTYPE html><b><p>1</b>2", `doctype:html html(head body(b p(b("1") "2")))`, noQuirks, "tree"},
		{`<!DOCTYPE html PUBLIC "-//W3C//DTD XHTML 1.0 Transitional//EN" "s"><p>`, "doctype:html html(head body(p))", limited, "tree"},
		{"<!DOCTYPE x>", "doctype:x html(head body)", quirks, "tree"},
		{"<!--a--><!DOCTYPE html><!--b--><html lang=en><!--c--><head><!--d--></head><!--e--><body class=x><!--f--></body><!--g--></html><!--h-->",
			`!"a" doctype:html !"b" html{lang=en}(!"c" head(!"d") !"e" body{class=x}(!"f") !"g") !"h"`, noQuirks, ""},
		{"<!DOCTYPE html>a\r\nb\rc\nd\r\r\ne\n\rf", "doctype:html html(head body(\"a\\nb\\nc\\nd\\n\\ne\\n\\nf\"))", noQuirks, ""},
		{"<!DOCTYPE html><frameset><frame></frameset>", "doctype:html html(head frameset(frame))", noQuirks, ""},
		{"<!DOCTYPE html><template><td>x</template>", `doctype:html html(head(template[td("x")]) body)`, noQuirks, ""},
		{"<!DOCTYPE html><svg viewbox=1><circle/></svg><math><mi>x", `doctype:html html(head body(svg:svg{viewBox=1}(svg:circle) math:math(math:mi("x"))))`, noQuirks, "tree"},
		{"<!DOCTYPE html><script><!--<script></script>--></script><p>", `doctype:html html(head(script("<!--<script></script>-->")) body(p))`, noQuirks, ""},
		{"<!DOCTYPE html><style><b></style><textarea>\n<b></textarea><plaintext></plaintext>", `doctype:html html(head(style("<b>")) body(textarea("<b>") plaintext("</plaintext>")))`, noQuirks, "tree"},
		{"<!DOCTYPE html>a\x00b", `doctype:html html(head body("ab"))`, noQuirks, "unexpected-null-character tree"},
	} {
		for _, hint := range []string{"utf-8", "latin1"} {
			a, r := parse.Parse([]byte(c.page), hint, false)
			if got := tell(a, 0); got != c.tree || r.Mode != c.mode || !slices.Equal(r.Errors, words(c.errors)) {
				t.Errorf("%q:\n%s, %d, %q; want\n%s, %d, %s", c.page, got, r.Mode, r.Errors, c.tree, c.mode, c.errors)
			}
		}
	}
}

// P18.1: with the scripting flag the text of a noscript is one, without it it's a part of the page.
func TestScripts(t *testing.T) {
	for _, c := range []struct {
		page    string
		scripts bool
		tree    string
	}{
		{"<noscript><link></noscript>", false, "html(head(noscript(link)) body)"},
		{"<noscript><link></noscript>", true, `html(head(noscript("<link>")) body)`},
		{"<body><noscript><span>a</noscript>b", false, `html(head body(noscript(span("a")) "b"))`},
		{"<body><noscript><span>a</noscript>b", true, `html(head body(noscript("<span>a") "b"))`},
	} {
		a, _ := parse.Parse([]byte(c.page), "", c.scripts)
		if got := tell(a, 0); got != c.tree {
			t.Errorf("%q, %v: %s; want %s", c.page, c.scripts, got, c.tree)
		}
		p := fed(t, "", c.scripts, c.page)
		p.End()
		if got := tell(p.Tree(), 0); got != c.tree {
			t.Errorf("%q, %v, fed: %s; want %s", c.page, c.scripts, got, c.tree)
		}
	}
}

// P18.1: CDATA sections are asked for at each code point, with the element that is open then.
func TestSections(t *testing.T) {
	const bogus = "cdata-in-html-content"
	for _, c := range []struct{ page, tree, errors string }{
		{"<svg><![CDATA[<a>]]></svg><![CDATA[b]]>", `svg:svg("<a>") !"[CDATA[b]]"`, bogus},
		{"<![CDATA[a]]><svg>", `!"[CDATA[a]]" svg:svg`, bogus + " tree"},
		{"<svg><desc><![CDATA[a]]></desc></svg>", `svg:svg(svg:desc("a"))`, ""},
		{"<svg><desc><b><![CDATA[a]]></b><![CDATA[c]]></svg>", `svg:svg(svg:desc(b(!"[CDATA[a]]") "c"))`, bogus + " tree"},
		{"<math><mi><![CDATA[a]]><p><![CDATA[b]]>", `math:math(math:mi("a" p(!"[CDATA[b]]")))`, bogus + " tree"},
		{"<svg/><![CDATA[a]]>", `svg:svg !"[CDATA[a]]"`, bogus},
		{"<svg><p><![CDATA[a]]>", `svg:svg p(!"[CDATA[a]]")`, "tree " + bogus},
		{"<math><![CDATA[a\r\n\x00]]", `math:math("a\n` + "\ufffd" + `]]")`, "tree eof-in-cdata tree"},
	} {
		a, r := parse.Parse([]byte("<!DOCTYPE html><body>"+c.page), "", false)
		if got, want := tell(a, 0), "doctype:html html(head body("+c.tree+"))"; got != want || !slices.Equal(r.Errors, words(c.errors)) {
			t.Errorf("%q: %s, %q; want %s, %s", c.page, got, r.Errors, want, c.errors)
		}
	}
}

// P18.1: the states that the builder wants, and none for a tag that it passes over, or that is foreign.
func TestStates(t *testing.T) {
	for _, c := range []struct{ page, tree string }{
		{"<title><b></title><b>", `head(title("<b>")) body(b)`},
		{"<style></b></style>&amp;", `head(style("</b>")) body("&")`},
		{"<script>&amp;</SCRIPT ><b>", `head(script("&amp;")) body(b)`},
		{"<body><textarea></b></textarea><b>", `head body(textarea("</b>") b)`},
		{"<body><xmp><b></xmp><iframe><b></iframe><noembed><b></noembed><noframes><b></noframes>", `head body(xmp("<b>") iframe("<b>") noembed("<b>") noframes("<b>"))`},
		{"<body><plaintext><b></plaintext>", `head body(plaintext("<b></plaintext>"))`},
		{"<body><svg><title><b></title></svg>", `head body(svg:svg(svg:title(b)))`},
		{"<body><svg><style><g></style></svg>", `head body(svg:svg(svg:style(svg:g)))`},
		{"<body><select><title><b></title></select>", `head body(select)`},
		{"<frameset><title><frame>", `head frameset(frame)`},
	} {
		a, _ := parse.Parse([]byte("<!DOCTYPE html>"+c.page), "", false)
		if got, want := tell(a, 0), "doctype:html html("+c.tree+")"; got != want {
			t.Errorf("%q: %s; want %s", c.page, got, want)
		}
	}
}

// P18.1: of a code point the lexer's errors come ahead of the tree's, of each token as many as it made.
func TestOrderOfErrors(t *testing.T) {
	for _, c := range []struct{ page, errors string }{
		{"<a", "eof-in-tag tree"},
		{"</x>", "tree tree"},
		{"</x y>", "end-tag-with-attributes tree tree"},
		{"</x y/>a", "end-tag-with-attributes end-tag-with-trailing-solidus tree tree"},
		{"<!DOCTYPE html><p a a>&#0;</b></p b>", "duplicate-attribute null-character-reference tree end-tag-with-attributes"},
		{"<!DOCTYPE html></b c></b d><p/>", "end-tag-with-attributes tree end-tag-with-attributes tree tree"},
		{"<!DOCTYPE html><table>a\x00b<!--", "unexpected-null-character tree eof-in-comment tree tree"},
		{"<!DOCTYPE html>\x00\x00", "unexpected-null-character tree unexpected-null-character tree"},
		{"<!DOCTYPE html><b><!-->", "abrupt-closing-of-empty-comment tree"},
		{"<!DOCTYPE html><body></p></br>&x;", "tree tree unknown-named-character-reference"},
		{"<!DOCTYPE>", "missing-doctype-name tree"},
		{"&#x110000;", "character-reference-outside-unicode-range tree"},
	} {
		_, r := parse.Parse([]byte(c.page), "", false)
		if !slices.Equal(r.Errors, words(c.errors)) {
			t.Errorf("%q: %q; want %s", c.page, r.Errors, c.errors)
		}
	}
}

// P18.1: a new parser, and one that is given the end alone.
func TestNothing(t *testing.T) {
	p, q := parse.New("l9", true), parse.New("l9", true)
	same(t, "New", outcomeOf(p), outcome{nodesOf(p.Tree()), resultOf(utf8, noQuirks), false})
	if p.Tree().Len() != 1 || p.Tree() == q.Tree() {
		t.Errorf("Tree of a new parser: %d nodes", p.Tree().Len())
	}
	feed(t, p, "", "")
	same(t, "no bytes", outcomeOf(p), outcomeOf(q))
	gives(t, "End", p.End(), ok)
	if got := tell(p.Tree(), 0); got != "html(head body)" || !p.Over() {
		t.Errorf("the end alone: %s", got)
	}
	same(t, "the end alone", outcomeOf(p), plain("", "l9", true))
	if q.Tree().Len() != 1 {
		t.Error("another parser has changed")
	}
}

// P18.1: Feed and End behind the end, which change nothing, whatever is fed.
func TestBehindTheEnd(t *testing.T) {
	for _, page := range []string{"", "<p>a", padding + "<p>a\xe2"} {
		p := fed(t, "utf-8", false, page)
		gives(t, "End", p.End(), ok)
		was := outcomeOf(p)
		for _, b := range [][]byte{nil, {}, []byte("b"), make([]byte, maxInput-7), make([]byte, 2*maxInput)} {
			gives(t, "Feed", p.Feed(b), errState)
			gives(t, "End", p.End(), errState)
		}
		same(t, page, outcomeOf(p), was)
	}
}

// P4, P5: what is handed in is neither changed nor kept, and what is answered is new memory.
func TestOwnMemory(t *testing.T) {
	head, tail := []byte("<!DOCTYPE html><p>\x00a"), []byte(padding+"b\xe2\x82")
	p := parse.New("utf-8", false)
	for _, b := range [][]byte{head, tail} {
		was := slices.Clone(b)
		gives(t, "Feed", p.Feed(b), ok)
		if !slices.Equal(b, was) {
			t.Error("Feed changes its chunk")
		}
		for i := range b {
			b[i] = '<'
		}
	}
	for range 2 {
		r := p.Result()
		if !slices.Equal(r.Errors, words("unexpected-null-character tree")) {
			t.Fatalf("%q", r.Errors)
		}
		r.Errors[0], r.Errors[1] = "x", "y"
		_ = append(r.Errors[:0], "z", "z", "z")
	}
	gives(t, "End", p.End(), ok)
	same(t, "a page", outcomeOf(p), plain("<!DOCTYPE html><p>\x00a"+padding+"b\xe2\x82", "utf-8", false))
}

// P5: parsers that go on in turn are as each by itself.
func TestParsersInTurn(t *testing.T) {
	pages := []string{"<!DOCTYPE html><p>a\r", "\xef\xbb\xbf<title>\nb", padding + "<table>c\x00", "<meta charset=l9>\xa4"}
	var l []*parse.Parser
	for range pages {
		l = append(l, parse.New("", true))
	}
	for i := range maxSniff + 20 {
		for k, page := range pages {
			if i < len(page) {
				feed(t, l[k], page[i:i+1])
			}
		}
	}
	for k, page := range pages {
		gives(t, "End", l[k].End(), ok)
		same(t, page, outcomeOf(l[k]), plain(page, "", true))
	}
}

// A parser that was copied as a value is the same parser.
func TestCopiedParser(t *testing.T) {
	page := "<p>a&#0;" + strings.Repeat("b", maxSniff)
	p := fed(t, "", false, page[:7])
	q := *p
	feed(t, &q, page[7:500])
	feed(t, p, page[500:])
	gives(t, "End", q.End(), ok)
	gives(t, "End", p.End(), errState)
	same(t, "the parser", outcomeOf(p), plain(page, "", false))
	same(t, "its copy", outcomeOf(&q), plain(page, "", false))
}
