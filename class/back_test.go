package class_test

import (
	"slices"
	"strconv"
	"strings"
	"testing"

	"hornbeam/api"
	"hornbeam/class"
	"hornbeam/node"
	"hornbeam/parse"
	"hornbeam/show"
)

// P19.1: pages, and the trees that they are in the class with; "" of a page that is not in it.
func TestBack(t *testing.T) {
	none := "<head></head><body></body>"
	body := func(s string) string { return "<head></head><body>" + s + "</body>" }
	for _, c := range []struct{ page, text string }{
		{"", none}, {"x", body("x")}, {" ", none}, {"<p>a<p>b", body("<p>a</p><p>b</p>")}, {"<html><head><body>", none}, {"\n<html> <head>", none},
		{"<title>", "<head><title></title></head><body></body>"}, {"<title>a<b>&amp;", "<head><title>a&lt;b&gt;&amp;</title></head><body></body>"},
		{"<div><p>a</div>b", body("<div><p>a</p></div>b")}, {"<p><div>a", body("<p></p><div>a</div>")}, {"<DIV ID=A>", body(`<div id="A"></div>`)},
		{"<p a b=1 a=2>", body(`<p a="" b="1"></p>`)}, {"<div><body id=a>x", `<head></head><body id="a"><div>x</div></body>`}, {"a</body>b", body("ab")},
		{"<span/>a", body("<span>a</span>")}, {"<body><!-->", body("<!---->")}, {"<body><!--a--!>", body("<!--a-->")}, {"<body><!--a", body("<!--a-->")}, {"<body><?a>", body("<!--?a-->")},
		{"a\x00b", body("ab")}, {"a\r\nb\r", body("a\nb\n")}, {"<p a='\r\"'>", body("<p a=\"\n&quot;\"></p>")}, {"<p a=\x00>", body("<p a=\"\ufffd\"></p>")},
		{"\xff", body("\ufffd")}, {"é\u00a0", body("é&nbsp;")}, {"\xef\xbb\xbfé", body("é")}, {"\xff\xfex\x00\xac\x20", body("x€")}, {"\xfe\xff\x00x", body("x")},
		{"&#0;&#x80;&#xD800;", body("\ufffd€\ufffd")}, {"</x></p>", none}, {"<body></x></p>", body("<p></p>")}, {"<span>a</div>b", body("<span>ab</span>")},
		{"<!DOCTYPE html>", ""}, {"<!DOCTYPE html><p>a", ""}, {"<ul>", ""}, {"<p><b>x", ""}, {"<html lang=a>", ""}, {"<body ID-_=1>", ""}, {"<head a>", ""},
		{"<!--a-->", ""}, {"<html><!--a-->", ""}, {"<head><!--a-->", ""}, {"<head> <title>a", ""}, {"<head></head> <body>", ""}, {"a</body><!--b-->", ""}, {"a</html><!--b-->", ""},
		{"<title a>", ""}, {"<title>a</title><title>b", ""}, {"<meta charset=utf-8>", ""}, {"<body><title>a", ""}, {"a<style>b", ""},
		{"<span><div>", ""}, {"<span><p>", ""}, {"<div>a<ul><p>b", ""}, {"<table>", ""}, {"a<table>b", ""}, {"<template>", ""}, {"<svg>", ""}, {"<math><p>", ""}, {"<frameset>", ""},
		{"<h1>", ""}, {"<br>", ""}, {"</br>", ""}, {"<script>", ""}, {"<noscript>a", ""}, {"<plaintext>", ""}, {"<textarea>", ""}, {"<select>", ""}, {"<a href=x>y</a>", ""}, {"<pre>", ""},
		{"&#13;", none}, {"a&#13;", ""}, {"<p a='&#13;'>", ""}, {"<body><!--a--b-->", ""}, {"<body></-->", ""}, {"<body><!>>", body("<!---->&gt;")}, {"<body><?-->", ""}, {"<p a:b>", ""}, {"<p 1>", ""}, {"<p =>", ""},
		{"<p " + strings.Repeat("a", 50) + ">", body("<p " + strings.Repeat("a", 50) + `=""></p>`)}, {"<p " + strings.Repeat("a", 51) + ">", ""},
		{strings.Repeat("<div>", 198), body(strings.Repeat("<div>", 198) + strings.Repeat("</div>", 198))}, {strings.Repeat("<div>", 199), ""},
	} {
		a, is := class.Back(c.page)
		what := strconv.Quote(short(c.page))
		if is != (c.text != "") || class.In(a) != is {
			t.Errorf("%s: %v", what, is)
		}
		if s, e := class.Text(a); s != c.text || is && e != ok || !is && e != errForm {
			t.Errorf("%s: %q, %d; want %q", what, short(s), e, short(c.text))
		}
		checkTree(t, c.page, a)
		if is {
			checkComesBack(t, what, a, c.text)
		}
	}
}

// checkTree asks whether Back has answered parse.Parse's tree, be it in the class or not.
func checkTree(t *testing.T, s string, a *node.Arena) {
	t.Helper()
	b, _ := parse.Parse([]byte(s), "utf-8", false)
	if a == nil || a.Len() != b.Len() {
		t.Fatalf("%q: another tree", short(s))
	}
	checkSame(t, strconv.Quote(short(s)), b, a)
}

// The hint is utf-8, whatever the page says, and a mark of bytes goes ahead of it; there is no scripting flag.
func TestBackParsesWithAHintAndWithoutScripts(t *testing.T) {
	for _, c := range []struct{ page, shown string }{
		{"é", "| <html>\n|   <head>\n|   <body>\n|     \"é\"\n"},
		{"<meta charset=latin1>é", "| <html>\n|   <head>\n|     <meta>\n|       charset=\"latin1\"\n|   <body>\n|     \"é\"\n"},
		{"\xfe\xff\x00x\x20\xac", "| <html>\n|   <head>\n|   <body>\n|     \"x€\"\n"},
		{"<noscript><link></noscript>", "| <html>\n|   <head>\n|     <noscript>\n|       <link>\n|   <body>\n"},
		{"<p><noscript><i>a", "| <html>\n|   <head>\n|   <body>\n|     <p>\n|       <noscript>\n|         <i>\n|           \"a\"\n"},
	} {
		a, _ := class.Back(c.page)
		if s, _ := show.Show(a, 0); s != c.shown {
			t.Errorf("%q:\n%s; want\n%s", c.page, s, c.shown)
		}
	}
}

// P4, P5: what is answered is new, and stays as it is.
func TestBackAnswersNewTrees(t *testing.T) {
	s := "<head></head><body><p>a</p></body>"
	a, _ := class.Back(s)
	b, _ := class.Back(s)
	was, _ := class.Text(a)
	a.SetData(5, "b")
	checkTree(t, s, b)
	if got, _ := class.Text(a); was != s || got != strings.Replace(s, "a</p>", "b</p>", 1) {
		t.Errorf("%q, then %q", was, got)
	}
	ul, _ := a.Element(0, "ul", nil)
	if a.Link(3, ul, none); class.In(a) || !class.In(b) {
		t.Error("another tree has changed")
	}
	if a.Unlink(ul); !class.In(a) {
		t.Error("without the fault it is not in the class")
	}
}

// A tree that a parser still goes on with is told as it is.
func TestATreeThatIsBeingMade(t *testing.T) {
	p := parse.New("utf-8", false)
	p.Feed([]byte(strings.Repeat("\n", 1024)))
	if class.In(p.Tree()) {
		t.Error("nothing is in the class")
	}
	for _, c := range []struct {
		chunk, text string
	}{
		{"<title>a", ""},
		{"</title><div><p>b<span", "<head><title>a</title></head><body><div><p>b</p></div></body>"},
		{" id=c>", `<head><title>a</title></head><body><div><p>b<span id="c"></span></p></div></body>`},
		{"<ul>", ""},
	} {
		p.Feed([]byte(c.chunk))
		if s, _ := class.Text(p.Tree()); s != c.text || class.In(p.Tree()) != (c.text != "") {
			t.Errorf("%s: %q; want %q", c.chunk, s, c.text)
		}
	}
}

// P19.3: as many nodes as the builder makes: it takes tokens as long as there is room for 64 more.
func TestTheWidestTree(t *testing.T) {
	var kids []thing
	for len(kids) < maxNodes-64-4 {
		kids = append(kids, text("a"), comment(strconv.Itoa(len(kids))))
	}
	x := page(kids...)
	if n := arenaOf(t, x).Len(); n != maxNodes-64 {
		t.Fatalf("%d nodes", n)
	}
	checkClass(t, "wide", x, true)
	for len(kids) < maxNodes-4 {
		kids = append(kids, comment(""))
	}
	x = page(kids...)
	checkAnswers(t, "as many nodes as an arena has", arenaOf(t, x), x, true)
}

// P19.3: texts as long as they may be. What is written is longer than a page may be at once, and comes back in chunks.
func TestTheLongestTexts(t *testing.T) {
	long := strings.Repeat("a&\u00a0\"", maxText/5)
	long += strings.Repeat("b", maxText-len(long))
	x := document(elem("html", elem("head", elem("title", text(long))), elem("body", text(long), elem("p", comment(long)).with("a", long))))
	a := arenaOf(t, x)
	checkAnswers(t, "long", a, x, true)
	var chunks []string
	for chunk := range slices.Chunk([]byte(x.written()), maxInput/3) {
		chunks = append(chunks, string(chunk))
	}
	checkSame(t, "long", a, inChunks(t, chunks...))
}

// A page at the limit comes back at once; parse.Parse takes one that is longer as an empty one.
func TestTheLongestPage(t *testing.T) {
	x := page(text(""))
	x.kids[0].kids[1].kids[0].data = strings.Repeat("a", maxInput-8-len(x.written()))
	checkClass(t, "a page at the limit", x, true)
	x.kids[0].kids[1].kids[0].data += "a"
	a := arenaOf(t, x)
	checkAnswers(t, "a longer page", a, x, true)
	checkSame(t, "a longer page, in chunks", a, inChunks(t, x.written()[:2000], x.written()[2000:]))
	for _, s := range []string{x.written(), strings.Repeat("<ul>", maxInput)} {
		b, is := class.Back(s)
		if n := b.Len(); !is || n != 4 {
			t.Errorf("Back of a longer page: %d nodes, %v", n, is)
		}
	}
}

// Modes, errors and encodings make no difference: In is asked of a tree alone.
func TestTreesThatWereOutside(t *testing.T) {
	for _, s := range []string{"<body><p>a<meta>", "<!DOCTYPE html><p>a", "<p>a</x>"} {
		a, _ := parse.Parse([]byte(s), "", true)
		for id := range a.Len() {
			if x, _ := a.Node(id); x.Name == "meta" || x.Kind == api.KDoctype {
				a.Unlink(id)
			}
		}
		if got, e := class.Text(a); got != "<head></head><body><p>a</p></body>" || e != ok {
			t.Errorf("%s: %q, %d", s, got, e)
		}
	}
}
